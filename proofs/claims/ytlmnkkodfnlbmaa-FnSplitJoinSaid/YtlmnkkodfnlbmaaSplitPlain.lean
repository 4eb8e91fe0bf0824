/- Plain facts on cutting a text at a byte: no program stands here. -/
import Derived.WalkKit
import Derived.Lib.Hide
import Derived.Lib.Strings
namespace Go.Proofs.Ytlmnkkodfnlbmaa
def sp (b : Int) (cur : List UInt8) : List UInt8 → List (List UInt8)
  | [] => [cur]
  | c :: l => if (c.toNat : Int) = b then cur :: sp b [] l else sp b (cur ++ [c]) l
def encT (l : List UInt8) : Value := .string ⟨l.toArray⟩
def cutT (s : ByteArray) (f k : Nat) : List UInt8 := (s.data.toList.drop f).take (k - f)
theorem enc_cut (s : ByteArray) (f k : Nat) : Value.string (s.extract f k) = encT (cutT s f k) := by unfold encT cutT; rw [Lib.extract_eq]
theorem cut_self (s : ByteArray) (k : Nat) : cutT s k k = [] := by simp [cutT]
theorem cut_succ (s : ByteArray) (f k : Nat) (hf : f ≤ k) (h : k < s.size) : cutT s f (k + 1) = cutT s f k ++ [s[k]] := by
  unfold cutT
  have hk : k - f < (s.data.toList.drop f).length := by simp; omega
  rw [show k + 1 - f = (k - f) + 1 by omega, List.take_succ_eq_append_getElem hk]
  congr 2
  rw [List.getElem_drop]
  have e : f + (k - f) = k := by omega
  simp only [e]
  rfl
theorem drop_at (s : ByteArray) (k : Nat) (h : k < s.size) : s.data.toList.drop k = s[k] :: s.data.toList.drop (k + 1) := by
  rw [List.drop_eq_getElem_cons (by simpa using h)]; rfl
/-- What the loop over the text keeps: the parts so far, and those of what is left. -/
def SplitAt (s : ByteArray) (b : Int) (parts : List (List UInt8)) (f k : Nat) : Prop := parts ++ sp b (cutT s f k) (s.data.toList.drop k) = sp b [] s.data.toList
theorem splitAt_start (s : ByteArray) (b : Int) : SplitAt s b [] 0 0 := by simp [SplitAt, cutT]
theorem splitAt_sep {s : ByteArray} {b : Int} {parts : List (List UInt8)} {f k : Nat} (h : SplitAt s b parts f k) (hk : k < s.size) (hb : (s[k].toNat : Int) = b) : SplitAt s b (parts ++ [cutT s f k]) (k + 1) (k + 1) := by
  unfold SplitAt at *
  rw [← h, drop_at s k hk, sp, if_pos hb, cut_self, List.append_assoc, List.singleton_append]
theorem splitAt_on {s : ByteArray} {b : Int} {parts : List (List UInt8)} {f k : Nat} (h : SplitAt s b parts f k) (hf : f ≤ k) (hk : k < s.size) (hb : ¬ (s[k].toNat : Int) = b) : SplitAt s b parts f (k + 1) := by
  unfold SplitAt at *
  rw [← h, drop_at s k hk, sp, if_neg hb, cut_succ s f k hf hk]
theorem splitAt_end {s : ByteArray} {b : Int} {parts : List (List UInt8)} {f : Nat} (h : SplitAt s b parts f s.size) : parts ++ [cutT s f s.size] = sp b [] s.data.toList := by
  unfold SplitAt at *
  rw [← h, List.drop_of_length_le (by simp), sp]
theorem sp_ne (b : Int) (l : List UInt8) : ∀ cur, sp b cur l ≠ [] := by
  induction l with
  | nil => intro cur h; cases h
  | cons c l ih =>
    intro cur
    rw [sp]
    by_cases h : (c.toNat : Int) = b
    · rw [if_pos h]; exact fun x => by cases x
    · rw [if_neg h]; exact ih _
theorem sp_len (b : Int) (l : List UInt8) : ∀ cur, (sp b cur l).length ≤ l.length + 1 := by
  induction l with
  | nil => intro cur; simp [sp]
  | cons c l ih =>
    intro cur
    rw [sp]
    by_cases h : (c.toNat : Int) = b
    · rw [if_pos h]; have := ih []; simp; omega
    · rw [if_neg h]; have := ih (cur ++ [c]); simp; omega
/-- The text ahead of the first such byte. -/
def preT (b : Int) (l : List UInt8) : List UInt8 := l.takeWhile (fun c => !decide ((c.toNat : Int) = b))
theorem sp_head (b : Int) (l : List UInt8) : ∀ cur, (sp b cur l).head? = some (cur ++ preT b l) := by
  induction l with
  | nil => intro cur; simp [sp, preT]
  | cons c l ih =>
    intro cur
    rw [sp]
    by_cases h : (c.toNat : Int) = b
    · rw [if_pos h]; simp [preT, h]
    · rw [if_neg h, ih]; simp [preT, h]
end Go.Proofs.Ytlmnkkodfnlbmaa
