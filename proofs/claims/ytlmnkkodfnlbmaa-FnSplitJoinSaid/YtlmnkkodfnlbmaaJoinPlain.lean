/- Plain facts on joining texts: no program stands here. -/
import Derived.Test.YtlmnkkodfnlbmaaSealPlain
import Derived.Lib.Join
import Derived.Lib.JoinFns
namespace Go.Proofs.Ytlmnkkodfnlbmaa
theorem contains_one (c : UInt8) (l : List UInt8) : Lib.contains l [c] = has (c.toNat : Int) l := by
  unfold Lib.contains
  induction l with
  | nil => rfl
  | cons d l ih =>
    rw [Lib.index]
    have e : ([c] : List UInt8).isPrefixOf (d :: l) = ((d.toNat : Int) == (c.toNat : Int)) := by
      have : (c == d) = ((d.toNat : Int) == (c.toNat : Int)) := by
        rw [Bool.eq_iff_iff]
        simp only [beq_iff_eq]
        constructor
        · rintro rfl; rfl
        · intro h; exact (UInt8.toNat_inj.1 (by omega))
      simp [List.isPrefixOf, this]
    rw [e]
    unfold has at *
    rw [List.any_cons, ← ih]
    cases h : ((d.toNat : Int) == (c.toNat : Int)) with
    | true => simp
    | false =>
      have := Lib.index_ge l [c]
      by_cases h2 : Lib.index l [c] = -1
      · simp [h2]
      · simp [h2]; omega
theorem one_list (t : ByteArray) (h0 : 0 < t.size) (h1 : t.size ≤ 1) : t.data.toList = [t[0]] := by
  have hl : t.data.toList.length = 1 := by simp; omega
  obtain ⟨c, hc⟩ := List.length_eq_one_iff.1 hl
  have e : t[0] = t.data.toList[0]'(by omega) := rfl
  rw [e]
  simp only [hc]
  rfl
/-- The first k texts with the separator between them. -/
def jL (xs : List ByteArray) (t : ByteArray) (k : Nat) : List UInt8 := Lib.join ((xs.take k).map (·.data.toList)) t.data.toList
def jB (xs : List ByteArray) (t : ByteArray) (k : Nat) : ByteArray := ⟨(jL xs t k).toArray⟩
theorem jB_zero (xs : List ByteArray) (t : ByteArray) : jB xs t 0 = ⟨#[]⟩ := rfl
theorem join_snoc (l : List (List UInt8)) (x s : List UInt8) (h : l ≠ []) : Lib.join (l ++ [x]) s = Lib.join l s ++ s ++ x := by
  cases l with
  | nil => exact absurd rfl h
  | cons a r =>
    rw [List.cons_append, Lib.join_cons, Lib.join_cons]
    simp [Lib.joinTail]
theorem take_map_snoc (xs : List ByteArray) (k : Nat) (h : k < xs.length) : (xs.take (k + 1)).map (·.data.toList) = (xs.take k).map (·.data.toList) ++ [(xs.getD k ByteArray.empty).data.toList] := by
  rw [List.take_succ_eq_append_getElem h, List.map_append]
  simp [List.getD, List.getElem?_eq_getElem h]
theorem jB_one (xs : List ByteArray) (t : ByteArray) (h : 0 < xs.length) : (⟨#[]⟩ : ByteArray) ++ xs.getD 0 ByteArray.empty = jB xs t 1 := by
  unfold jB jL
  rw [take_map_snoc xs 0 h]
  simp only [List.take_zero, List.map_nil, List.nil_append]
  rw [Lib.join_one]
  apply ByteArray.ext
  simp
theorem jB_succ (xs : List ByteArray) (t : ByteArray) (k : Nat) (h : k < xs.length) (hk : 0 < k) : jB xs t k ++ t ++ xs.getD k ByteArray.empty = jB xs t (k + 1) := by
  unfold jB jL
  have hne : (xs.take k).map (·.data.toList) ≠ [] := by
    intro e
    have h2 : ((xs.take k).map (·.data.toList)).length = 0 := by rw [e]; rfl
    rw [List.length_map, List.length_take] at h2
    omega
  rw [take_map_snoc xs k h, join_snoc _ _ _ hne]
  apply ByteArray.ext
  simp
theorem jB_size_succ (xs : List ByteArray) (t : ByteArray) (k : Nat) (h : k < xs.length) : (jB xs t k).size ≤ (jB xs t (k + 1)).size := by
  rcases Nat.eq_zero_or_pos k with rfl | hk
  · rw [jB_zero]; exact Nat.zero_le _
  · rw [← jB_succ xs t k h hk, ByteArray.size_append, ByteArray.size_append]; omega
theorem jB_size_le (xs : List ByteArray) (t : ByteArray) (k : Nat) (hk : k ≤ xs.length) : (jB xs t k).size ≤ (jB xs t xs.length).size := by
  have key : ∀ d k, k + d = xs.length → (jB xs t k).size ≤ (jB xs t xs.length).size := by
    intro d
    induction d with
    | zero => intro k e; rw [show k = xs.length by omega]; exact Nat.le_refl _
    | succ d ih =>
      intro k e
      exact Nat.le_trans (jB_size_succ xs t k (by omega)) (ih (k + 1) (by omega))
  exact key (xs.length - k) k (by omega)
/-- The sizes of the first k texts. -/
def tot (xs : List ByteArray) : Nat → Nat
  | 0 => 0
  | k + 1 => tot xs k + (xs.getD k ByteArray.empty).size
theorem jB_size (xs : List ByteArray) (t : ByteArray) (ht : t.size = 1) : ∀ k, k ≤ xs.length → 0 < k → (jB xs t k).size + 1 = tot xs k + k := by
  intro k
  induction k with
  | zero => intro _ h; omega
  | succ k ih =>
    intro hk _
    rcases Nat.eq_zero_or_pos k with rfl | hp
    · rw [← jB_one xs t (by omega), ByteArray.size_append]
      have e : (⟨#[]⟩ : ByteArray).size = 0 := rfl
      simp only [tot, e]
    · have := ih (by omega) hp
      rw [← jB_succ xs t k (by omega) hp, ByteArray.size_append, ByteArray.size_append, ht, tot]
      omega
theorem tot_le (xs : List ByteArray) (k d : Nat) : tot xs k ≤ tot xs (k + d) := by
  induction d with
  | zero => exact Nat.le_refl _
  | succ d ih => rw [← Nat.add_assoc, tot]; omega
/-- What can be joined. -/
structure Joins (xs : List ByteArray) (t : ByteArray) (b : Int) : Prop where
  some : 0 < xs.length
  one : t.size = 1
  free : ∀ k, k < xs.length → has b (xs.getD k ByteArray.empty).data.toList = false
  short : (jB xs t xs.length).size ≤ 4000
end Go.Proofs.Ytlmnkkodfnlbmaa
