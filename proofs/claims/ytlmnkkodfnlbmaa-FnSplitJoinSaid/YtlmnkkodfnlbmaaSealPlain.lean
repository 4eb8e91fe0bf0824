/- Plain facts on sealed texts: no program stands here. -/
import Derived.Test.YtlmnkkodfnlbmaaCkPlain
import Derived.Test.YtlmnkkodfnlbmaaSplitPlain
import Derived.Lib.ItoaLen
import Derived.Lib.IndexMore
import Derived.Lib.IndexLaws
namespace Go.Proofs.Ytlmnkkodfnlbmaa
def has (b : Int) (l : List UInt8) : Bool := l.any (fun c => (c.toNat : Int) == b)
theorem has_snoc (b : Int) (l : List UInt8) (c : UInt8) : has b (l ++ [c]) = (has b l || ((c.toNat : Int) == b)) := by simp [has]
def sealB (s : ByteArray) : ByteArray := s ++ ⟨#[35]⟩ ++ ⟨(Lib.itoa (ck s.data.toList)).toArray⟩
theorem seal_tail (s : ByteArray) : (Lib.itoa (ck s.data.toList)).length ≤ 21 := by
  have := ck_bd s.data.toList
  exact Lib.itoa_length_le _ (by omega) (by omega)
theorem seal_size_eq (s : ByteArray) : (sealB s).size = s.size + 1 + (Lib.itoa (ck s.data.toList)).length := by
  unfold sealB
  rw [ByteArray.size_append, ByteArray.size_append]
  rfl
theorem seal_size (s : ByteArray) : s.size + 1 ≤ (sealB s).size ∧ (sealB s).size ≤ s.size + 22 := by
  have h := seal_tail s
  have e := seal_size_eq s
  omega
/-- What cannot be sealed. -/
def Unseal (s : ByteArray) : Prop := 4000 < s.size ∨ has 35 s.data.toList = true ∨ 4000 < (sealB s).size
def preB (s : ByteArray) : ByteArray := ⟨(preT 35 s.data.toList).toArray⟩
theorem pre_has (l : List UInt8) : has 35 (preT 35 l) = false := by
  induction l with
  | nil => rfl
  | cons c l ih =>
    unfold preT at *
    rw [List.takeWhile_cons]
    by_cases h : (c.toNat : Int) = 35
    · simp [h, has]
    · simp only [h, decide_false, Bool.not_false, if_true]
      unfold has at *
      rw [List.any_cons, ih]
      simp [h]
theorem pre_size (s : ByteArray) : (preB s).size ≤ s.size := by
  show (preT 35 s.data.toList).length ≤ _
  have h : (preT 35 s.data.toList).length ≤ s.data.toList.length := by
    unfold preT
    generalize s.data.toList = l
    induction l with
    | nil => simp
    | cons c l ih => rw [List.takeWhile_cons]; split <;> simp <;> omega
  simpa using h
theorem contains_eq (l : List UInt8) : Lib.contains l [35] = has 35 l := by
  unfold Lib.contains
  induction l with
  | nil => rfl
  | cons c l ih =>
    rw [Lib.index]
    have e : ([35] : List UInt8).isPrefixOf (c :: l) = ((c.toNat : Int) == 35) := by
      have : ((35 : UInt8) == c) = ((c.toNat : Int) == 35) := by
        rw [Bool.eq_iff_iff]
        simp only [beq_iff_eq]
        constructor
        · rintro rfl; rfl
        · intro h; exact (UInt8.toNat_inj.1 (by have : c.toNat = 35 := by omega
                                                rw [this]; rfl)).symm
      simp [List.isPrefixOf, this]
    rw [e]
    unfold has at *
    rw [List.any_cons, ← ih]
    cases h : ((c.toNat : Int) == 35) with
    | true => simp
    | false =>
      have := Lib.index_ge l [35]
      by_cases h2 : Lib.index l [35] = -1
      · simp [h2]
      · simp [h2]; omega
theorem cut_pre (l : List UInt8) : (Lib.cut l [35]).1 = preT 35 l := by
  unfold Lib.cut
  have key : ∀ l : List UInt8, (if 0 ≤ Lib.index l [35] then l.take (Lib.index l [35]).toNat else l) = preT 35 l := by
    intro l
    induction l with
    | nil => rfl
    | cons c l ih =>
      rw [Lib.index]
      have e : ([35] : List UInt8).isPrefixOf (c :: l) = ((c.toNat : Int) == 35) := by
        have : ((35 : UInt8) == c) = ((c.toNat : Int) == 35) := by
          rw [Bool.eq_iff_iff]
          simp only [beq_iff_eq]
          constructor
          · rintro rfl; rfl
          · intro h; exact (UInt8.toNat_inj.1 (by have : c.toNat = 35 := by omega
                                                  rw [this]; rfl)).symm
        simp [List.isPrefixOf, this]
      rw [e]
      unfold preT at *
      rw [List.takeWhile_cons]
      by_cases h : (c.toNat : Int) = 35
      · simp [h]
      · simp only [h, decide_false, Bool.not_false, if_true, beq_iff_eq, if_false]
        have hg := Lib.index_ge l [35]
        by_cases h2 : Lib.index l [35] = -1
        · rw [← ih]; simp [h2]
        · rw [← ih, if_pos (by omega)]
          simp only [h2, if_false]
          rw [if_pos (by omega), show (Lib.index l [35] + 1).toNat = (Lib.index l [35]).toNat + 1 by omega, List.take_succ_cons]
  rw [← key l]
  split <;> rfl
/-- What is not a sealed text. -/
def Unsealed (s : ByteArray) : Prop := 4000 < s.size ∨ ((sealB (preB s)).toList == s.toList) = false
theorem bytes_eq {a b : ByteArray} (h : (a.toList == b.toList) = true) : a = b := by
  rw [Lib.toList_data, Lib.toList_data] at h
  have := eq_of_beq h
  obtain ⟨⟨x⟩⟩ := a
  obtain ⟨⟨y⟩⟩ := b
  have e : x = y := this
  rw [e]
theorem sealed_seals {s : ByteArray} (h : ¬ Unsealed s) : ¬ Unseal (preB s) ∧ ((sealB (preB s)).toList == s.toList) = true := by
  unfold Unsealed at h
  have h1 : s.size ≤ 4000 := by omega
  have h2 : ((sealB (preB s)).toList == s.toList) = true := by
    cases hh : ((sealB (preB s)).toList == s.toList) with
    | true => rfl
    | false => exact absurd (.inr hh) h
  refine ⟨?_, h2⟩
  have h3 := pre_size s
  have h4 : (sealB (preB s)).size = s.size := by rw [bytes_eq h2]
  rintro (h5 | h5 | h5)
  · omega
  · have : (preB s).data.toList = preT 35 s.data.toList := rfl
    rw [this, pre_has] at h5
    cases h5
  · omega
theorem unsealed_or {s : ByteArray} (h : Unsealed s) : Unseal (preB s) ∨ ((sealB (preB s)).toList == s.toList) = false := by
  rcases h with h | h
  · cases hh : ((sealB (preB s)).toList == s.toList) with
    | true =>
      left
      right; right
      rw [bytes_eq hh]
      exact h
    | false => exact .inr rfl
  · exact .inr h
end Go.Proofs.Ytlmnkkodfnlbmaa
