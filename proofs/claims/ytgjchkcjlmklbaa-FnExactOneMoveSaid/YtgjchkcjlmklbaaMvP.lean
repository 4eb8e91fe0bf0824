/- Plain facts on one move and one swap. No program stands here. -/
import Derived.Test.YtgjchkcjlmklbaaGp
namespace Go.Proofs.Ytgjchkcjlmklbaa
theorem off_iff (xs : List (Int × Int)) (p : Int) : offB xs p = true ↔ (RowF xs ∧ 0 ≤ p ∧ p ≤ 60) ∧ momF p xs ≠ 0 := by
  have h := rpB_iff xs p
  unfold rpB at h
  unfold offB offB.rowB'
  rw [Bool.and_eq_true, h, decide_eq_true_iff]
theorem off_no {xs : List (Int × Int)} {p : Int} (h : offB xs p = false) : (mvI xs p = 0 ∧ mvT xs p = 0 ∧ (mvN xs p).isSome = false) ∧ swI xs p = 0 ∧ swJ xs p = 0 ∧ (swN xs p).isSome = false := by
  unfold mvI mvT swI swJ mvN swN
  rw [if_neg (by simp [h]), if_neg (by simp [h])]
  exact ⟨⟨rfl, rfl, rfl⟩, rfl, rfl, rfl⟩
theorem mv_at {xs : List (Int × Int)} {p : Int} (h : offB xs p = true) {k : Nat} (hk : k < xs.length) (hy : mvAt xs (momF p xs) k = true) (hn : ∀ j, j < k → mvAt xs (momF p xs) j = false) :
    mvI xs p = k ∧ mvT xs p = toF xs (momF p xs) k ∧ (mvN xs p).isSome = true := by
  unfold mvI mvT mvN
  rw [if_pos h, first_yes hk hy hn]
  exact ⟨rfl, rfl, rfl⟩
theorem mv_end {xs : List (Int × Int)} {p : Int} (hn : ∀ j, j < xs.length → mvAt xs (momF p xs) j = false) : mvI xs p = 0 ∧ mvT xs p = 0 ∧ (mvN xs p).isSome = false := by
  have e : mvN xs p = none := by
    unfold mvN
    split
    · exact first_no hn
    · rfl
  unfold mvI mvT
  rw [e]
  exact ⟨rfl, rfl, rfl⟩
theorem sw_at {xs : List (Int × Int)} {p : Int} (h : offB xs p = true) {i j : Nat} (hi : i < xs.length) (hj : j < xs.length) (hy : swAt xs (momF p xs) i j = true) (hn : ∀ t, t < j → swAt xs (momF p xs) i t = false) (hr : ∀ t, t < i → (swRow xs (momF p xs) t).isSome = false) :
    swI xs p = i ∧ swJ xs p = j ∧ (swN xs p).isSome = true := by
  have e : swRow xs (momF p xs) i = some j := first_yes hj hy hn
  have e2 : swN xs p = some i := by
    unfold swN
    rw [if_pos h]
    exact first_yes hi (by rw [e]; rfl) hr
  unfold swI swJ
  rw [e2]
  refine ⟨rfl, ?_, rfl⟩
  simp only [e]
theorem sw_row {xs : List (Int × Int)} {M : Int} {i : Nat} (hn : ∀ t, t < xs.length → swAt xs M i t = false) : (swRow xs M i).isSome = false := by
  unfold swRow
  rw [first_no hn]
  rfl
theorem sw_end {xs : List (Int × Int)} {p : Int} (hr : ∀ t, t < xs.length → (swRow xs (momF p xs) t).isSome = false) : swI xs p = 0 ∧ swJ xs p = 0 ∧ (swN xs p).isSome = false := by
  have e : swN xs p = none := by
    unfold swN
    split
    · exact first_no hr
    · rfl
  unfold swI swJ
  rw [e]
  exact ⟨rfl, rfl, rfl⟩
theorem sw_low {xs : List (Int × Int)} {M : Int} {i t : Nat} (h : t ≤ i) : swAt xs M i t = false := by
  unfold swAt
  rw [decide_eq_false (by omega), Bool.false_and]
theorem quo_small {M n : Int} (m0 : -71280 ≤ M) (m1 : M ≤ 71280) : (-71280 ≤ Int.tdiv M n ∧ Int.tdiv M n ≤ 71280) ∧ -71280 ≤ Int.tmod M n ∧ Int.tmod M n ≤ 71280 := by
  have a : (Int.tmod M n).natAbs ≤ M.natAbs := by rw [Int.natAbs_tmod]; exact Nat.mod_le _ _
  have b : (Int.tdiv M n).natAbs ≤ M.natAbs := by rw [Int.natAbs_tdiv]; exact Nat.div_le_self _ _
  omega
theorem row_at {xs : List (Int × Int)} (h : RowF xs) {k : Nat} (hk : k < xs.length) : (0 ≤ (xs.getD k (0, 0)).1 ∧ (xs.getD k (0, 0)).1 ≤ 60) ∧ 1 ≤ (xs.getD k (0, 0)).2 ∧ (xs.getD k (0, 0)).2 ≤ 99 :=
  h.each _ (by rw [List.getD, List.getElem?_eq_getElem hk, Option.getD_some]; exact List.getElem_mem _)
end Go.Proofs.Ytgjchkcjlmklbaa
