/- Plain facts on groups of loads. No program stands here. -/
import Derived.Test.YtcfbnadefdcjaaaAsc
import Derived.Test.YtcfbnadefdcjaaaSwP
namespace Go.Proofs.Ytcfbnadefdcjaaa
/-- The loads of some numbers. -/
def pickL (row : List (Int × Int)) (xs : List Int) : List (Int × Int) := xs.map (fun x => row.getD x.toNat (0, 0))
theorem pickL_len (row : List (Int × Int)) (xs : List Int) : (pickL row xs).length = xs.length := by simp [pickL]
theorem pickL_take (row : List (Int × Int)) (xs : List Int) (k : Nat) (h : k < xs.length) : pickL row (xs.take (k + 1)) = pickL row (xs.take k) ++ [row.getD (xs.getD k 0).toNat (0, 0)] := by
  rw [take_snocI xs k h]
  simp [pickL]
theorem pickL_at (row : List (Int × Int)) (xs : List Int) (k : Nat) (h : k < xs.length) : (pickL row xs).getD k (0, 0) = row.getD (xs.getD k 0).toNat (0, 0) := by
  unfold pickL
  simp [List.getD, List.getElem?_eq_getElem h]
theorem lev_short2 {n m : Nat} {xs : List Int} (h : xs ∈ levF n m) : m ≤ n := by
  have := lev_nx n m xs h
  have := nx_in h
  omega
theorem pickL_row {row : List (Int × Int)} (hz : RowF row) {m : Nat} {xs : List Int} (h : xs ∈ levF row.length m) : RowF (pickL row xs) := by
  refine ⟨?_, fun x hx => ?_⟩
  · have := lev_short2 h
    have := lev_len _ _ xs h
    have := hz.short
    rw [pickL_len]; omega
  · unfold pickL at hx
    rw [List.mem_map] at hx
    obtain ⟨y, hy, rfl⟩ := hx
    have := lev_in _ _ xs h y hy
    refine hz.each _ ?_
    rw [List.getD, List.getElem?_eq_getElem (by omega), Option.getD_some]
    exact List.getElem_mem _
def zeroG (row : List (Int × Int)) (p : Int) (xs : List Int) : Bool := decide (momF p (pickL row xs) = 0)
def groupsF (row : List (Int × Int)) (p : Int) : List (List Int) := (everyF row.length).filter (zeroG row p)
/-- A row and a place. -/
def rpB (row : List (Int × Int)) (p : Int) : Bool := (decide (row.length ≤ 12) && row.all loadB) && (decide (0 ≤ p) && decide (p ≤ 60))
theorem rpB_iff (row : List (Int × Int)) (p : Int) : rpB row p = true ↔ RowF row ∧ 0 ≤ p ∧ p ≤ 60 := by
  unfold rpB
  rw [rowF_iff]
  simp
def cgR (row : List (Int × Int)) (p : Int) : List (List Int) := if rpB row p = true then groupsF row p else []
def zgB (row : List (Int × Int)) (p : Int) : Bool := rpB row p && decide (row.length ≤ 8)
def zgR (row : List (Int × Int)) (p : Int) : List (List Int) := if zgB row p = true then groupsF row p else []
theorem groups_len {row : List (Int × Int)} (h : row.length ≤ 12) (p : Int) : (groupsF row p).length ≤ 4096 := Nat.le_trans (List.length_filter_le _ _) (every_len h)
theorem cgR_len (row : List (Int × Int)) (p : Int) : (cgR row p).length ≤ 4096 := by
  unfold cgR
  split
  · rename_i h; exact groups_len ((rpB_iff row p).1 h).1.short p
  · simp
/-- The groups of fewer than m loads, and the first of those of m. -/
theorem upto_step (row : List (Int × Int)) (p : Int) (m i : Nat) (h : i < (levF row.length m).length) :
    (uptoF row.length m).filter (zeroG row p) ++ ((levF row.length m).take (i + 1)).filter (zeroG row p) = ((uptoF row.length m).filter (zeroG row p) ++ ((levF row.length m).take i).filter (zeroG row p)) ++ (if zeroG row p ((levF row.length m).getD i []) = true then [(levF row.length m).getD i []] else []) := by
  rw [List.append_assoc]
  congr 1
  rw [List.take_add_one, List.getElem?_eq_getElem h, List.filter_append]
  congr 1
  simp only [List.getD, List.getElem?_eq_getElem h, Option.getD_some, Option.toList_some]
  cases hz : zeroG row p (levF row.length m)[i] with
  | true => simp [hz]
  | false => simp [hz]
theorem upto_end (row : List (Int × Int)) (p : Int) (m : Nat) : (uptoF row.length m).filter (zeroG row p) ++ ((levF row.length m).take (levF row.length m).length).filter (zeroG row p) = (uptoF row.length (m + 1)).filter (zeroG row p) := by
  rw [List.take_length, uptoF, List.filter_append]
/-- The number k of a rising list is at least k. -/
theorem lev_rise (n m : Nat) : ∀ xs ∈ levF n m, ∀ j, j < m → (j : Int) ≤ xs.getD j 0 := by
  induction m with
  | zero => intro xs _ j hj; omega
  | succ m ih =>
    intro xs h j hj
    simp only [levF, List.mem_flatMap, kidsF, List.mem_map, List.mem_range] at h
    obtain ⟨ys, hy, i, _, rfl⟩ := h
    have hl := lev_len _ _ ys hy
    have hx := lev_nx _ _ ys hy
    by_cases e : j < m
    · have := ih ys hy j e
      simp only [List.getD] at this ⊢
      rw [List.getElem?_append_left (by omega)]
      exact this
    · obtain rfl : j = m := by omega
      simp only [List.getD]
      rw [List.getElem?_append_right (by omega), hl, Nat.sub_self]
      simp
      omega
theorem lev_zero {n m : Nat} {xs : List Int} (h : xs ∈ levF n m) : xs.contains 0 = (decide (0 < m) && decide (xs.getD 0 0 = 0)) := by
  have hl := lev_len _ _ xs h
  rw [Bool.eq_iff_iff, List.contains_iff_mem, Bool.and_eq_true, decide_eq_true_iff, decide_eq_true_iff]
  constructor
  · intro hm
    obtain ⟨j, hj, e⟩ := List.mem_iff_getElem.1 hm
    have := lev_rise n m xs h j (by omega)
    simp only [List.getD, List.getElem?_eq_getElem hj, Option.getD_some] at this
    have : j = 0 := by omega
    subst this
    exact ⟨by omega, by simp [List.getD, List.getElem?_eq_getElem hj, e]⟩
  · rintro ⟨h0, e⟩
    rw [List.getD, List.getElem?_eq_getElem (by omega), Option.getD_some] at e
    rw [← e]
    exact List.getElem_mem _
/-- A group that holds the load 0 and not all loads. -/
def partB (row : List (Int × Int)) (xs : List Int) : Bool := xs.contains 0 && decide (xs.length < row.length)
def wholeB (row : List (Int × Int)) : Bool := (decide (row.length ≤ 12) && row.all loadB) && (decide (2 ≤ row.length) && decide (Int.tmod (momF 0 row) (wtF row) = 0))
def splitF (row : List (Int × Int)) : Option (List Int) := if wholeB row = true then (groupsF row (Int.tdiv (momF 0 row) (wtF row))).find? (partB row) else none
def spB (row : List (Int × Int)) : Bool := (splitF row).isSome
def spR (row : List (Int × Int)) : List Int := (splitF row).getD []
theorem wholeB_iff (row : List (Int × Int)) : wholeB row = true ↔ RowF row ∧ 2 ≤ row.length ∧ Int.tmod (momF 0 row) (wtF row) = 0 := by
  unfold wholeB
  rw [rowF_iff]
  simp
theorem groups_mem {row : List (Int × Int)} {p : Int} {xs : List Int} (h : xs ∈ groupsF row p) : ∃ m, m ≤ row.length ∧ xs ∈ levF row.length m := by
  have := (List.mem_filter.1 h).1
  obtain ⟨m, hm, h⟩ := upto_mem this
  exact ⟨m, by omega, h⟩
theorem spR_len (row : List (Int × Int)) : (spR row).length ≤ 2000000 := by
  unfold spR splitF
  split
  · rename_i h
    cases hf : (groupsF row (Int.tdiv (momF 0 row) (wtF row))).find? (partB row) with
    | none => simp
    | some xs =>
      obtain ⟨m, hm, hx⟩ := groups_mem (List.mem_of_find?_eq_some hf)
      have := lev_len _ _ xs hx
      have := ((wholeB_iff row).1 h).1.short
      simp only [Option.getD_some]
      omega
  · simp
theorem centre_in {row : List (Int × Int)} (h : RowF row) (hn : row ≠ []) : 0 ≤ Int.tdiv (momF 0 row) (wtF row) ∧ Int.tdiv (momF 0 row) (wtF row) ≤ 60 := by
  have a := mom0_bound row h.each
  have b := (rowF_bounds h).2.2.1 hn
  rw [Int.tdiv_eq_ediv_of_nonneg a.1]
  exact ⟨Int.ediv_nonneg a.1 (by omega), Int.le_of_lt_add_one (Int.ediv_lt_of_lt_mul (by omega) (by omega))⟩
end Go.Proofs.Ytcfbnadefdcjaaa
