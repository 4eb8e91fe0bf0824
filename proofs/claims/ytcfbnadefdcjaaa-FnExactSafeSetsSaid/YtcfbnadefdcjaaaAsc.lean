/- Plain facts on strictly ascending lists of numbers below n, by their lengths. No program stands here. -/
import Derived.Lib.Hide
namespace Go.Proofs.Ytcfbnadefdcjaaa
/-- The first place that may follow a list of places. -/
def nxF (xs : List Int) : Int := if xs.length = 0 then 0 else xs.getD (xs.length - 1) 0 + 1
/-- The lists that are longer by one place. -/
def kidsF (n : Nat) (xs : List Int) : List (List Int) := (List.range (n - (nxF xs).toNat)).map (fun (j : Nat) => xs ++ [nxF xs + (j : Int)])
/-- All lists of m places. -/
def levF (n : Nat) : Nat → List (List Int)
  | 0 => [[]]
  | m + 1 => (levF n m).flatMap (kidsF n)
/-- All lists of fewer than m places. -/
def uptoF (n : Nat) : Nat → List (List Int)
  | 0 => []
  | m + 1 => uptoF n m ++ levF n m
def everyF (n : Nat) : List (List Int) := uptoF n (n + 1)
/-- What the program's queue is behind i of its lists. -/
def queF (n i : Nat) : List (List Int) := [[]] ++ ((everyF n).take i).flatMap (kidsF n)
theorem lev_len (n m : Nat) : ∀ xs ∈ levF n m, xs.length = m := by
  induction m with
  | zero => intro xs h; simp [levF] at h; subst h; rfl
  | succ m ih =>
    intro xs h
    simp only [levF, List.mem_flatMap, kidsF, List.mem_map, List.mem_range] at h
    obtain ⟨ys, hy, j, _, rfl⟩ := h
    simp [ih ys hy]
theorem last_mem (xs : List Int) (h : xs.length ≠ 0) : xs.getD (xs.length - 1) 0 ∈ xs := by
  rw [List.getD, List.getElem?_eq_getElem (by omega), Option.getD_some]
  exact List.getElem_mem _
theorem lev_in (n m : Nat) : ∀ xs ∈ levF n m, ∀ x ∈ xs, 0 ≤ x ∧ x < n := by
  induction m with
  | zero => intro xs h; simp [levF] at h; subst h; intro x hx; cases hx
  | succ m ih =>
    intro xs h
    simp only [levF, List.mem_flatMap, kidsF, List.mem_map, List.mem_range] at h
    obtain ⟨ys, hy, j, hj, rfl⟩ := h
    intro x hx
    rw [List.mem_append, List.mem_singleton] at hx
    rcases hx with hx | rfl
    · exact ih ys hy x hx
    · have : 0 ≤ nxF ys := by
        unfold nxF
        split
        · omega
        · have := ih ys hy _ (last_mem ys (by assumption)); omega
      omega
theorem nx_in {n m : Nat} {xs : List Int} (h : xs ∈ levF n m) : 0 ≤ nxF xs ∧ nxF xs ≤ n := by
  unfold nxF
  split
  · omega
  · have := lev_in n m xs h _ (last_mem xs (by assumption)); omega
theorem upto_mem {n m : Nat} {xs : List Int} (h : xs ∈ uptoF n m) : ∃ k, k < m ∧ xs ∈ levF n k := by
  induction m with
  | zero => simp [uptoF] at h
  | succ m ih =>
    rw [uptoF, List.mem_append] at h
    rcases h with h | h
    · obtain ⟨k, hk, h⟩ := ih h; exact ⟨k, by omega, h⟩
    · exact ⟨m, by omega, h⟩
/-- Such a list rises, so it has no more than n numbers. -/
theorem lev_nx (n m : Nat) : ∀ xs ∈ levF n m, (m : Int) ≤ nxF xs := by
  induction m with
  | zero => intro xs h; simp [levF] at h; subst h; exact Int.le_refl _
  | succ m ih =>
    intro xs h
    simp only [levF, List.mem_flatMap, kidsF, List.mem_map, List.mem_range] at h
    obtain ⟨ys, hy, j, _, rfl⟩ := h
    have := ih ys hy
    have e : ∀ z : Int, nxF (ys ++ [z]) = z + 1 := fun z => by unfold nxF; rw [if_neg (by simp)]; simp
    rw [e]
    omega
theorem lev_top (n : Nat) : levF n (n + 1) = [] := by
  rw [levF, List.flatMap_eq_nil_iff]
  intro xs h
  have := lev_nx n n xs h
  unfold kidsF
  rw [show n - (nxF xs).toNat = 0 by omega]
  rfl
theorem upto_kids (n m : Nat) : uptoF n (m + 1) = [[]] ++ (uptoF n m).flatMap (kidsF n) := by
  induction m with
  | zero => rfl
  | succ m ih =>
    calc uptoF n (m + 1 + 1) = uptoF n (m + 1) ++ levF n (m + 1) := rfl
      _ = ([[]] ++ (uptoF n m).flatMap (kidsF n)) ++ (levF n m).flatMap (kidsF n) := by rw [ih]; rfl
      _ = [[]] ++ (uptoF n m ++ levF n m).flatMap (kidsF n) := by rw [List.flatMap_append, List.append_assoc]
      _ = [[]] ++ (uptoF n (m + 1)).flatMap (kidsF n) := rfl
theorem every_is (n : Nat) : everyF n = [[]] ++ (everyF n).flatMap (kidsF n) := by
  have h := upto_kids n (n + 1)
  have e : uptoF n (n + 1 + 1) = uptoF n (n + 1) ++ levF n (n + 1) := rfl
  rw [e, lev_top, List.append_nil] at h
  exact h
def manyB (n : Nat) : Bool := decide ((everyF n).length ≤ 4096)
theorem every_len {n : Nat} (hn : n ≤ 12) : (everyF n).length ≤ 4096 := by
  have : manyB n = true := by
    have : n = 0 ∨ n = 1 ∨ n = 2 ∨ n = 3 ∨ n = 4 ∨ n = 5 ∨ n = 6 ∨ n = 7 ∨ n = 8 ∨ n = 9 ∨ n = 10 ∨ n = 11 ∨ n = 12 := by omega
    rcases this with rfl | rfl | rfl | rfl | rfl | rfl | rfl | rfl | rfl | rfl | rfl | rfl | rfl <;> decide +kernel
  exact of_decide_eq_true this
theorem que_pre {n : Nat} (i : Nat) : queF n i <+: everyF n := by
  conv => rhs; rw [every_is n]
  unfold queF
  refine (List.prefix_append_right_inj _).2 ?_
  conv => rhs; rw [← List.take_append_drop i (everyF n), List.flatMap_append]
  exact List.prefix_append _ _
theorem que_len {n : Nat} (hn : n ≤ 12) (i : Nat) : (queF n i).length ≤ 4096 := Nat.le_trans (que_pre i).length_le (every_len hn)
theorem que_at {n i j : Nat} (h : j < (queF n i).length) : (queF n i).getD j [] = (everyF n).getD j [] ∧ j < (everyF n).length := by
  have hp := que_pre (n := n) i
  have hl := hp.length_le
  refine ⟨?_, by omega⟩
  have := hp.getElem h
  rw [List.getD, List.getElem?_eq_getElem h, List.getD, List.getElem?_eq_getElem (by omega), this]
theorem que_mono {n : Nat} (i : Nat) : queF n i <+: queF n (i + 1) := by
  unfold queF
  refine (List.prefix_append_right_inj _).2 ?_
  by_cases h : i < (everyF n).length
  · rw [List.take_add_one, List.getElem?_eq_getElem h, List.flatMap_append]
    exact List.prefix_append _ _
  · rw [List.take_of_length_le (by omega), List.take_of_length_le (by omega)]
    exact List.prefix_refl _
theorem que_next {n i : Nat} (h : i < (everyF n).length) : queF n (i + 1) = queF n i ++ kidsF n ((everyF n).getD i []) := by
  unfold queF
  rw [List.take_add_one, List.getElem?_eq_getElem h, List.flatMap_append, List.getD, List.getElem?_eq_getElem h]
  simp
theorem que_le {n : Nat} (i d : Nat) : (queF n i).length ≤ (queF n (i + d)).length := by
  induction d with
  | zero => exact Nat.le_refl _
  | succ d ih => exact Nat.le_trans ih (que_mono (i + d)).length_le
theorem upto_pre (n : Nat) (m d : Nat) : uptoF n m <+: uptoF n (m + d) := by
  induction d with
  | zero => exact List.prefix_refl _
  | succ d ih => exact ih.trans (by rw [show m + (d + 1) = (m + d) + 1 by omega, uptoF]; exact List.prefix_append _ _)
theorem que_upto {n m : Nat} (hm : m ≤ n + 1) : queF n (uptoF n m).length = uptoF n (m + 1) := by
  unfold queF everyF
  have h : (uptoF n (n + 1)).take (uptoF n m).length = uptoF n m := by
    have := upto_pre n m (n + 1 - m)
    rw [show m + (n + 1 - m) = n + 1 by omega] at this
    exact (List.prefix_iff_eq_take.1 this).symm
  rw [h, upto_kids]
theorem que_more {n i : Nat} (h : i < (everyF n).length) : i < (queF n i).length := by
  have key : ∀ m, m ≤ n + 1 → i < (uptoF n m).length → i < (queF n i).length := by
    intro m
    induction m with
    | zero => intro _ h; simp [uptoF] at h
    | succ m ih =>
      intro hm hi
      by_cases hl : i < (uptoF n m).length
      · exact ih (by omega) hl
      · have h1 := que_upto (n := n) (m := m) (by omega)
        obtain ⟨d, hd⟩ : ∃ d, i = (uptoF n m).length + d := ⟨i - (uptoF n m).length, by omega⟩
        have h2 := que_le (n := n) (uptoF n m).length d
        rw [h1, ← hd] at h2
        omega
  exact key (n + 1) (Nat.le_refl _) h
theorem que_end {n i : Nat} (hi : i = (queF n i).length) (hle : i ≤ (everyF n).length) : i = (everyF n).length := by
  by_cases h : i < (everyF n).length
  · have := que_more h; omega
  · omega
theorem que_zero (n : Nat) : queF n 0 = [[]] := by simp [queF]
theorem every_mem {n i : Nat} (hi : i < (everyF n).length) : ∃ m, m ≤ n ∧ (everyF n).getD i [] ∈ levF n m := by
  have : (everyF n).getD i [] ∈ everyF n := by rw [List.getD, List.getElem?_eq_getElem hi, Option.getD_some]; exact List.getElem_mem _
  obtain ⟨m, hm, h⟩ := upto_mem this
  exact ⟨m, by omega, h⟩
theorem find_at {α : Type} (p : α → Bool) (l : List α) (z : α) (i : Nat) (hi : i < l.length) (hp : p (l.getD i z) = true) (hn : ∀ j, j < i → p (l.getD j z) = false) : l.find? p = some (l.getD i z) := by
  rw [List.find?_eq_some_iff_getElem]
  refine ⟨hp, i, hi, ?_, fun j hj => ?_⟩
  · rw [List.getD, List.getElem?_eq_getElem hi]; rfl
  · have := hn j hj
    rw [List.getD, List.getElem?_eq_getElem (by omega), Option.getD_some] at this
    simp [this]
theorem find_no {α : Type} (p : α → Bool) (l : List α) (z : α) (hn : ∀ j, j < l.length → p (l.getD j z) = false) : l.find? p = none := by
  rw [List.find?_eq_none]
  intro x hx
  obtain ⟨j, hj, rfl⟩ := List.mem_iff_getElem.1 hx
  have := hn j hj
  rw [List.getD, List.getElem?_eq_getElem hj, Option.getD_some] at this
  simp [this]
theorem upto_few {n : Nat} (hn : n ≤ 12) (m : Nat) (hm : m ≤ n + 1) : (uptoF n m).length ≤ 4096 := by
  have := (upto_pre n m (n + 1 - m)).length_le
  rw [show m + (n + 1 - m) = n + 1 by omega] at this
  have h := every_len hn
  unfold everyF at h
  omega
theorem lev_few {n : Nat} (hn : n ≤ 12) (m : Nat) (hm : m ≤ n) : (levF n m).length ≤ 4096 := by
  have := upto_few hn (m + 1) (by omega)
  rw [uptoF, List.length_append] at this
  omega
theorem kids_len (n : Nat) (xs : List Int) : (kidsF n xs).length = n - (nxF xs).toNat := by simp [kidsF]
theorem kids_take (n : Nat) (xs : List Int) (s : Nat) (h : s < n - (nxF xs).toNat) : (kidsF n xs).take (s + 1) = (kidsF n xs).take s ++ [xs ++ [nxF xs + (s : Int)]] := by
  have hl : s < (kidsF n xs).length := by rw [kids_len]; exact h
  rw [List.take_add_one, List.getElem?_eq_getElem hl]
  simp [kidsF]
end Go.Proofs.Ytcfbnadefdcjaaa
