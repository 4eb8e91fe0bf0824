/- Plain facts on the search for the fewest stages. No program stands here. -/
import Derived.Test.YtpklccpkgefniaaChP
namespace Go.Proofs.Ytpklccpkgefniaa
/-- The first place that may follow a list of places. -/
def nxF (xs : List Int) : Int := if xs.length = 0 then 0 else xs.getD (xs.length - 1) 0 + 1
/-- The lists that are longer by one place. -/
def kidsF (n : Nat) (xs : List Int) : List (List Int) := (List.range (n - (nxF xs).toNat)).map (fun (j : Nat) => xs ++ [nxF xs + (j : Int)])
/-- All lists of m places. -/
def levF (n : Nat) : Nat → List (List Int)
  | 0 => [[]]
  | m + 1 => (levF n m).flatMap (kidsF n)
/-- All lists of fewer than m places. -/
def uptoF (n : Nat) : Nat → List (List Int)
  | 0 => []
  | m + 1 => uptoF n m ++ levF n m
def everyF (n : Nat) : List (List Int) := uptoF n (n + 1)
/-- What the program's queue is behind i of its lists. -/
def queF (n i : Nat) : List (List Int) := [[]] ++ ((everyF n).take i).flatMap (kidsF n)
theorem lev_len (n m : Nat) : ∀ xs ∈ levF n m, xs.length = m := by
  induction m with
  | zero => intro xs h; simp [levF] at h; subst h; rfl
  | succ m ih =>
    intro xs h
    simp only [levF, List.mem_flatMap, kidsF, List.mem_map, List.mem_range] at h
    obtain ⟨ys, hy, j, _, rfl⟩ := h
    simp [ih ys hy]
theorem last_mem (xs : List Int) (h : xs.length ≠ 0) : xs.getD (xs.length - 1) 0 ∈ xs := by
  rw [List.getD, List.getElem?_eq_getElem (by omega), Option.getD_some]
  exact List.getElem_mem _
theorem lev_in (n m : Nat) : ∀ xs ∈ levF n m, ∀ x ∈ xs, 0 ≤ x ∧ x < n := by
  induction m with
  | zero => intro xs h; simp [levF] at h; subst h; intro x hx; cases hx
  | succ m ih =>
    intro xs h
    simp only [levF, List.mem_flatMap, kidsF, List.mem_map, List.mem_range] at h
    obtain ⟨ys, hy, j, hj, rfl⟩ := h
    intro x hx
    rw [List.mem_append, List.mem_singleton] at hx
    rcases hx with hx | rfl
    · exact ih ys hy x hx
    · have : 0 ≤ nxF ys := by
        unfold nxF
        split
        · omega
        · have := ih ys hy _ (last_mem ys (by assumption)); omega
      omega
theorem nx_in {n m : Nat} {xs : List Int} (h : xs ∈ levF n m) : 0 ≤ nxF xs ∧ nxF xs ≤ n := by
  unfold nxF
  split
  · omega
  · have := lev_in n m xs h _ (last_mem xs (by assumption)); omega
theorem upto_mem {n m : Nat} {xs : List Int} (h : xs ∈ uptoF n m) : ∃ k, k < m ∧ xs ∈ levF n k := by
  induction m with
  | zero => simp [uptoF] at h
  | succ m ih =>
    rw [uptoF, List.mem_append] at h
    rcases h with h | h
    · obtain ⟨k, hk, h⟩ := ih h; exact ⟨k, by omega, h⟩
    · exact ⟨m, by omega, h⟩
/-- The queue grows into all lists, and does not end before them: for a kit of at most 8 stages, reckoned out. -/
def quietB (n : Nat) : Bool := ((everyF n) == [[]] ++ (everyF n).flatMap (kidsF n)) && decide ((everyF n).length ≤ 256)
theorem quiet_all : ∀ n, n ≤ 8 → quietB n = true := by
  intro n hn
  have : n = 0 ∨ n = 1 ∨ n = 2 ∨ n = 3 ∨ n = 4 ∨ n = 5 ∨ n = 6 ∨ n = 7 ∨ n = 8 := by omega
  rcases this with rfl | rfl | rfl | rfl | rfl | rfl | rfl | rfl | rfl <;> decide +kernel
theorem every_is {n : Nat} (hn : n ≤ 8) : everyF n = [[]] ++ (everyF n).flatMap (kidsF n) := by
  have := quiet_all n hn
  unfold quietB at this
  rw [Bool.and_eq_true] at this
  exact eq_of_beq this.1
theorem every_len {n : Nat} (hn : n ≤ 8) : (everyF n).length ≤ 256 := by
  have := quiet_all n hn
  unfold quietB at this
  rw [Bool.and_eq_true] at this
  exact of_decide_eq_true this.2
theorem que_pre {n : Nat} (hn : n ≤ 8) (i : Nat) : queF n i <+: everyF n := by
  conv => rhs; rw [every_is hn]
  unfold queF
  refine (List.prefix_append_right_inj _).2 ?_
  conv => rhs; rw [← List.take_append_drop i (everyF n), List.flatMap_append]
  exact List.prefix_append _ _
theorem que_len {n : Nat} (hn : n ≤ 8) (i : Nat) : (queF n i).length ≤ 256 := Nat.le_trans (que_pre hn i).length_le (every_len hn)
theorem que_at {n : Nat} (hn : n ≤ 8) {i j : Nat} (h : j < (queF n i).length) : (queF n i).getD j [] = (everyF n).getD j [] ∧ j < (everyF n).length := by
  have hp := que_pre hn i
  have hl := hp.length_le
  refine ⟨?_, by omega⟩
  have := hp.getElem h
  rw [List.getD, List.getElem?_eq_getElem h, List.getD, List.getElem?_eq_getElem (by omega), this]
theorem que_mono {n : Nat} (i : Nat) : queF n i <+: queF n (i + 1) := by
  unfold queF
  refine (List.prefix_append_right_inj _).2 ?_
  by_cases h : i < (everyF n).length
  · rw [List.take_add_one, List.getElem?_eq_getElem h, List.flatMap_append]
    exact List.prefix_append _ _
  · rw [List.take_of_length_le (by omega), List.take_of_length_le (by omega)]
    exact List.prefix_refl _
theorem que_next {n i : Nat} (h : i < (everyF n).length) : queF n (i + 1) = queF n i ++ kidsF n ((everyF n).getD i []) := by
  unfold queF
  rw [List.take_add_one, List.getElem?_eq_getElem h, List.flatMap_append, List.getD, List.getElem?_eq_getElem h]
  simp
/-- The queue is at its end only where it holds all lists. -/
def longB (n : Nat) : Bool := (List.range (everyF n).length).all (fun i => decide (i < (queF n i).length))
theorem que_more : ∀ n, n ≤ 8 → longB n = true := by
  intro n hn
  have : n = 0 ∨ n = 1 ∨ n = 2 ∨ n = 3 ∨ n = 4 ∨ n = 5 ∨ n = 6 ∨ n = 7 ∨ n = 8 := by omega
  rcases this with rfl | rfl | rfl | rfl | rfl | rfl | rfl | rfl | rfl <;> decide +kernel
theorem que_end {n : Nat} (hn : n ≤ 8) {i : Nat} (hi : i = (queF n i).length) (hle : i ≤ (everyF n).length) : i = (everyF n).length := by
  by_cases h : i < (everyF n).length
  · have := que_more n hn
    unfold longB at this
    rw [List.all_eq_true] at this
    have := of_decide_eq_true (this i (List.mem_range.2 h))
    omega
  · omega
theorem que_zero (n : Nat) : queF n 0 = [[]] := by simp [queF]
/-- The stages at some places. -/
def pickF (kit : List StageV) (xs : List Int) : List StageV := xs.map (fun x => kit.getD x.toNat stZ)
/-- Whether a gain will do. -/
def doesB (exact : Bool) (g : Int × Int) (n : Int) : Bool := decide (g.1 = n * g.2) || (!exact && decide (n * g.2 < g.1))
def hitB (exact : Bool) (kit : List StageV) (n : Int) (xs : List Int) : Bool := decide (xs.length ≤ 5) && doesB exact (chF (pickF kit xs)) n
def kitB (kit : List StageV) (n : Int) : Bool := allB kit && decide (kit.length ≤ 8) && (decide (1 ≤ n) && decide (n ≤ 1000000))
theorem kitB_iff (kit : List StageV) (n : Int) : kitB kit n = true ↔ (allB kit = true ∧ kit.length ≤ 8) ∧ 1 ≤ n ∧ n ≤ 1000000 := by unfold kitB; simp
def foundF (exact : Bool) (kit : List StageV) (n : Int) : Option (List Int) := if kitB kit n = true then (everyF kit.length).find? (hitB exact kit n) else none
theorem pick_all {kit : List StageV} (h : allB kit = true) {m : Nat} {xs : List Int} (hx : xs ∈ levF kit.length m) : allB (pickF kit xs) = true := by
  rw [allB_iff]
  intro s hs
  unfold pickF at hs
  rw [List.mem_map] at hs
  obtain ⟨x, hx', rfl⟩ := hs
  have := lev_in _ _ xs hx x hx'
  exact allB_at h (by omega)
theorem pick_len (kit : List StageV) (xs : List Int) : (pickF kit xs).length = xs.length := by simp [pickF]
/-- The first hit of a list that is reckoned place by place. -/
theorem find_at {α : Type} (p : α → Bool) (l : List α) (z : α) (i : Nat) (hi : i < l.length) (hp : p (l.getD i z) = true) (hn : ∀ j, j < i → p (l.getD j z) = false) : l.find? p = some (l.getD i z) := by
  rw [List.find?_eq_some_iff_getElem]
  refine ⟨hp, i, hi, ?_, fun j hj => ?_⟩
  · rw [List.getD, List.getElem?_eq_getElem hi]; rfl
  · have := hn j hj
    rw [List.getD, List.getElem?_eq_getElem (by omega), Option.getD_some] at this
    simp [this]
theorem find_no {α : Type} (p : α → Bool) (l : List α) (z : α) (hn : ∀ j, j < l.length → p (l.getD j z) = false) : l.find? p = none := by
  rw [List.find?_eq_none]
  intro x hx
  obtain ⟨j, hj, rfl⟩ := List.mem_iff_getElem.1 hx
  have := hn j hj
  rw [List.getD, List.getElem?_eq_getElem hj, Option.getD_some] at this
  simp [this]
theorem upto_split (n : Nat) : ∀ a b, a < b → ∃ post, uptoF n b = uptoF n a ++ (levF n a ++ post) := by
  intro a b
  induction b with
  | zero => intro h; omega
  | succ b ih =>
    intro h
    by_cases e : a = b
    · subst e; exact ⟨[], by rw [uptoF, List.append_nil]⟩
    · obtain ⟨p, hp⟩ := ih (by omega)
      exact ⟨p ++ levF n b, by rw [uptoF, hp]; simp⟩
/-- The model goes through the levels. -/
theorem found_lev (exact : Bool) (kit : List StageV) (n : Int) (hk : kitB kit n = true) (m i : Nat) (hm : m ≤ kit.length) (hi : i < (levF kit.length m).length)
    (hp : hitB exact kit n ((levF kit.length m).getD i []) = true) (hn : ∀ j, j < i → hitB exact kit n ((levF kit.length m).getD j []) = false) (hu : ∀ xs ∈ uptoF kit.length m, hitB exact kit n xs = false) :
    foundF exact kit n = some ((levF kit.length m).getD i []) := by
  unfold foundF
  rw [if_pos hk]
  obtain ⟨post, hq⟩ := upto_split kit.length m (kit.length + 1) (by omega)
  unfold everyF
  rw [hq, List.find?_append, List.find?_append, find_at _ _ [] i hi hp hn, List.find?_eq_none.2 (fun x hx => by rw [hu x hx]; simp)]
  rfl
theorem found_none (exact : Bool) (kit : List StageV) (n : Int) (hk : kitB kit n = true) (m : Nat) (hm : m = kit.length + 1 ∨ m = 6 ∧ 6 ≤ kit.length) (hu : ∀ xs ∈ uptoF kit.length m, hitB exact kit n xs = false) :
    foundF exact kit n = none := by
  unfold foundF
  rw [if_pos hk]
  rw [List.find?_eq_none]
  intro xs hx
  rcases hm with rfl | ⟨rfl, h6⟩
  · rw [hu xs hx]; simp
  · obtain ⟨k, hk', hl⟩ := upto_mem hx
    by_cases h : k < 6
    · obtain ⟨post, hq⟩ := upto_split kit.length k 6 h
      rw [hu xs (by rw [hq]; simp [hl])]
      simp
    · have := lev_len _ _ xs hl
      unfold hitB
      rw [show decide (xs.length ≤ 5) = false by simp; omega]
      simp
/-- The program goes through its queue. -/
theorem found_que (exact : Bool) (kit : List StageV) (n : Int) (hk : kitB kit n = true) (i : Nat) (hi : i < (everyF kit.length).length)
    (hp : hitB exact kit n ((everyF kit.length).getD i []) = true) (hn : ∀ j, j < i → hitB exact kit n ((everyF kit.length).getD j []) = false) : foundF exact kit n = some ((everyF kit.length).getD i []) := by
  unfold foundF
  rw [if_pos hk]
  exact find_at _ _ _ i hi hp hn
theorem found_que_no (exact : Bool) (kit : List StageV) (n : Int) (hk : kitB kit n = true) (hn : ∀ j, j < (everyF kit.length).length → hitB exact kit n ((everyF kit.length).getD j []) = false) : foundF exact kit n = none := by
  unfold foundF
  rw [if_pos hk]
  exact find_no _ _ _ hn
theorem every_mem {n i : Nat} (hi : i < (everyF n).length) : ∃ m, m ≤ n ∧ (everyF n).getD i [] ∈ levF n m := by
  have : (everyF n).getD i [] ∈ everyF n := by rw [List.getD, List.getElem?_eq_getElem hi, Option.getD_some]; exact List.getElem_mem _
  obtain ⟨m, hm, h⟩ := upto_mem this
  exact ⟨m, by omega, h⟩
end Go.Proofs.Ytpklccpkgefniaa
