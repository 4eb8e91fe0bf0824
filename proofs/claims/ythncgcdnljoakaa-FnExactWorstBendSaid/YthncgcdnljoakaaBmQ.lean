/- Plain facts on the model's forces, place by place. No program stands here. -/
import Derived.Test.YthncgcdnljoakaaBmP
namespace Go.Proofs.Ythncgcdnljoakaa
/-- A list by a function of the place. -/
def rowOf (f : Nat → Int) (n : Nat) : List Int := (List.range n).map f
theorem rowOf_len (f : Nat → Int) (n : Nat) : (rowOf f n).length = n := by simp [rowOf]
theorem rowOf_at (f : Nat → Int) (n j : Nat) (h : j < n) : (rowOf f n).getD j 0 = f j := by simp [rowOf, List.getD, h]
theorem rowOf_succ (f : Nat → Int) (n : Nat) : rowOf f (n + 1) = rowOf f n ++ [f n] := by simp [rowOf, List.range_succ]
theorem rowOf_zero (f : Nat → Int) : rowOf f 0 = [] := rfl
theorem at_bound (q : Int) (fs : List (Int × Int)) (h : ∀ f ∈ fs, (0 ≤ f.1 ∧ f.1 ≤ 60) ∧ -71280 ≤ f.2 ∧ f.2 ≤ 71280) : -(71280 * fs.length : Int) ≤ atL q fs ∧ atL q fs ≤ 71280 * fs.length := by
  induction fs with
  | nil => simp [atL]
  | cons f l ih =>
    have h1 := h f (by simp)
    have h2 := ih (fun g hg => h g (by simp [hg]))
    simp only [atL, List.length_cons]
    split <;> omega
/-- The forces with the loads that are counted so far. -/
def fsK (p : BeamV) (xs : List (Int × Int)) (k : Nat) : List (Int × Int) := (p.a, -momF p.b xs) :: (p.b, momF p.a xs) :: (xs.take k).map (ldF p)
theorem fsK_all (p : BeamV) (xs : List (Int × Int)) : fsK p xs xs.length = fsF p xs := by unfold fsK fsF; rw [List.take_length]
theorem fsK_succ (p : BeamV) (xs : List (Int × Int)) (k : Nat) (h : k < xs.length) : fsK p xs (k + 1) = fsK p xs k ++ [ldF p (xs.getD k (0, 0))] := by
  unfold fsK
  rw [take_one xs k h, List.map_append]
  rfl
theorem fsK_at (p : BeamV) (xs : List (Int × Int)) (k : Nat) (h : k < xs.length) (q : Int) : atL q (fsK p xs (k + 1)) = atL q (fsK p xs k) + if (xs.getD k (0, 0)).1 = q then -(xs.getD k (0, 0)).2 * (p.b - p.a) else 0 := by
  rw [fsK_succ p xs k h, at_app]
  simp only [atL, ldF]
  omega
theorem fsK_fc {p : BeamV} {xs : List (Int × Int)} (h : OnF p xs) (k : Nat) : FcF (fsK p xs k) := by
  have hq := fsF_fc h
  refine ⟨by have := h.row.short; simp [fsK]; omega, fun f hf => hq.each f ?_⟩
  simp only [fsK, fsF, List.mem_cons, List.mem_map] at hf ⊢
  rcases hf with hf | hf | ⟨x, hx, rfl⟩
  · exact .inl hf
  · exact .inr (.inl hf)
  · exact .inr (.inr ⟨x, List.mem_of_mem_take hx, rfl⟩)
theorem fsK_bound {p : BeamV} {xs : List (Int × Int)} (h : OnF p xs) (k : Nat) (q : Int) : -997920 ≤ atL q (fsK p xs k) ∧ atL q (fsK p xs k) ≤ 997920 := by
  have h1 := fsK_fc h k
  have h2 := at_bound q _ h1.each
  have h3 := h1.short
  omega
theorem fsK_zero (p : BeamV) (xs : List (Int × Int)) (h : p.a < p.b) (q : Int) : atL q (fsK p xs 0) = if q = p.b then momF p.a xs else if q = p.a then -momF p.b xs else 0 := by
  simp only [fsK, List.take_zero, List.map_nil, atL]
  by_cases h1 : q = p.b
  · subst h1
    have e : ¬ p.a = p.b := by omega
    simp [e]
  · have e1 : ¬ p.b = q := fun h => h1 h.symm
    by_cases h2 : q = p.a
    · subst h2
      simp [h1, e1]
    · have e2 : ¬ p.a = q := fun h => h2 h.symm
      simp [h1, e1, h2, e2]
end Go.Proofs.Ythncgcdnljoakaa
