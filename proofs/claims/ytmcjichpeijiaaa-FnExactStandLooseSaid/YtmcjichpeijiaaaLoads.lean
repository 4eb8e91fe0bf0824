/- Rows of loads in memory, and the model's sums over them. -/
import Derived.Test.YtmcjichpeijiaaaPairs
import Derived.Test.YtmcjichpeijiaaaRowPlain
import Derived.Lib.Hide
import Derived.Below
import Derived.WalkKit
import Derived.OwnWalk
import Derived.Deep.QuietTactic
import Derived.BigQuiet
namespace Go.Proofs.Ytmcjichpeijiaaa
open Go.RowKit
/-- The slice value v reads as the loads xs. -/
def LoadRow (w : World) (v : Value) (xs : List (Int × Int)) : Prop :=
  ∃ a c, v = .slice a xs.length c ∧ (xs = [] ∨ ∃ g off, a = some ⟨g, off, none⟩ ∧ g < w.heap.size ∧ ∀ j, j < xs.length → w.cell? ⟨g, off + j * 2, none⟩ = some (.int .i64 (xs.getD j (0, 0)).1) ∧ w.cell? ⟨g, off + j * 2 + 1, none⟩ = some (.int .i64 (xs.getD j (0, 0)).2))
theorem LoadRow.lo {w w' : World} {v : Value} {xs : List (Int × Int)} (h : LoadRow w v xs) (l : Below w.heap.size w w') : LoadRow w' v xs := by
  obtain ⟨a, c, rfl, h⟩ := h
  refine ⟨a, c, rfl, ?_⟩
  rcases h with h | ⟨g, off, e, hg, hc⟩
  · exact .inl h
  · exact .inr ⟨g, off, e, Nat.lt_of_lt_of_le hg l.size, fun j hj => by
      rw [l.cell (p := ⟨g, off + j * 2, none⟩) hg, l.cell (p := ⟨g, off + j * 2 + 1, none⟩) hg]; exact hc j hj⟩
theorem drewN_below (w : World) (n : Nat) : Below w.heap.size w (w.drewN n) := (Below.refl _ _).trans ⟨rfl, rfl, rfl, Nat.le_refl _, fun _ _ => rfl⟩
theorem l1In_any (x a b : Int) (w : World) : Calls Try.prog 83 #[.int .i64 x, .int .i64 a, .int .i64 b] w fun e w' => e = .returned (.bool (decide (a ≤ x) && decide (x ≤ b))) ∧ w = w' := by
  by_cases h1 : a ≤ x
  · by_cases h2 : x ≤ b
    all_goals go_enter Try.func83, Try.ntmps83
    all_goals go_wp2
    all_goals go_ret
    all_goals exact ⟨by simp [h1, h2], rfl⟩
  · go_enter Try.func83, Try.ntmps83
    go_wp2
    go_ret
    exact ⟨by simp; omega, rfl⟩
def rowB (xs : List (Int × Int)) : Bool := decide (xs.length ≤ 12) && xs.all loadB
theorem rowB_iff (xs : List (Int × Int)) : rowB xs = true ↔ RowF xs := by
  rw [rowF_iff]
  simp [rowB]
end Go.Proofs.Ytmcjichpeijiaaa
