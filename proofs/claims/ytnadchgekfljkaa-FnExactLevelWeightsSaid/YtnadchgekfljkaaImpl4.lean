/- The contracts of the program's own functions on one row and a base: centre, sides, reactions. -/
import Derived.Test.YtnadchgekfljkaaImpl3
namespace Go.Proofs.Ytnadchgekfljkaa
open Go.RowKit
def baseB (a b : Int) : Bool := decide (0 ≤ a) && decide (a ≤ 60) && (decide (0 ≤ b) && decide (b ≤ 60)) && decide (a ≤ b)
theorem baseB_iff (a b : Int) : baseB a b = true ↔ 0 ≤ a ∧ a ≤ b ∧ b ≤ 60 := by
  unfold baseB
  simp only [Bool.and_eq_true, decide_eq_true_eq]
  omega
/-- What a result's own two cells hold behind calls. -/
theorem res_cells {w w1 : World} {T : TypeId} {x y : Value} (l : Below (w.alloc (.cells #[x, y] T)).heap.size (w.alloc (.cells #[x, y] T)) w1) :
    w1.cell? ⟨w.heap.size, 0, none⟩ = some x ∧ w1.cell? ⟨w.heap.size, 1, none⟩ = some y ∧ w1.frozen? ⟨w.heap.size, 0, none⟩ = false ∧ w1.frozen? ⟨w.heap.size, 1, none⟩ = false ∧ Below w.heap.size w w1 := by
  have hb0 : w.heap.size < (w.alloc (.cells #[x, y] T)).heap.size := by simp
  refine ⟨?_, ?_, ?_, ?_, ((Below.refl _ _).alloc (Nat.le_refl _) _).trans (l.mono (by simp))⟩
  · rw [l.cell (p := ⟨w.heap.size, 0, none⟩) hb0, World.cell?_alloc_at _ _ _ _ rfl]; rfl
  · rw [l.cell (p := ⟨w.heap.size, 1, none⟩) hb0, World.cell?_alloc_at _ _ _ _ rfl]; rfl
  · rw [l.frozen (p := ⟨w.heap.size, 0, none⟩) hb0]; exact World.frozen?_alloc_at _ _ _ _ rfl
  · rw [l.frozen (p := ⟨w.heap.size, 1, none⟩) hb0]; exact World.frozen?_alloc_at _ _ _ _ rfl
theorem two_below {w w1 : World} {g : Nat} (h : Below g w w1) (x y : Value) : Below g w ((w1.setCell ⟨g, 0, none⟩ x).setCell ⟨g, 1, none⟩ y) :=
  (h.setCell (p := ⟨g, 0, none⟩) (Nat.le_refl _) _).setCell (p := ⟨g, 1, none⟩) (Nat.le_refl _) _
end Go.Proofs.Ytnadchgekfljkaa
