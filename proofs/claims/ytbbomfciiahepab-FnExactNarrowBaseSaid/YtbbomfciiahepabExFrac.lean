/- Walks of the laws on centres and reactions. -/
import Derived.Test.YtbbomfciiahepabSpec2
import Derived.Test.YtbbomfciiahepabExRow
namespace Go.Proofs.Ytbbomfciiahepab
open Go.RowKit
/-- What two new cells hold, and hold on. -/
theorem new_cells {w w1 w2 : World} {T : TypeId} {x y : Value} (e : w1 = w.alloc (.cells #[x, y] T)) (l : Below w1.heap.size w1 w2) :
    w2.cell? ⟨w.heap.size, 0, none⟩ = some x ∧ w2.cell? ⟨w.heap.size, 1, none⟩ = some y ∧ Below w.heap.size w w2 := by
  subst e
  have r := res_cells l
  exact ⟨r.1, r.2.1, r.2.2.2.2⟩
theorem keep_cells {w w2 : World} {g : Nat} {x y : Value} (c : w.cell? ⟨g, 0, none⟩ = some x ∧ w.cell? ⟨g, 1, none⟩ = some y) (l : Below w.heap.size w w2) : w2.cell? ⟨g, 0, none⟩ = some x ∧ w2.cell? ⟨g, 1, none⟩ = some y := by
  have hg := cell_lt c.1
  rw [l.cell (p := ⟨g, 0, none⟩) hg, l.cell (p := ⟨g, 1, none⟩) hg]
  exact c
theorem new_cells2 {w w1 w2 : World} {T : TypeId} {x y z u : Value} (e : w1 = (w.alloc (.cells #[x, y] T)).alloc (.cells #[z, u] T)) (l : Below w1.heap.size w1 w2) :
    w2.cell? ⟨w.heap.size, 0, none⟩ = some x ∧ w2.cell? ⟨w.heap.size, 1, none⟩ = some y ∧ w2.cell? ⟨w.heap.size + 1, 0, none⟩ = some z ∧ w2.cell? ⟨w.heap.size + 1, 1, none⟩ = some u ∧ Below w.heap.size w w2 := by
  subst e
  have r := res_cells2 l
  exact ⟨r.1, r.2.1, r.2.2.2.2.1, r.2.2.2.2.2.1, r.2.2.2.2.2.2.2.2⟩
end Go.Proofs.Ytbbomfciiahepab
