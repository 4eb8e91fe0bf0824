/- The contracts of the program's own ReactionsOf and NarrowBase. -/
import Derived.Test.YtcfbnadefdcjaaaImpl4
namespace Go.Proofs.Ytcfbnadefdcjaaa
open Go.RowKit
/-- What two results' own cells hold behind calls. -/
theorem res_cells2 {w w1 : World} {T : TypeId} {x y z u : Value} (l : Below ((w.alloc (.cells #[x, y] T)).alloc (.cells #[z, u] T)).heap.size ((w.alloc (.cells #[x, y] T)).alloc (.cells #[z, u] T)) w1) :
    w1.cell? ⟨w.heap.size, 0, none⟩ = some x ∧ w1.cell? ⟨w.heap.size, 1, none⟩ = some y ∧ w1.frozen? ⟨w.heap.size, 0, none⟩ = false ∧ w1.frozen? ⟨w.heap.size, 1, none⟩ = false ∧
    w1.cell? ⟨w.heap.size + 1, 0, none⟩ = some z ∧ w1.cell? ⟨w.heap.size + 1, 1, none⟩ = some u ∧ w1.frozen? ⟨w.heap.size + 1, 0, none⟩ = false ∧ w1.frozen? ⟨w.heap.size + 1, 1, none⟩ = false ∧ Below w.heap.size w w1 := by
  have hs : (w.alloc (.cells #[x, y] T)).heap.size = w.heap.size + 1 := by simp
  have r := res_cells (w := w.alloc (.cells #[x, y] T)) l
  rw [hs] at r
  have l2 : Below (w.alloc (.cells #[x, y] T)).heap.size (w.alloc (.cells #[x, y] T)) w1 := ((Below.refl _ _).alloc (Nat.le_refl _) _).trans (l.mono (by simp))
  have r2 := res_cells l2
  exact ⟨r2.1, r2.2.1, r2.2.2.1, r2.2.2.2.1, r.1, r.2.1, r.2.2.1, r.2.2.2.1, r2.2.2.2.2⟩
theorem four_set (w : World) (b c : Nat) (hbc : b ≠ c) (u v y z : Value) {x0 x1 x2 x3 : Value} (h1 : w.cell? ⟨b, 0, none⟩ = some x0) (h2 : w.cell? ⟨b, 1, none⟩ = some x1) (h3 : w.cell? ⟨c, 0, none⟩ = some x2) (h4 : w.cell? ⟨c, 1, none⟩ = some x3) :
    ((((w.setCell ⟨b, 0, none⟩ u).setCell ⟨b, 1, none⟩ v).setCell ⟨c, 0, none⟩ y).setCell ⟨c, 1, none⟩ z).cell? ⟨b, 0, none⟩ = some u ∧
    ((((w.setCell ⟨b, 0, none⟩ u).setCell ⟨b, 1, none⟩ v).setCell ⟨c, 0, none⟩ y).setCell ⟨c, 1, none⟩ z).cell? ⟨b, 1, none⟩ = some v ∧
    ((((w.setCell ⟨b, 0, none⟩ u).setCell ⟨b, 1, none⟩ v).setCell ⟨c, 0, none⟩ y).setCell ⟨c, 1, none⟩ z).cell? ⟨c, 0, none⟩ = some y ∧
    ((((w.setCell ⟨b, 0, none⟩ u).setCell ⟨b, 1, none⟩ v).setCell ⟨c, 0, none⟩ y).setCell ⟨c, 1, none⟩ z).cell? ⟨c, 1, none⟩ = some z := by
  have t := two_set w b 0 u v h1 h2
  rw [Nat.zero_add] at t
  have h3' : ((w.setCell ⟨b, 0, none⟩ u).setCell ⟨b, 1, none⟩ v).cell? ⟨c, 0, none⟩ = some x2 := by
    rw [World.cell?_setCell_other _ _ _ _ (fun hh => hbc (congrArg Addr.block hh)), World.cell?_setCell_other _ _ _ _ (fun hh => hbc (congrArg Addr.block hh)), h3]
  have h4' : ((w.setCell ⟨b, 0, none⟩ u).setCell ⟨b, 1, none⟩ v).cell? ⟨c, 1, none⟩ = some x3 := by
    rw [World.cell?_setCell_other _ _ _ _ (fun hh => hbc (congrArg Addr.block hh)), World.cell?_setCell_other _ _ _ _ (fun hh => hbc (congrArg Addr.block hh)), h4]
  have t2 := two_set _ c 0 y z h3' h4'
  rw [Nat.zero_add] at t2
  refine ⟨?_, ?_, t2.1, t2.2.1⟩
  · rw [World.cell?_setCell_other _ _ _ _ (fun hh => hbc (congrArg Addr.block hh).symm), World.cell?_setCell_other _ _ _ _ (fun hh => hbc (congrArg Addr.block hh).symm)]
    exact t.1
  · rw [World.cell?_setCell_other _ _ _ _ (fun hh => hbc (congrArg Addr.block hh).symm), World.cell?_setCell_other _ _ _ _ (fun hh => hbc (congrArg Addr.block hh).symm)]
    exact t.2.1
theorem four_below {w w1 : World} {g : Nat} (h : Below g w w1) (x y z u : Value) : Below g w ((((w1.setCell ⟨g, 0, none⟩ x).setCell ⟨g, 1, none⟩ y).setCell ⟨g + 1, 0, none⟩ z).setCell ⟨g + 1, 1, none⟩ u) :=
  (((two_below h x y).setCell (p := ⟨g + 1, 0, none⟩) (Nat.le_succ _) _)).setCell (p := ⟨g + 1, 1, none⟩) (Nat.le_succ _) _
end Go.Proofs.Ytcfbnadefdcjaaa
