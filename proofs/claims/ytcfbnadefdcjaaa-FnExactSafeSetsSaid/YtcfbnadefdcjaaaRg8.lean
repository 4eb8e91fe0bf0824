/- The contracts of the program's decks: made from a set, the full one, with one item more. -/
import Derived.Test.YtcfbnadefdcjaaaRg7
namespace Go.Proofs.Ytcfbnadefdcjaaa
open Go.RowKit
theorem pairs16 {w : World} {g : Nat} {d : List (Int × Int)} (h : PairsR w g 0 d) (hd : d.length = 8) (f : Nat → Int × Int) (hf : at8 d = f) : w.cell? ⟨g, 0, none⟩ = some (.int .i64 (f 0).1) ∧ w.cell? ⟨g, 1, none⟩ = some (.int .i64 (f 0).2) ∧ w.cell? ⟨g, 2, none⟩ = some (.int .i64 (f 1).1) ∧ w.cell? ⟨g, 3, none⟩ = some (.int .i64 (f 1).2) ∧ w.cell? ⟨g, 4, none⟩ = some (.int .i64 (f 2).1) ∧ w.cell? ⟨g, 5, none⟩ = some (.int .i64 (f 2).2) ∧ w.cell? ⟨g, 6, none⟩ = some (.int .i64 (f 3).1) ∧ w.cell? ⟨g, 7, none⟩ = some (.int .i64 (f 3).2) ∧ w.cell? ⟨g, 8, none⟩ = some (.int .i64 (f 4).1) ∧ w.cell? ⟨g, 9, none⟩ = some (.int .i64 (f 4).2) ∧ w.cell? ⟨g, 10, none⟩ = some (.int .i64 (f 5).1) ∧ w.cell? ⟨g, 11, none⟩ = some (.int .i64 (f 5).2) ∧ w.cell? ⟨g, 12, none⟩ = some (.int .i64 (f 6).1) ∧ w.cell? ⟨g, 13, none⟩ = some (.int .i64 (f 6).2) ∧ w.cell? ⟨g, 14, none⟩ = some (.int .i64 (f 7).1) ∧ w.cell? ⟨g, 15, none⟩ = some (.int .i64 (f 7).2) := by
  have e : ∀ j, j < 8 → w.cell? ⟨g, j * 2, none⟩ = some (.int .i64 (f j).1) ∧ w.cell? ⟨g, j * 2 + 1, none⟩ = some (.int .i64 (f j).2) := fun j hj => by
    have := h j (by omega)
    rw [Nat.zero_add] at this
    rw [← hf]
    exact this
  exact ⟨(e 0 (by decide)).1, (e 0 (by decide)).2, (e 1 (by decide)).1, (e 1 (by decide)).2, (e 2 (by decide)).1, (e 2 (by decide)).2, (e 3 (by decide)).1, (e 3 (by decide)).2, (e 4 (by decide)).1, (e 4 (by decide)).2, (e 5 (by decide)).1, (e 5 (by decide)).2, (e 6 (by decide)).1, (e 6 (by decide)).2, (e 7 (by decide)).1, (e 7 (by decide)).2⟩
theorem set16 (w : World) (B : Nat) (f : Nat → Int × Int) (h : ∀ j, j < 16 → ∃ x, w.cell? ⟨B, j, none⟩ = some x) : ((((((((((((((((w.setCell ⟨B, 0, none⟩ (.int .i64 (f 0).1)).setCell ⟨B, 1, none⟩ (.int .i64 (f 0).2)).setCell ⟨B, 2, none⟩ (.int .i64 (f 1).1)).setCell ⟨B, 3, none⟩ (.int .i64 (f 1).2)).setCell ⟨B, 4, none⟩ (.int .i64 (f 2).1)).setCell ⟨B, 5, none⟩ (.int .i64 (f 2).2)).setCell ⟨B, 6, none⟩ (.int .i64 (f 3).1)).setCell ⟨B, 7, none⟩ (.int .i64 (f 3).2)).setCell ⟨B, 8, none⟩ (.int .i64 (f 4).1)).setCell ⟨B, 9, none⟩ (.int .i64 (f 4).2)).setCell ⟨B, 10, none⟩ (.int .i64 (f 5).1)).setCell ⟨B, 11, none⟩ (.int .i64 (f 5).2)).setCell ⟨B, 12, none⟩ (.int .i64 (f 6).1)).setCell ⟨B, 13, none⟩ (.int .i64 (f 6).2)).setCell ⟨B, 14, none⟩ (.int .i64 (f 7).1)).setCell ⟨B, 15, none⟩ (.int .i64 (f 7).2)).cell? ⟨B, 0, none⟩ = some (.int .i64 (f 0).1) ∧ ((((((((((((((((w.setCell ⟨B, 0, none⟩ (.int .i64 (f 0).1)).setCell ⟨B, 1, none⟩ (.int .i64 (f 0).2)).setCell ⟨B, 2, none⟩ (.int .i64 (f 1).1)).setCell ⟨B, 3, none⟩ (.int .i64 (f 1).2)).setCell ⟨B, 4, none⟩ (.int .i64 (f 2).1)).setCell ⟨B, 5, none⟩ (.int .i64 (f 2).2)).setCell ⟨B, 6, none⟩ (.int .i64 (f 3).1)).setCell ⟨B, 7, none⟩ (.int .i64 (f 3).2)).setCell ⟨B, 8, none⟩ (.int .i64 (f 4).1)).setCell ⟨B, 9, none⟩ (.int .i64 (f 4).2)).setCell ⟨B, 10, none⟩ (.int .i64 (f 5).1)).setCell ⟨B, 11, none⟩ (.int .i64 (f 5).2)).setCell ⟨B, 12, none⟩ (.int .i64 (f 6).1)).setCell ⟨B, 13, none⟩ (.int .i64 (f 6).2)).setCell ⟨B, 14, none⟩ (.int .i64 (f 7).1)).setCell ⟨B, 15, none⟩ (.int .i64 (f 7).2)).cell? ⟨B, 1, none⟩ = some (.int .i64 (f 0).2) ∧ ((((((((((((((((w.setCell ⟨B, 0, none⟩ (.int .i64 (f 0).1)).setCell ⟨B, 1, none⟩ (.int .i64 (f 0).2)).setCell ⟨B, 2, none⟩ (.int .i64 (f 1).1)).setCell ⟨B, 3, none⟩ (.int .i64 (f 1).2)).setCell ⟨B, 4, none⟩ (.int .i64 (f 2).1)).setCell ⟨B, 5, none⟩ (.int .i64 (f 2).2)).setCell ⟨B, 6, none⟩ (.int .i64 (f 3).1)).setCell ⟨B, 7, none⟩ (.int .i64 (f 3).2)).setCell ⟨B, 8, none⟩ (.int .i64 (f 4).1)).setCell ⟨B, 9, none⟩ (.int .i64 (f 4).2)).setCell ⟨B, 10, none⟩ (.int .i64 (f 5).1)).setCell ⟨B, 11, none⟩ (.int .i64 (f 5).2)).setCell ⟨B, 12, none⟩ (.int .i64 (f 6).1)).setCell ⟨B, 13, none⟩ (.int .i64 (f 6).2)).setCell ⟨B, 14, none⟩ (.int .i64 (f 7).1)).setCell ⟨B, 15, none⟩ (.int .i64 (f 7).2)).cell? ⟨B, 2, none⟩ = some (.int .i64 (f 1).1) ∧ ((((((((((((((((w.setCell ⟨B, 0, none⟩ (.int .i64 (f 0).1)).setCell ⟨B, 1, none⟩ (.int .i64 (f 0).2)).setCell ⟨B, 2, none⟩ (.int .i64 (f 1).1)).setCell ⟨B, 3, none⟩ (.int .i64 (f 1).2)).setCell ⟨B, 4, none⟩ (.int .i64 (f 2).1)).setCell ⟨B, 5, none⟩ (.int .i64 (f 2).2)).setCell ⟨B, 6, none⟩ (.int .i64 (f 3).1)).setCell ⟨B, 7, none⟩ (.int .i64 (f 3).2)).setCell ⟨B, 8, none⟩ (.int .i64 (f 4).1)).setCell ⟨B, 9, none⟩ (.int .i64 (f 4).2)).setCell ⟨B, 10, none⟩ (.int .i64 (f 5).1)).setCell ⟨B, 11, none⟩ (.int .i64 (f 5).2)).setCell ⟨B, 12, none⟩ (.int .i64 (f 6).1)).setCell ⟨B, 13, none⟩ (.int .i64 (f 6).2)).setCell ⟨B, 14, none⟩ (.int .i64 (f 7).1)).setCell ⟨B, 15, none⟩ (.int .i64 (f 7).2)).cell? ⟨B, 3, none⟩ = some (.int .i64 (f 1).2) ∧ ((((((((((((((((w.setCell ⟨B, 0, none⟩ (.int .i64 (f 0).1)).setCell ⟨B, 1, none⟩ (.int .i64 (f 0).2)).setCell ⟨B, 2, none⟩ (.int .i64 (f 1).1)).setCell ⟨B, 3, none⟩ (.int .i64 (f 1).2)).setCell ⟨B, 4, none⟩ (.int .i64 (f 2).1)).setCell ⟨B, 5, none⟩ (.int .i64 (f 2).2)).setCell ⟨B, 6, none⟩ (.int .i64 (f 3).1)).setCell ⟨B, 7, none⟩ (.int .i64 (f 3).2)).setCell ⟨B, 8, none⟩ (.int .i64 (f 4).1)).setCell ⟨B, 9, none⟩ (.int .i64 (f 4).2)).setCell ⟨B, 10, none⟩ (.int .i64 (f 5).1)).setCell ⟨B, 11, none⟩ (.int .i64 (f 5).2)).setCell ⟨B, 12, none⟩ (.int .i64 (f 6).1)).setCell ⟨B, 13, none⟩ (.int .i64 (f 6).2)).setCell ⟨B, 14, none⟩ (.int .i64 (f 7).1)).setCell ⟨B, 15, none⟩ (.int .i64 (f 7).2)).cell? ⟨B, 4, none⟩ = some (.int .i64 (f 2).1) ∧ ((((((((((((((((w.setCell ⟨B, 0, none⟩ (.int .i64 (f 0).1)).setCell ⟨B, 1, none⟩ (.int .i64 (f 0).2)).setCell ⟨B, 2, none⟩ (.int .i64 (f 1).1)).setCell ⟨B, 3, none⟩ (.int .i64 (f 1).2)).setCell ⟨B, 4, none⟩ (.int .i64 (f 2).1)).setCell ⟨B, 5, none⟩ (.int .i64 (f 2).2)).setCell ⟨B, 6, none⟩ (.int .i64 (f 3).1)).setCell ⟨B, 7, none⟩ (.int .i64 (f 3).2)).setCell ⟨B, 8, none⟩ (.int .i64 (f 4).1)).setCell ⟨B, 9, none⟩ (.int .i64 (f 4).2)).setCell ⟨B, 10, none⟩ (.int .i64 (f 5).1)).setCell ⟨B, 11, none⟩ (.int .i64 (f 5).2)).setCell ⟨B, 12, none⟩ (.int .i64 (f 6).1)).setCell ⟨B, 13, none⟩ (.int .i64 (f 6).2)).setCell ⟨B, 14, none⟩ (.int .i64 (f 7).1)).setCell ⟨B, 15, none⟩ (.int .i64 (f 7).2)).cell? ⟨B, 5, none⟩ = some (.int .i64 (f 2).2) ∧ ((((((((((((((((w.setCell ⟨B, 0, none⟩ (.int .i64 (f 0).1)).setCell ⟨B, 1, none⟩ (.int .i64 (f 0).2)).setCell ⟨B, 2, none⟩ (.int .i64 (f 1).1)).setCell ⟨B, 3, none⟩ (.int .i64 (f 1).2)).setCell ⟨B, 4, none⟩ (.int .i64 (f 2).1)).setCell ⟨B, 5, none⟩ (.int .i64 (f 2).2)).setCell ⟨B, 6, none⟩ (.int .i64 (f 3).1)).setCell ⟨B, 7, none⟩ (.int .i64 (f 3).2)).setCell ⟨B, 8, none⟩ (.int .i64 (f 4).1)).setCell ⟨B, 9, none⟩ (.int .i64 (f 4).2)).setCell ⟨B, 10, none⟩ (.int .i64 (f 5).1)).setCell ⟨B, 11, none⟩ (.int .i64 (f 5).2)).setCell ⟨B, 12, none⟩ (.int .i64 (f 6).1)).setCell ⟨B, 13, none⟩ (.int .i64 (f 6).2)).setCell ⟨B, 14, none⟩ (.int .i64 (f 7).1)).setCell ⟨B, 15, none⟩ (.int .i64 (f 7).2)).cell? ⟨B, 6, none⟩ = some (.int .i64 (f 3).1) ∧ ((((((((((((((((w.setCell ⟨B, 0, none⟩ (.int .i64 (f 0).1)).setCell ⟨B, 1, none⟩ (.int .i64 (f 0).2)).setCell ⟨B, 2, none⟩ (.int .i64 (f 1).1)).setCell ⟨B, 3, none⟩ (.int .i64 (f 1).2)).setCell ⟨B, 4, none⟩ (.int .i64 (f 2).1)).setCell ⟨B, 5, none⟩ (.int .i64 (f 2).2)).setCell ⟨B, 6, none⟩ (.int .i64 (f 3).1)).setCell ⟨B, 7, none⟩ (.int .i64 (f 3).2)).setCell ⟨B, 8, none⟩ (.int .i64 (f 4).1)).setCell ⟨B, 9, none⟩ (.int .i64 (f 4).2)).setCell ⟨B, 10, none⟩ (.int .i64 (f 5).1)).setCell ⟨B, 11, none⟩ (.int .i64 (f 5).2)).setCell ⟨B, 12, none⟩ (.int .i64 (f 6).1)).setCell ⟨B, 13, none⟩ (.int .i64 (f 6).2)).setCell ⟨B, 14, none⟩ (.int .i64 (f 7).1)).setCell ⟨B, 15, none⟩ (.int .i64 (f 7).2)).cell? ⟨B, 7, none⟩ = some (.int .i64 (f 3).2) ∧ ((((((((((((((((w.setCell ⟨B, 0, none⟩ (.int .i64 (f 0).1)).setCell ⟨B, 1, none⟩ (.int .i64 (f 0).2)).setCell ⟨B, 2, none⟩ (.int .i64 (f 1).1)).setCell ⟨B, 3, none⟩ (.int .i64 (f 1).2)).setCell ⟨B, 4, none⟩ (.int .i64 (f 2).1)).setCell ⟨B, 5, none⟩ (.int .i64 (f 2).2)).setCell ⟨B, 6, none⟩ (.int .i64 (f 3).1)).setCell ⟨B, 7, none⟩ (.int .i64 (f 3).2)).setCell ⟨B, 8, none⟩ (.int .i64 (f 4).1)).setCell ⟨B, 9, none⟩ (.int .i64 (f 4).2)).setCell ⟨B, 10, none⟩ (.int .i64 (f 5).1)).setCell ⟨B, 11, none⟩ (.int .i64 (f 5).2)).setCell ⟨B, 12, none⟩ (.int .i64 (f 6).1)).setCell ⟨B, 13, none⟩ (.int .i64 (f 6).2)).setCell ⟨B, 14, none⟩ (.int .i64 (f 7).1)).setCell ⟨B, 15, none⟩ (.int .i64 (f 7).2)).cell? ⟨B, 8, none⟩ = some (.int .i64 (f 4).1) ∧ ((((((((((((((((w.setCell ⟨B, 0, none⟩ (.int .i64 (f 0).1)).setCell ⟨B, 1, none⟩ (.int .i64 (f 0).2)).setCell ⟨B, 2, none⟩ (.int .i64 (f 1).1)).setCell ⟨B, 3, none⟩ (.int .i64 (f 1).2)).setCell ⟨B, 4, none⟩ (.int .i64 (f 2).1)).setCell ⟨B, 5, none⟩ (.int .i64 (f 2).2)).setCell ⟨B, 6, none⟩ (.int .i64 (f 3).1)).setCell ⟨B, 7, none⟩ (.int .i64 (f 3).2)).setCell ⟨B, 8, none⟩ (.int .i64 (f 4).1)).setCell ⟨B, 9, none⟩ (.int .i64 (f 4).2)).setCell ⟨B, 10, none⟩ (.int .i64 (f 5).1)).setCell ⟨B, 11, none⟩ (.int .i64 (f 5).2)).setCell ⟨B, 12, none⟩ (.int .i64 (f 6).1)).setCell ⟨B, 13, none⟩ (.int .i64 (f 6).2)).setCell ⟨B, 14, none⟩ (.int .i64 (f 7).1)).setCell ⟨B, 15, none⟩ (.int .i64 (f 7).2)).cell? ⟨B, 9, none⟩ = some (.int .i64 (f 4).2) ∧ ((((((((((((((((w.setCell ⟨B, 0, none⟩ (.int .i64 (f 0).1)).setCell ⟨B, 1, none⟩ (.int .i64 (f 0).2)).setCell ⟨B, 2, none⟩ (.int .i64 (f 1).1)).setCell ⟨B, 3, none⟩ (.int .i64 (f 1).2)).setCell ⟨B, 4, none⟩ (.int .i64 (f 2).1)).setCell ⟨B, 5, none⟩ (.int .i64 (f 2).2)).setCell ⟨B, 6, none⟩ (.int .i64 (f 3).1)).setCell ⟨B, 7, none⟩ (.int .i64 (f 3).2)).setCell ⟨B, 8, none⟩ (.int .i64 (f 4).1)).setCell ⟨B, 9, none⟩ (.int .i64 (f 4).2)).setCell ⟨B, 10, none⟩ (.int .i64 (f 5).1)).setCell ⟨B, 11, none⟩ (.int .i64 (f 5).2)).setCell ⟨B, 12, none⟩ (.int .i64 (f 6).1)).setCell ⟨B, 13, none⟩ (.int .i64 (f 6).2)).setCell ⟨B, 14, none⟩ (.int .i64 (f 7).1)).setCell ⟨B, 15, none⟩ (.int .i64 (f 7).2)).cell? ⟨B, 10, none⟩ = some (.int .i64 (f 5).1) ∧ ((((((((((((((((w.setCell ⟨B, 0, none⟩ (.int .i64 (f 0).1)).setCell ⟨B, 1, none⟩ (.int .i64 (f 0).2)).setCell ⟨B, 2, none⟩ (.int .i64 (f 1).1)).setCell ⟨B, 3, none⟩ (.int .i64 (f 1).2)).setCell ⟨B, 4, none⟩ (.int .i64 (f 2).1)).setCell ⟨B, 5, none⟩ (.int .i64 (f 2).2)).setCell ⟨B, 6, none⟩ (.int .i64 (f 3).1)).setCell ⟨B, 7, none⟩ (.int .i64 (f 3).2)).setCell ⟨B, 8, none⟩ (.int .i64 (f 4).1)).setCell ⟨B, 9, none⟩ (.int .i64 (f 4).2)).setCell ⟨B, 10, none⟩ (.int .i64 (f 5).1)).setCell ⟨B, 11, none⟩ (.int .i64 (f 5).2)).setCell ⟨B, 12, none⟩ (.int .i64 (f 6).1)).setCell ⟨B, 13, none⟩ (.int .i64 (f 6).2)).setCell ⟨B, 14, none⟩ (.int .i64 (f 7).1)).setCell ⟨B, 15, none⟩ (.int .i64 (f 7).2)).cell? ⟨B, 11, none⟩ = some (.int .i64 (f 5).2) ∧ ((((((((((((((((w.setCell ⟨B, 0, none⟩ (.int .i64 (f 0).1)).setCell ⟨B, 1, none⟩ (.int .i64 (f 0).2)).setCell ⟨B, 2, none⟩ (.int .i64 (f 1).1)).setCell ⟨B, 3, none⟩ (.int .i64 (f 1).2)).setCell ⟨B, 4, none⟩ (.int .i64 (f 2).1)).setCell ⟨B, 5, none⟩ (.int .i64 (f 2).2)).setCell ⟨B, 6, none⟩ (.int .i64 (f 3).1)).setCell ⟨B, 7, none⟩ (.int .i64 (f 3).2)).setCell ⟨B, 8, none⟩ (.int .i64 (f 4).1)).setCell ⟨B, 9, none⟩ (.int .i64 (f 4).2)).setCell ⟨B, 10, none⟩ (.int .i64 (f 5).1)).setCell ⟨B, 11, none⟩ (.int .i64 (f 5).2)).setCell ⟨B, 12, none⟩ (.int .i64 (f 6).1)).setCell ⟨B, 13, none⟩ (.int .i64 (f 6).2)).setCell ⟨B, 14, none⟩ (.int .i64 (f 7).1)).setCell ⟨B, 15, none⟩ (.int .i64 (f 7).2)).cell? ⟨B, 12, none⟩ = some (.int .i64 (f 6).1) ∧ ((((((((((((((((w.setCell ⟨B, 0, none⟩ (.int .i64 (f 0).1)).setCell ⟨B, 1, none⟩ (.int .i64 (f 0).2)).setCell ⟨B, 2, none⟩ (.int .i64 (f 1).1)).setCell ⟨B, 3, none⟩ (.int .i64 (f 1).2)).setCell ⟨B, 4, none⟩ (.int .i64 (f 2).1)).setCell ⟨B, 5, none⟩ (.int .i64 (f 2).2)).setCell ⟨B, 6, none⟩ (.int .i64 (f 3).1)).setCell ⟨B, 7, none⟩ (.int .i64 (f 3).2)).setCell ⟨B, 8, none⟩ (.int .i64 (f 4).1)).setCell ⟨B, 9, none⟩ (.int .i64 (f 4).2)).setCell ⟨B, 10, none⟩ (.int .i64 (f 5).1)).setCell ⟨B, 11, none⟩ (.int .i64 (f 5).2)).setCell ⟨B, 12, none⟩ (.int .i64 (f 6).1)).setCell ⟨B, 13, none⟩ (.int .i64 (f 6).2)).setCell ⟨B, 14, none⟩ (.int .i64 (f 7).1)).setCell ⟨B, 15, none⟩ (.int .i64 (f 7).2)).cell? ⟨B, 13, none⟩ = some (.int .i64 (f 6).2) ∧ ((((((((((((((((w.setCell ⟨B, 0, none⟩ (.int .i64 (f 0).1)).setCell ⟨B, 1, none⟩ (.int .i64 (f 0).2)).setCell ⟨B, 2, none⟩ (.int .i64 (f 1).1)).setCell ⟨B, 3, none⟩ (.int .i64 (f 1).2)).setCell ⟨B, 4, none⟩ (.int .i64 (f 2).1)).setCell ⟨B, 5, none⟩ (.int .i64 (f 2).2)).setCell ⟨B, 6, none⟩ (.int .i64 (f 3).1)).setCell ⟨B, 7, none⟩ (.int .i64 (f 3).2)).setCell ⟨B, 8, none⟩ (.int .i64 (f 4).1)).setCell ⟨B, 9, none⟩ (.int .i64 (f 4).2)).setCell ⟨B, 10, none⟩ (.int .i64 (f 5).1)).setCell ⟨B, 11, none⟩ (.int .i64 (f 5).2)).setCell ⟨B, 12, none⟩ (.int .i64 (f 6).1)).setCell ⟨B, 13, none⟩ (.int .i64 (f 6).2)).setCell ⟨B, 14, none⟩ (.int .i64 (f 7).1)).setCell ⟨B, 15, none⟩ (.int .i64 (f 7).2)).cell? ⟨B, 14, none⟩ = some (.int .i64 (f 7).1) ∧ ((((((((((((((((w.setCell ⟨B, 0, none⟩ (.int .i64 (f 0).1)).setCell ⟨B, 1, none⟩ (.int .i64 (f 0).2)).setCell ⟨B, 2, none⟩ (.int .i64 (f 1).1)).setCell ⟨B, 3, none⟩ (.int .i64 (f 1).2)).setCell ⟨B, 4, none⟩ (.int .i64 (f 2).1)).setCell ⟨B, 5, none⟩ (.int .i64 (f 2).2)).setCell ⟨B, 6, none⟩ (.int .i64 (f 3).1)).setCell ⟨B, 7, none⟩ (.int .i64 (f 3).2)).setCell ⟨B, 8, none⟩ (.int .i64 (f 4).1)).setCell ⟨B, 9, none⟩ (.int .i64 (f 4).2)).setCell ⟨B, 10, none⟩ (.int .i64 (f 5).1)).setCell ⟨B, 11, none⟩ (.int .i64 (f 5).2)).setCell ⟨B, 12, none⟩ (.int .i64 (f 6).1)).setCell ⟨B, 13, none⟩ (.int .i64 (f 6).2)).setCell ⟨B, 14, none⟩ (.int .i64 (f 7).1)).setCell ⟨B, 15, none⟩ (.int .i64 (f 7).2)).cell? ⟨B, 15, none⟩ = some (.int .i64 (f 7).2) := by
  have key : ∀ (vs : List Value) (o : Nat) (w : World), (∀ j, j < vs.length → ∃ x, w.cell? ⟨B, o + j, none⟩ = some x) → ∀ j, j < vs.length → (w.setCells B o vs).cell? ⟨B, o + j, none⟩ = vs[j]? := by
    intro vs
    induction vs with
    | nil => intro _ _ _ j hj; simp at hj
    | cons v r ih =>
      intro o w hx j hj
      cases j with
      | zero =>
        show ((w.setCell ⟨B, o, none⟩ v).setCells B (o + 1) r).cell? ⟨B, o, none⟩ = _
        rw [World.cell?_setCells_out B r (o + 1) _ ⟨B, o, none⟩ (fun _ _ => .inl (Nat.lt_succ_self _))]
        obtain ⟨x, hx0⟩ := hx 0 (by simp)
        rw [Nat.add_zero] at hx0
        rw [World.cell?_setCell_same' _ _ _ (by rw [hx0]; rfl)]
        rfl
      | succ j =>
        show ((w.setCell ⟨B, o, none⟩ v).setCells B (o + 1) r).cell? ⟨B, o + (j + 1), none⟩ = _
        rw [show o + (j + 1) = o + 1 + j by omega, ih (o + 1) _ (fun t ht => ?_) j (by simpa using hj)]
        · rfl
        · obtain ⟨x, hx0⟩ := hx (t + 1) (by simp; omega)
          rw [World.cell?_setCell_other _ _ _ _ (by simp)]
          exact ⟨x, by rw [show o + 1 + t = o + (t + 1) by omega]; exact hx0⟩
  have k := key [.int .i64 (f 0).1, .int .i64 (f 0).2, .int .i64 (f 1).1, .int .i64 (f 1).2, .int .i64 (f 2).1, .int .i64 (f 2).2, .int .i64 (f 3).1, .int .i64 (f 3).2, .int .i64 (f 4).1, .int .i64 (f 4).2, .int .i64 (f 5).1, .int .i64 (f 5).2, .int .i64 (f 6).1, .int .i64 (f 6).2, .int .i64 (f 7).1, .int .i64 (f 7).2] 0 w (fun j hj => by rw [Nat.zero_add]; exact h j (by simpa using hj))
  exact ⟨k 0 (by simp), k 1 (by simp), k 2 (by simp), k 3 (by simp), k 4 (by simp), k 5 (by simp), k 6 (by simp), k 7 (by simp), k 8 (by simp), k 9 (by simp), k 10 (by simp), k 11 (by simp), k 12 (by simp), k 13 (by simp), k 14 (by simp), k 15 (by simp)⟩
theorem below16 {B0 : Nat} {w0 w : World} (l : Below B0 w0 w) (B : Nat) (hB : B0 ≤ B) (f : Nat → Int × Int) : Below B0 w0 ((((((((((((((((w.setCell ⟨B, 0, none⟩ (.int .i64 (f 0).1)).setCell ⟨B, 1, none⟩ (.int .i64 (f 0).2)).setCell ⟨B, 2, none⟩ (.int .i64 (f 1).1)).setCell ⟨B, 3, none⟩ (.int .i64 (f 1).2)).setCell ⟨B, 4, none⟩ (.int .i64 (f 2).1)).setCell ⟨B, 5, none⟩ (.int .i64 (f 2).2)).setCell ⟨B, 6, none⟩ (.int .i64 (f 3).1)).setCell ⟨B, 7, none⟩ (.int .i64 (f 3).2)).setCell ⟨B, 8, none⟩ (.int .i64 (f 4).1)).setCell ⟨B, 9, none⟩ (.int .i64 (f 4).2)).setCell ⟨B, 10, none⟩ (.int .i64 (f 5).1)).setCell ⟨B, 11, none⟩ (.int .i64 (f 5).2)).setCell ⟨B, 12, none⟩ (.int .i64 (f 6).1)).setCell ⟨B, 13, none⟩ (.int .i64 (f 6).2)).setCell ⟨B, 14, none⟩ (.int .i64 (f 7).1)).setCell ⟨B, 15, none⟩ (.int .i64 (f 7).2)) := below_setCells B hB [.int .i64 (f 0).1, .int .i64 (f 0).2, .int .i64 (f 1).1, .int .i64 (f 1).2, .int .i64 (f 2).1, .int .i64 (f 2).2, .int .i64 (f 3).1, .int .i64 (f 3).2, .int .i64 (f 4).1, .int .i64 (f 4).2, .int .i64 (f 5).1, .int .i64 (f 5).2, .int .i64 (f 6).1, .int .i64 (f 6).2, .int .i64 (f 7).1, .int .i64 (f 7).2] 0 w0 w l
theorem zeros16 (w : World) (t : TypeId) : (∀ j, j < 16 → (w.alloc (.cells #[.int .i64 0, .int .i64 0, .int .i64 0, .int .i64 0, .int .i64 0, .int .i64 0, .int .i64 0, .int .i64 0, .int .i64 0, .int .i64 0, .int .i64 0, .int .i64 0, .int .i64 0, .int .i64 0, .int .i64 0, .int .i64 0] t)).cell? ⟨w.heap.size, j, none⟩ = some (.int .i64 0)) ∧ ∀ j, (w.alloc (.cells #[.int .i64 0, .int .i64 0, .int .i64 0, .int .i64 0, .int .i64 0, .int .i64 0, .int .i64 0, .int .i64 0, .int .i64 0, .int .i64 0, .int .i64 0, .int .i64 0, .int .i64 0, .int .i64 0, .int .i64 0, .int .i64 0] t)).frozen? ⟨w.heap.size, j, none⟩ = false := by
  refine ⟨fun j hj => ?_, fun j => World.frozen?_alloc_at _ _ _ _ rfl⟩
  rw [World.cell?_alloc_at _ _ _ _ rfl]
  match j, hj with
  | 0, _ => rfl
  | 1, _ => rfl
  | 2, _ => rfl
  | 3, _ => rfl
  | 4, _ => rfl
  | 5, _ => rfl
  | 6, _ => rfl
  | 7, _ => rfl
  | 8, _ => rfl
  | 9, _ => rfl
  | 10, _ => rfl
  | 11, _ => rfl
  | 12, _ => rfl
  | 13, _ => rfl
  | 14, _ => rfl
  | 15, _ => rfl
  | j + 16, h => exact absurd h (by omega)
/-- A set has no item twice. -/
theorem set_rise {n : Nat} {xs : List Int} (h : setB n xs = true) : ∀ d i, i + d + 1 < xs.length + 0 → xs.getD i 0 < xs.getD (i + d + 1) 0 := by
  have h1 := (setB_iff n xs).1 h
  intro d
  induction d with
  | zero => intro i hi; have := (h1 (i + 1) (by omega)).2 (by omega); rwa [Nat.succ_sub_one] at this
  | succ d ih =>
    intro i hi
    have a := ih i (by omega)
    have b := (h1 (i + d + 1 + 1) (by omega)).2 (by omega)
    rw [Nat.succ_sub_one] at b
    rw [show i + (d + 1) + 1 = i + d + 1 + 1 by omega]
    omega
theorem set_pre {n : Nat} (h8 : n ≤ 8) {xs : List Int} (h : setB n xs = true) (k : Nat) (hk : k < xs.length) : setB n (xs.take k) = true ∧ (codeF (xs.take k)).testBit (xs.getD k 0).toNat = false ∧ codeF (xs.take k) < 256 := by
  have h1 := (setB_iff n xs).1 h
  have hp : setB n (xs.take k) = true := by
    rw [setB_iff]
    intro i hi
    rw [List.length_take] at hi
    have e : ∀ j, j < k → (xs.take k).getD j 0 = xs.getD j 0 := fun j hj => by simp [List.getD, hj]
    rw [e i (by omega)]
    refine ⟨(h1 i (by omega)).1, fun h0 => ?_⟩
    rw [e (i - 1) (by omega)]
    exact (h1 i (by omega)).2 h0
  obtain ⟨e1, e2⟩ := set_code h8 hp
  refine ⟨hp, ?_, code_lt8 h8 e2⟩
  rw [Bool.eq_false_iff]
  intro hb
  have hx := (h1 k hk).1
  have hm : xs.getD k 0 ∈ bitsF n (codeF (xs.take k)) := by
    unfold bitsF
    rw [List.mem_map]
    exact ⟨(xs.getD k 0).toNat, List.mem_filter.2 ⟨List.mem_range.2 (by omega), hb⟩, by omega⟩
  rw [e1] at hm
  obtain ⟨j, hj, he⟩ := List.getElem_of_mem hm
  rw [List.length_take] at hj
  have hjk : j < k := by omega
  have e3 : xs.getD j 0 = xs.getD k 0 := by
    rw [← he, List.getElem_take, List.getD, List.getElem?_eq_getElem (by omega), Option.getD_some]
  have := set_rise h (k - j - 1) j (by omega)
  rw [show j + (k - j - 1) + 1 = k by omega] at this
  omega
theorem deck_more {row : List (Int × Int)} (h8 : row.length ≤ 8) {xs : List Int} (h : setB row.length xs = true) (k : Nat) (hk : k < xs.length) : (deckL row (codeF (xs.take k))).set (xs.getD k 0).toNat (row.getD (xs.getD k 0).toNat (0, 0)) = deckL row (codeF (xs.take (k + 1))) := by
  obtain ⟨h1, h2, h3⟩ := set_pre h8 h k hk
  have hx := ((setB_iff _ _).1 h k hk).1
  rw [code_take xs k hk]
  exact deck_add h8 (by omega) h3 h2
theorem deckL_zero (row : List (Int × Int)) : deckL row 0 = List.replicate 8 (0, 0) := by
  refine ext8 (by simp) (deckL_len _ _) (fun i hi => ?_)
  rw [deck_zero row i hi, List.getD, List.getElem?_replicate, if_pos hi]
  rfl
set_option maxRecDepth 100000 in
set_option maxHeartbeats 6400000 in
theorem deckOf_any (v u : Value) (row : List (Int × Int)) (xs : List Int) (w : World) (hr : LoadRow w v row) (hu : IntRow w u xs) (h8 : row.length ≤ 8) (hs : setB row.length xs = true) :
    Calls Try.prog 102 #[v, u] w fun e w' => e = .returned (deckV (deckL row (codeF xs))) ∧ Below w.heap.size w w' := by
  have hxl := (set_every hs).2
  have DM := Lib.hid (fun k (hk : k < xs.length) => deck_more h8 hs k hk)
  have HX := Lib.hid (fun k (hk : k < xs.length) => ((setB_iff _ _).1 hs k hk).1)
  have HT := Lib.hid (show codeF (xs.take xs.length) = codeF xs by rw [List.take_length])
  obtain ⟨av, cv, rfl, hr⟩ := hr
  obtain ⟨au, cu, rfl, hu⟩ := hu
  obtain ⟨wA, hA⟩ : ∃ wA, w.alloc (.cells #[.int .i64 0, .int .i64 0, .int .i64 0, .int .i64 0, .int .i64 0, .int .i64 0, .int .i64 0, .int .i64 0, .int .i64 0, .int .i64 0, .int .i64 0, .int .i64 0, .int .i64 0, .int .i64 0, .int .i64 0, .int .i64 0] 97) = wA := ⟨_, rfl⟩
  have lA : Below w.heap.size w wA := by rw [← hA]; exact below_one _ _
  have sA : wA.heap.size = w.heap.size + 1 := by rw [← hA]; simp
  have zA := zeros16 w 97
  rw [hA] at zA
  obtain ⟨wB, hB⟩ : ∃ wB, wA.alloc (.cells #[.int .i64 0, .int .i64 0, .int .i64 0, .int .i64 0, .int .i64 0, .int .i64 0, .int .i64 0, .int .i64 0, .int .i64 0, .int .i64 0, .int .i64 0, .int .i64 0, .int .i64 0, .int .i64 0, .int .i64 0, .int .i64 0] 97) = wB := ⟨_, rfl⟩
  have lB : Below wA.heap.size wA wB := by rw [← hB]; exact below_one _ _
  have sB : wB.heap.size = w.heap.size + 2 := by rw [← hB]; simp [sA]
  have zB := zeros16 wA 97
  rw [hB, sA] at zB
  have Z0 := Lib.hid (show ∀ j, j < 16 → wB.cell? ⟨w.heap.size, j, none⟩ = some (.int .i64 0) from fun j hj => by rw [lB.cell (p := ⟨w.heap.size, j, none⟩) (by rw [sA]; simp)]; exact zA.1 j hj)
  have G0 := Lib.hid (show ∀ j, wB.frozen? ⟨w.heap.size, j, none⟩ = false from fun j => by rw [lB.frozen (p := ⟨w.heap.size, j, none⟩) (by rw [sA]; simp)]; exact zA.2 j)
  have G1 := Lib.hid zB.2
  have P0 := Lib.hid (show PairsR wB (w.heap.size + 1) 0 (deckL row (codeF (xs.take 0))) from by
    rw [show codeF (xs.take 0) = 0 by simp [codeF], deckL_zero]
    intro j hj
    rw [List.length_replicate] at hj
    have e : (List.replicate 8 ((0 : Int), (0 : Int))).getD j (0, 0) = (0, 0) := by rw [List.getD, List.getElem?_replicate, if_pos hj]; rfl
    rw [e, Nat.zero_add]
    exact ⟨zB.1 _ (by omega), zB.1 _ (by omega)⟩)
  have LB := Lib.hid (show Below w.heap.size w wB from lo_on lA lB)
  clear zA zB lA lB hs
  go_enter Try.func102, Try.ntmps102
  go_wp2
  clear hA hB
  go_loopw [10] (fun i wr => ∃ k : Nat, k ≤ xs.length ∧ i = .int .i64 k ∧ Hid (PairsR wr (w.heap.size + 1) 0 (deckL row (codeF (xs.take k)))) ∧ Hid (∀ j, j < 16 → wr.cell? ⟨w.heap.size, j, none⟩ = some (.int .i64 0)) ∧ Hid (∀ j, wr.frozen? ⟨w.heap.size, j, none⟩ = false) ∧ Hid (∀ j, wr.frozen? ⟨w.heap.size + 1, j, none⟩ = false) ∧ Hid (Below w.heap.size w wr)) (fun i _ => xs.length - (intOf i).toNat)
  case atStart => exact ⟨0, Nat.zero_le _, rfl, P0, Z0, G0, G1, LB⟩
  case round =>
    obtain ⟨k, hk, rfl, HP, HZ, HG0, HG1, HW⟩ := hrel
    clear P0 Z0 G0 G1 LB
    by_cases hlt : k < xs.length
    · rcases hu with h | ⟨g, off, rfl, hg, hc⟩
      · subst h; simp at hlt
      have hlt' : (k : Int) < (xs.length : Int) := by omega
      have c1 := hc k hlt
      rw [← HW.out.cell (p := ⟨g, off + k, none⟩) hg] at c1
      have hx := HX.out k hlt
      have hdm := DM.out k hlt
      obtain ⟨m, hm⟩ : ∃ m : Nat, xs.getD k 0 = (m : Int) := ⟨(xs.getD k 0).toNat, by omega⟩
      rw [hm] at c1 hx hdm
      rw [Int.toNat_natCast] at hdm
      have hml : m < row.length := by omega
      have hm8 : m < 8 := by omega
      have hml' : (m : Int) < (row.length : Int) := by omega
      have hm8' : (m : Int) < 8 := by omega
      rcases hr with h | ⟨g2, off2, rfl, hg2, hc2⟩
      · subst h; simp at hml
      obtain ⟨h2, h3⟩ := hc2 m hml
      rw [← HW.out.cell (p := ⟨g2, off2 + m * 2, none⟩) hg2] at h2
      rw [← HW.out.cell (p := ⟨g2, off2 + m * 2 + 1, none⟩) hg2] at h3
      obtain ⟨i1, i2⟩ := HP.out m (by rw [deckL_len]; omega)
      rw [Nat.zero_add] at i1 i2
      have z1 := HG1.out (m * 2)
      have z2 := HG1.out (m * 2 + 1)
      have HS := Lib.hid (pair_set HP.out m (by rw [deckL_len]; omega) (row.getD m (0, 0)))
      rw [hdm] at HS
      obtain ⟨y, hy⟩ : ∃ y, row.getD m (0, 0) = y := ⟨_, rfl⟩
      rw [hy] at h2 h3 HS
      obtain ⟨p, q⟩ := y
      simp only at h2 h3 HS
      rw [Nat.zero_add] at HS
      generalize ((deckL row (codeF (xs.take k))).getD m (0, 0)).1 = p0 at i1
      generalize ((deckL row (codeF (xs.take k))).getD m (0, 0)).2 = q0 at i2
      clear hc hc2 hx hdm hm hy
      go_wp2
      go_roundw
      case rel =>
        refine ⟨k + 1, by omega, by go_num, HS, Lib.hid (fun j hj => ?_), Lib.hid (fun j => ?_), Lib.hid (fun j => ?_), Lib.hid ?_⟩
        · rw [World.cell?_setCell_other _ _ _ _ (by simp), World.cell?_setCell_other _ _ _ _ (by simp)]; exact HZ.out j hj
        · rw [World.frozen?_setCell, World.frozen?_setCell]; exact HG0.out j
        · rw [World.frozen?_setCell, World.frozen?_setCell]; exact HG1.out j
        · exact (HW.out.setCell (p := ⟨w.heap.size + 1, m * 2, none⟩) (by simp) _).setCell (p := ⟨w.heap.size + 1, m * 2 + 1, none⟩) (by simp) _
      case measure => simp [intOf]; omega
    · obtain rfl : k = xs.length := by omega
      have hge : ¬ (xs.length : Int) < (xs.length : Int) := by omega
      have HP2 := Lib.hid (show PairsR wr (w.heap.size + 1) 0 (deckL row (codeF xs)) by rw [← HT.out]; exact HP.out)
      obtain ⟨f, hf⟩ : ∃ f, at8 (deckL row (codeF xs)) = f := ⟨_, rfl⟩
      have HV := Lib.hid (show deckV (deckL row (codeF xs)) = .agg #[.int .i64 (f 0).1, .int .i64 (f 0).2, .int .i64 (f 1).1, .int .i64 (f 1).2, .int .i64 (f 2).1, .int .i64 (f 2).2, .int .i64 (f 3).1, .int .i64 (f 3).2, .int .i64 (f 4).1, .int .i64 (f 4).2, .int .i64 (f 5).1, .int .i64 (f 5).2, .int .i64 (f 6).1, .int .i64 (f 6).2, .int .i64 (f 7).1, .int .i64 (f 7).2] by unfold deckV; rw [hf])
      obtain ⟨e0, e1, e2, e3, e4, e5, e6, e7, e8, e9, e10, e11, e12, e13, e14, e15⟩ := pairs16 HP2.out (deckL_len _ _) f hf
      obtain ⟨s0, s1, s2, s3, s4, s5, s6, s7, s8, s9, s10, s11, s12, s13, s14, s15⟩ := set16 wr w.heap.size f (fun j hj => ⟨_, HZ.out j hj⟩)
      have SS := Lib.hid (And.intro s0 (And.intro s1 (And.intro s2 (And.intro s3 (And.intro s4 (And.intro s5 (And.intro s6 (And.intro s7 (And.intro s8 (And.intro s9 (And.intro s10 (And.intro s11 (And.intro s12 (And.intro s13 (And.intro s14 s15)))))))))))))))
      have z0 := HZ.out 0 (by omega)
      have g0 := HG0.out 0
      have z1 := HZ.out 1 (by omega)
      have g1 := HG0.out 1
      have z2 := HZ.out 2 (by omega)
      have g2 := HG0.out 2
      have z3 := HZ.out 3 (by omega)
      have g3 := HG0.out 3
      have z4 := HZ.out 4 (by omega)
      have g4 := HG0.out 4
      have z5 := HZ.out 5 (by omega)
      have g5 := HG0.out 5
      have z6 := HZ.out 6 (by omega)
      have g6 := HG0.out 6
      have z7 := HZ.out 7 (by omega)
      have g7 := HG0.out 7
      have z8 := HZ.out 8 (by omega)
      have g8 := HG0.out 8
      have z9 := HZ.out 9 (by omega)
      have g9 := HG0.out 9
      have z10 := HZ.out 10 (by omega)
      have g10 := HG0.out 10
      have z11 := HZ.out 11 (by omega)
      have g11 := HG0.out 11
      have z12 := HZ.out 12 (by omega)
      have g12 := HG0.out 12
      have z13 := HZ.out 13 (by omega)
      have g13 := HG0.out 13
      have z14 := HZ.out 14 (by omega)
      have g14 := HG0.out 14
      have z15 := HZ.out 15 (by omega)
      have g15 := HG0.out 15
      have B16 := Lib.hid (below16 HW.out w.heap.size (Nat.le_refl _) f)
      clear HP HP2 HZ HG0 HG1 HW hf DM HX HT hr hu s0 s1 s2 s3 s4 s5 s6 s7 s8 s9 s10 s11 s12 s13 s14 s15
      go_wp2
      obtain ⟨s0, s1, s2, s3, s4, s5, s6, s7, s8, s9, s10, s11, s12, s13, s14, s15⟩ := SS.out
      exact bodyPost_ret (v := .agg #[.int .i64 (f 0).1, .int .i64 (f 0).2, .int .i64 (f 1).1, .int .i64 (f 1).2, .int .i64 (f 2).1, .int .i64 (f 2).2, .int .i64 (f 3).1, .int .i64 (f 3).2, .int .i64 (f 4).1, .int .i64 (f 4).2, .int .i64 (f 5).1, .int .i64 (f 5).2, .int .i64 (f 6).1, .int .i64 (f 6).2, .int .i64 (f 7).1, .int .i64 (f 7).2]) (by simp [results, Try.results102, go_sem, s0, s1, s2, s3, s4, s5, s6, s7, s8, s9, s10, s11, s12, s13, s14, s15]) rfl ⟨by rw [HV.out], B16.out⟩
end Go.Proofs.Ytcfbnadefdcjaaa
