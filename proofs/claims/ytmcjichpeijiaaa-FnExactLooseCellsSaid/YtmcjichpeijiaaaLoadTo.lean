/- The law's copy of a row of loads. -/
import Derived.Test.YtmcjichpeijiaaaLoadLaw
namespace Go.Proofs.Ytmcjichpeijiaaa
open Go.RowKit
theorem infoLoad : (Try.prog.info? 136).map (fun i => (i.zero, i.size, i.bytes)) = some (some (.agg #[.int .i64 0, .int .i64 0]), 2, 16) := by kernel_rfl
theorem two_set (w : World) (b o : Nat) (u v : Value) {x y : Value} (h1 : w.cell? ⟨b, o, none⟩ = some x) (h2 : w.cell? ⟨b, o + 1, none⟩ = some y) :
    ((w.setCell ⟨b, o, none⟩ u).setCell ⟨b, o + 1, none⟩ v).cell? ⟨b, o, none⟩ = some u ∧ ((w.setCell ⟨b, o, none⟩ u).setCell ⟨b, o + 1, none⟩ v).cell? ⟨b, o + 1, none⟩ = some v ∧
    ∀ j, j ≠ o → j ≠ o + 1 → ((w.setCell ⟨b, o, none⟩ u).setCell ⟨b, o + 1, none⟩ v).cell? ⟨b, j, none⟩ = w.cell? ⟨b, j, none⟩ := by
  refine ⟨?_, ?_, fun j hj hj2 => ?_⟩
  · rw [World.cell?_setCell_other _ _ _ _ (fun hh => by have := congrArg Addr.off hh; simp at this)]
    exact World.cell?_setCell_same' _ _ _ (by rw [h1]; rfl)
  · refine World.cell?_setCell_same' _ _ _ ?_
    rw [World.cell?_setCell_other _ _ _ _ (fun hh => by have := congrArg Addr.off hh; simp at this), h2]; rfl
  · rw [World.cell?_setCell_other _ _ _ _ (fun hh => hj2 (congrArg Addr.off hh).symm), World.cell?_setCell_other _ _ _ _ (fun hh => hj (congrArg Addr.off hh).symm)]
theorem made_zero (m j : Nat) (h : j < m) : (madeCells #[.int .i64 0, .int .i64 0] m)[j]? = some (.int .i64 0) := by
  unfold madeCells
  have : j % 2 = 0 ∨ j % 2 = 1 := by omega
  rcases this with e | e <;> simp [h, e]
theorem make_loads (n : Nat) (hn : n ≤ 2000000) (u : World) :
    (Instr.makeSlice 82 (.int .i64 (n : Int)) (.int .i64 (n : Int))).run Try.prog u = .ok (.slice (some ⟨u.heap.size, 0, none⟩) n n) (u.alloc (.cells (madeCells #[.int .i64 0, .int .i64 0] (n * 2)) 136)) := by
  obtain ⟨i0, hi, hz0, hz1, hz2⟩ := info_parts infoLoad
  have h := run_make (P := Try.prog) u 82 136 i0 (.agg #[.int .i64 0, .int .i64 0]) Try.underlying82 hi hz0 .i64 .i64 (n : Int) (n : Int) (by omega) (Int.le_refl _) (by rw [hz2]; omega) (by omega)
  simpa [hz1, Value.cells] using h
end Go.Proofs.Ytmcjichpeijiaaa
