/- A plan that a call makes: a table whose rows stand behind it, block by block. -/
import Derived.Test.YtgdgiecajflmaabTabLaw
namespace Go.Proofs.Ytgdgiecajflmaab
open Go.RowKit
structure GridF (w : World) (g s n : Nat) (val : Nat → Nat → Int) : Prop where
  tab : ∀ j, j < s → w.cell? ⟨g, j, none⟩ = some (.slice (some ⟨g + 1 + j, 0, none⟩) n n)
  cell : ∀ j, j < s → ∀ c, c < n → w.cell? ⟨g + 1 + j, c, none⟩ = some (.int .i64 (val j c))
  frz : ∀ j, j < s → ∀ c, w.frozen? ⟨g + 1 + j, c, none⟩ = false
  room : g + 1 + s ≤ w.heap.size
theorem GridF.lo {w w' : World} {g s n : Nat} {val : Nat → Nat → Int} (h : GridF w g s n val) (l : Below w.heap.size w w') : GridF w' g s n val := by
  have hr := h.room
  refine ⟨fun j hj => ?_, fun j hj c hc => ?_, fun j hj c => ?_, Nat.le_trans hr l.size⟩
  · rw [l.cell (p := ⟨g, j, none⟩) (by simp only; omega)]; exact h.tab j hj
  · rw [l.cell (p := ⟨g + 1 + j, c, none⟩) (by simp only; omega)]; exact h.cell j hj c hc
  · rw [World.frozen?_of_block (l.block (g + 1 + j) (by omega))]; exact h.frz j hj c
theorem GridF.same {w : World} {g s n : Nat} {val val' : Nat → Nat → Int} (h : GridF w g s n val) (e : ∀ j, j < s → ∀ c, c < n → val' j c = val j c) : GridF w g s n val' :=
  ⟨h.tab, fun j hj c hc => by rw [e j hj c hc]; exact h.cell j hj c hc, h.frz, h.room⟩
theorem GridF.set {w : World} {g s n : Nat} {val : Nat → Nat → Int} (h : GridF w g s n val) {j c : Nat} (hj : j < s) (hc : c < n) (x : Int) : GridF (w.setCell ⟨g + 1 + j, c, none⟩ (.int .i64 x)) g s n (fun i d => if i = j ∧ d = c then x else val i d) := by
  refine ⟨fun i hi => ?_, fun i hi d hd => ?_, fun i hi d => ?_, by simpa using h.room⟩
  · rw [World.cell?_setCell_other _ _ _ _ (fun hh => by have := congrArg Addr.block hh; simp at this; omega)]
    exact h.tab i hi
  · by_cases e : i = j
    · subst e
      by_cases e2 : d = c
      · subst e2
        rw [(one_set w (g + 1 + i) d _ (h.cell i hi d hd)).1, if_pos ⟨rfl, rfl⟩]
      · rw [(one_set w (g + 1 + i) c _ (h.cell i hi c hc)).2 d e2, if_neg (fun hh => e2 hh.2)]
        exact h.cell i hi d hd
    · rw [World.cell?_setCell_other _ _ _ _ (fun hh => by have := congrArg Addr.block hh; simp at this; omega), if_neg (fun hh => e hh.1)]
      exact h.cell i hi d hd
  · rw [World.frozen?_setCell]; exact h.frz i hi d
def gridL (s n : Nat) (val : Nat → Nat → Int) : List (List Int) := (List.range s).map (fun j => (List.range n).map (val j))
theorem gridL_len (s n : Nat) (val : Nat → Nat → Int) : (gridL s n val).length = s := by simp [gridL]
theorem gridL_at (s n : Nat) (val : Nat → Nat → Int) (j : Nat) (h : j < s) : (gridL s n val).getD j [] = (List.range n).map (val j) := by simp [gridL, List.getD, h]
theorem GridF.mine {w : World} {g s n B : Nat} {val : Nat → Nat → Int} (h : GridF w g s n val) (hB : B ≤ g) : MineT w B w.heap.size (.slice (some ⟨g, 0, none⟩) s s) (gridL s n val) := by
  have hr := h.room
  refine .inr ⟨g, s, fun j => .slice (some ⟨g + 1 + j, 0, none⟩) n n, fun j => g + 1 + j, by rw [gridL_len], hB, by simp only; omega, by rw [gridL_len]; simp only; omega, Nat.le_refl _, fun j hj => ?_⟩
  rw [gridL_len] at hj
  refine ⟨by simp only; omega, h.tab j hj, ?_⟩
  rw [gridL_at s n val j hj]
  refine .inr ⟨g + 1 + j, n, by simp, Nat.le_refl _, by simp only; omega, by simp only; omega, fun c hc => ?_, fun c => h.frz j hj c⟩
  rw [List.length_map, List.length_range] at hc
  rw [h.cell j hj c hc]
  simp [List.getD, hc]
end Go.Proofs.Ytgdgiecajflmaab
