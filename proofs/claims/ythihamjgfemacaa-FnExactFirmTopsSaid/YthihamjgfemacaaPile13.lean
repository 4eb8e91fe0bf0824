/- A pile without its highest brick: the program's and the model's. -/
import Derived.Test.YthihamjgfemacaaPile10
namespace Go.Proofs.Ythihamjgfemacaa
open Go.RowKit
theorem getD_dropLast (xs : List Int) (j : Nat) (h : j < xs.length - 1) : xs.dropLast.getD j 0 = xs.getD j 0 := by
  rw [List.dropLast_eq_take]
  simp only [List.getD]
  rw [List.getElem?_take, if_pos h]
theorem drop_ok {p : PileV} (hf : PileF p) (h2 : 2 ≤ p.ls.length) : pileB (dropP p) = true := by
  have hs := hf.same
  have h8 := hf.short
  refine (pileB_iff _).2 ⟨hf.w1, hf.w2, ?_, ?_, ?_, fun j hj => ?_⟩
  · show 1 ≤ p.ls.dropLast.length; rw [List.length_dropLast]; omega
  · show p.ls.dropLast.length ≤ 8; rw [List.length_dropLast]; omega
  · show p.ws.dropLast.length = p.ls.dropLast.length; rw [List.length_dropLast, List.length_dropLast, hs]
  · have hj2 : j < p.ls.length - 1 := by rw [← List.length_dropLast]; exact hj
    show (-99 ≤ p.ls.dropLast.getD j 0 ∧ p.ls.dropLast.getD j 0 ≤ 99) ∧ 1 ≤ p.ws.dropLast.getD j 0 ∧ p.ws.dropLast.getD j 0 ≤ 99
    rw [getD_dropLast _ _ hj2, getD_dropLast _ _ (by omega)]
    exact hf.each j (by omega)
theorem drop_one {p : PileV} (h1 : p.ls.length = 1) : pileB (dropP p) = false := propB_no (fun f => by
  have : 1 ≤ p.ls.dropLast.length := f.one
  rw [List.length_dropLast] at this
  omega)
end Go.Proofs.Ythihamjgfemacaa
