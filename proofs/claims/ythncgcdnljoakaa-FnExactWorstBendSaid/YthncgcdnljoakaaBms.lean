/- Beams as the walks take them, three integers; the law's own functions on them. -/
import Derived.Test.YthncgcdnljoakaaBmP
import Derived.Test.YthncgcdnljoakaaIn
import Derived.Lib.SmallJoins
import Derived.ChangeSlices
import Derived.ChangeSame
import Derived.OpenShut
namespace Go.Proofs.Ythncgcdnljoakaa
open Go.RowKit Go.ChangeShapes Go.WideShapes Go.Joins
/-- The struct value of a beam. -/
def BeamIn (v : Value) (p : BeamV) : Prop := v = .agg #[.int .i64 p.l, .int .i64 p.a, .int .i64 p.b]
/-- A block holds a struct of three cells. -/
def Cel3 (w : World) (b : Nat) (x y z : Value) : Prop := b < w.heap.size ∧ w.cell? ⟨b, 0, none⟩ = some x ∧ w.cell? ⟨b, 1, none⟩ = some y ∧ w.cell? ⟨b, 2, none⟩ = some z
theorem Cel3.lo {w w' : World} {b : Nat} {x y z : Value} (h : Cel3 w b x y z) (l : Below w.heap.size w w') : Cel3 w' b x y z := by
  obtain ⟨h0, h1, h2, h3⟩ := h
  exact ⟨Nat.lt_of_lt_of_le h0 l.size, by rw [l.cell (p := ⟨b, 0, none⟩) h0]; exact h1, by rw [l.cell (p := ⟨b, 1, none⟩) h0]; exact h2, by rw [l.cell (p := ⟨b, 2, none⟩) h0]; exact h3⟩
theorem cel3_new (w : World) (x y z : Value) (t : TypeId) : Cel3 (w.alloc (.cells #[x, y, z] t)) w.heap.size x y z :=
  ⟨by simp, by rw [World.cell?_alloc_at _ _ _ _ rfl]; rfl, by rw [World.cell?_alloc_at _ _ _ _ rfl]; rfl, by rw [World.cell?_alloc_at _ _ _ _ rfl]; rfl⟩
section
variable {H : Type} {enc : TypeId × Value → H} {P : Program} {w : World} {base : Nat} {held : Bool}
theorem open_beam {r : Reach} {b0 : Nat} {t : TypeId} {f0 f1 f2 : Field} {v : Value} {d : DataW H} {q : List MemPlace} (hs : P.underlying t = some (.struct #[f0, f1, f2])) (hone : Deep.oneCellFields P #[f0, f1, f2] = true) (hC : P.cellsOf t = 3)
    (u0 : P.underlying f0.type = some (.int .i64)) (u1 : P.underlying f1.type = some (.int .i64)) (u2 : P.underlying f2.type = some (.int .i64))
    (hv : Value.okWide P w r b0 t v) (h : DataW.Trod enc P w base (fun _ => true) held t v d q) : ∃ p, BeamIn v p := by
  obtain ⟨v0, v1, v2, y0, y1, y2, n, rfl, rfl, rfl, g0, g1, g2⟩ := open_agg3 hs hone hC hv h
  obtain ⟨x0, hp0, _, _⟩ := DataW.trod_int u0 g0
  obtain ⟨x1, hp1, _, _⟩ := DataW.trod_int u1 g1
  obtain ⟨x2, hp2, _, _⟩ := DataW.trod_int u2 g2
  simp at hp0 hp1 hp2
  subst hp0 hp1 hp2
  exact ⟨⟨x0, x1, x2⟩, rfl⟩
end
theorem toBeam_any (p : BeamV) (w : World) : Calls Try.prog 21 #[.agg #[.int .i64 p.l, .int .i64 p.a, .int .i64 p.b]] w fun e w' => e = .returned (.agg #[.int .i64 p.l, .int .i64 p.a, .int .i64 p.b]) ∧ Below w.heap.size w w' := by
  obtain ⟨l, a, b⟩ := p
  simp only
  go_enter Try.func21, Try.ntmps21
  go_wp2
  refine bodyPost_ret (v := .agg #[.int .i64 l, .int .i64 a, .int .i64 b]) (by simp [results, Try.results21, go_sem]) rfl ⟨rfl, ?_⟩
  repeat (first | exact Below.refl _ _ | refine Below.alloc ?_ (by simp <;> omega) _)
theorem eqBeam_any (p : BeamV) (w : World) : Calls Try.prog 57 #[.agg #[.int .i64 p.l, .int .i64 p.a, .int .i64 p.b], .agg #[.int .i64 p.l, .int .i64 p.a, .int .i64 p.b]] w fun e w' => e = .returned (.bool true) ∧ Below w.heap.size w w' := by
  obtain ⟨l, a, b⟩ := p
  simp only
  go_enter Try.func57, Try.ntmps57
  go_wp2
  go_ret
  refine ⟨rfl, ?_⟩
  repeat (first | exact Below.refl _ _ | refine Below.alloc ?_ (by simp <;> omega) _)
end Go.Proofs.Ythncgcdnljoakaa
