/- Rafts as the walks take them, three integers; the law's own function on them. -/
import Derived.Test.YtcfbnadefdcjaaaPairs
import Derived.Test.YtcfbnadefdcjaaaIn
import Derived.ChangeSlices
import Derived.Deep.Strs
import Derived.ChangeSame
import Derived.OpenShut
import Derived.Lib.SmallJoins
import Derived.Deep.RegionHeld3
namespace Go.Proofs.Ytcfbnadefdcjaaa
open Go.RowKit Go.ChangeShapes Go.WideShapes Go.Joins
structure RaftV where
  a : Int
  b : Int
  o : Int
/-- The struct value of a raft. -/
def RaftIn (v : Value) (p : RaftV) : Prop := v = .agg #[.int .i64 p.a, .int .i64 p.b, .int .i64 p.o]
/-- A block holds a struct of three cells. -/
def Cel3R (w : World) (b : Nat) (x y z : Value) : Prop := b < w.heap.size ∧ w.cell? ⟨b, 0, none⟩ = some x ∧ w.cell? ⟨b, 1, none⟩ = some y ∧ w.cell? ⟨b, 2, none⟩ = some z
theorem Cel3R.lo {w w' : World} {b : Nat} {x y z : Value} (h : Cel3R w b x y z) (l : Below w.heap.size w w') : Cel3R w' b x y z := by
  obtain ⟨h0, h1, h2, h3⟩ := h
  exact ⟨Nat.lt_of_lt_of_le h0 l.size, by rw [l.cell (p := ⟨b, 0, none⟩) h0]; exact h1, by rw [l.cell (p := ⟨b, 1, none⟩) h0]; exact h2, by rw [l.cell (p := ⟨b, 2, none⟩) h0]; exact h3⟩
theorem cel3R_new (w : World) (x y z : Value) (t : TypeId) : Cel3R (w.alloc (.cells #[x, y, z] t)) w.heap.size x y z :=
  ⟨by simp, by rw [World.cell?_alloc_at _ _ _ _ rfl]; rfl, by rw [World.cell?_alloc_at _ _ _ _ rfl]; rfl, by rw [World.cell?_alloc_at _ _ _ _ rfl]; rfl⟩
section
variable {H : Type} {enc : TypeId × Value → H} {P : Program} {w : World} {base : Nat} {held : Bool}
theorem open_raft {r : Reach} {b0 : Nat} {t : TypeId} {f0 f1 f2 : Field} {v : Value} {d : DataW H} {q : List MemPlace} (hs : P.underlying t = some (.struct #[f0, f1, f2])) (hone : Deep.oneCellFields P #[f0, f1, f2] = true) (hC : P.cellsOf t = 3)
    (u0 : P.underlying f0.type = some (.int .i64)) (u1 : P.underlying f1.type = some (.int .i64)) (u2 : P.underlying f2.type = some (.int .i64))
    (hv : Value.okWide P w r b0 t v) (h : DataW.Trod enc P w base (fun _ => true) held t v d q) : ∃ p, RaftIn v p := by
  obtain ⟨v0, v1, v2, y0, y1, y2, n, rfl, rfl, rfl, g0, g1, g2⟩ := open_agg3 hs hone hC hv h
  obtain ⟨x0, hp0, _, _⟩ := DataW.trod_int u0 g0
  obtain ⟨x1, hp1, _, _⟩ := DataW.trod_int u1 g1
  obtain ⟨x2, hp2, _, _⟩ := DataW.trod_int u2 g2
  simp at hp0 hp1 hp2
  subst hp0 hp1 hp2
  exact ⟨⟨x0, x1, x2⟩, rfl⟩
end
theorem toRaft_any (p : RaftV) (w : World) : Calls Try.prog 22 #[.agg #[.int .i64 p.a, .int .i64 p.b, .int .i64 p.o]] w fun e w' => e = .returned (.agg #[.int .i64 p.a, .int .i64 p.b, .int .i64 p.o]) ∧ Below w.heap.size w w' := by
  obtain ⟨l, a, b⟩ := p
  simp only
  go_enter Try.func22, Try.ntmps22
  go_wp2
  refine bodyPost_ret (v := .agg #[.int .i64 l, .int .i64 a, .int .i64 b]) (by simp [results, Try.results22, go_sem]) rfl ⟨rfl, ?_⟩
  repeat (first | exact Below.refl _ _ | refine Below.alloc ?_ (by simp <;> omega) _)
end Go.Proofs.Ytcfbnadefdcjaaa
