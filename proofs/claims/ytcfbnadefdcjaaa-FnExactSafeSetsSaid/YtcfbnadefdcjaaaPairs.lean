/- A slice of structs of two integers among the arguments, opened as one list of pairs. No program stands here. -/
import Derived.Test.YtcfbnadefdcjaaaProg
import Derived.ChangeSlices
import Derived.ChangeSame
namespace Go.Proofs.Ytcfbnadefdcjaaa
open Go.ChangeShapes Go.WideShapes
theorem add_add' (x : Addr) (m n : Nat) : (x.add m).add n = x.add (m + n) := by
  unfold Addr.add
  by_cases hm : m = 0
  · simp [hm]
  · by_cases hn : n = 0
    · simp [hn]
    · simp [hm, hn, Nat.add_assoc]
section
variable {H : Type} {enc : TypeId × Value → H} {P : Program} {w : World} {base : Nat} {spare : Nat → Bool} {held : Bool}
/-- What lies at an element of such a slice. -/
structure PairAt (w : World) (k : IntKind) (a : Addr) (i : Nat) (p : Int × Int) : Prop where
  one : w.cell? (a.add (i * 2)) = some (.int k p.1)
  two : w.cell? (a.add (i * 2 + 1)) = some (.int k p.2)
  wf1 : (Lit.int k p.1).wf = true
  wf2 : (Lit.int k p.2).wf = true
/-- What the walk is told of a slice of pairs that came in. -/
def IsPairs (k : IntKind) (w : World) (a : Option Addr) (len cap : Nat) (zs : List (Int × Int)) : Prop :=
  zs.length = len ∧ len ≤ cap ∧ cap ≤ maxLen ∧ ((a = none ∧ len = 0 ∧ cap = 0) ∨ ∃ x, a = some x ∧ ∀ i, i < len → PairAt w k x i (zs.getD i (0, 0)))
theorem open_pairs {t e : TypeId} {k : IntKind} {f0 f1 : Field} {a : Option Addr} {len cap : Nat} {d : DataW H} {ps : List MemPlace} (ht : P.underlying t = some (.slice e)) (he : P.underlying e = some (.struct #[f0, f1]))
    (h0 : P.underlying f0.type = some (.int k)) (h1 : P.underlying f1.type = some (.int k)) (o0 : f0.offset = 0) (o1 : f1.offset = 1) (c0 : P.cellsOf f0.type = 1) (c1 : P.cellsOf f1.type = 1) (hc : P.cellsOf e = 2)
    (h : DataW.Trod enc P w base spare held t (.slice a len cap) d ps) : ∃ zs, IsPairs k w a len cap zs := by
  obtain ⟨fuel, hf⟩ := h
  rcases DataW.trod_slice ht hf with ⟨hcs, _⟩ | ⟨x, l, c, elems, rest, n, _, hcs, _, _, hl, hm, hlen, hel, _, _⟩
  · simp [Value.cells] at hcs
    obtain ⟨rfl, rfl, rfl⟩ := hcs
    exact ⟨[], rfl, Nat.le_refl _, Nat.zero_le _, .inl ⟨rfl, rfl, rfl⟩⟩
  · simp [Value.cells] at hcs
    obtain ⟨rfl, rfl, rfl⟩ := hcs
    have each : ∀ i, ∃ p : Int × Int, i < len → PairAt w k x i p := by
      intro i
      by_cases hi : i < len
      · have hy := hel i hi
        rw [List.getElem?_eq_getElem (by omega), hc, Option.bind_eq_some_iff] at hy
        obtain ⟨cs, hcs, hy⟩ := hy
        obtain ⟨y0, y1, m, _, _, g0, g1⟩ := trod_struct2 he hy
        obtain ⟨_, hcl, hcc⟩ := World.cells?_some hcs
        match cs, hcl with
        | [u, v], _ =>
          rw [o0, c0] at g0
          rw [o1, c1] at g1
          obtain ⟨p, hp, _, wp⟩ := DataW.trod_int h0 g0
          obtain ⟨q, hq, _, wq⟩ := DataW.trod_int h1 g1
          simp at hp hq
          subst hp hq
          have e0 := hcc 0 (by omega)
          have e1 := hcc 1 (by omega)
          rw [add_add'] at e0 e1
          exact ⟨(p, q), fun _ => ⟨by simpa using e0, by simpa using e1, wp, wq⟩⟩
      · exact ⟨(0, 0), fun h => absurd h hi⟩
    obtain ⟨f, hf⟩ := Classical.axiomOfChoice each
    refine ⟨(List.range len).map f, by simp, hl, hm, .inr ⟨x, rfl, fun i hi => ?_⟩⟩
    have : ((List.range len).map f).getD i (0, 0) = f i := by simp [List.getD, hi]
    rw [this]
    exact hf i hi
end
end Go.Proofs.Ytcfbnadefdcjaaa
