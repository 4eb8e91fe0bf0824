/- Piles in memory, as the walks take them: a width and two slices of integers. No program stands here. -/
import Derived.Test.YthihamjgfemacaaInts
import Derived.Test.YthihamjgfemacaaPilePlain
import Derived.Lib.SmallJoins
import Derived.ChangeSlices
import Derived.ChangeSame
namespace Go.Proofs.Ythihamjgfemacaa
open Go.RowKit Go.ChangeShapes Go.WideShapes Go.Joins
/-- The struct value v reads as the pile p. -/
def PileRow (w : World) (v : Value) (p : PileV) : Prop := ∃ a b, v = .agg #[.int .i64 p.wd, a, b] ∧ IntRow w a p.ls ∧ IntRow w b p.ws
theorem PileRow.lo {w w' : World} {v : Value} {p : PileV} (h : PileRow w v p) (l : Below w.heap.size w w') : PileRow w' v p := by
  obtain ⟨a, b, e, h1, h2⟩ := h
  exact ⟨a, b, e, h1.lo l, h2.lo l⟩
theorem PileRow.form {w : World} {v : Value} {p : PileV} (h : PileRow w v p) : ∃ a b c d, v = .agg #[.int .i64 p.wd, .slice a p.ls.length c, .slice b p.ws.length d] := by
  obtain ⟨a, b, e, ⟨a1, c1, rfl, _⟩, ⟨a2, c2, rfl, _⟩⟩ := h
  exact ⟨a1, a2, c1, c2, e⟩
/-- Both slices have room for what they hold. -/
def PileCap (v : Value) : Prop := ∃ (wd : Int) (a : Option Addr) (n c : Nat) (b : Option Addr) (m d : Nat), v = .agg #[.int .i64 wd, .slice a n c, .slice b m d] ∧ n ≤ c ∧ m ≤ d
theorem pileRow_nil (w : World) : PileRow w (.agg #[.int .i64 0, .slice none 0 0, .slice none 0 0]) nilP := ⟨_, _, rfl, intRow_nil _ _ _, intRow_nil _ _ _⟩
/-- A pile whose two slices lie in blocks of B .. E - 1, each in its own. -/
def MinePl (w : World) (B E : Nat) (v : Value) (p : PileV) : Prop := ∃ a b B1 E1 B2 E2, v = .agg #[.int .i64 p.wd, a, b] ∧ (B ≤ B1 ∧ E1 ≤ E ∧ B ≤ B2 ∧ E2 ≤ E ∧ (E1 ≤ B2 ∨ E2 ≤ B1)) ∧ MineI w B1 E1 a p.ls ∧ MineI w B2 E2 b p.ws
theorem MinePl.row {w : World} {B E : Nat} {v : Value} {p : PileV} (h : MinePl w B E v p) : PileRow w v p := by
  obtain ⟨a, b, _, _, _, _, e, _, h1, h2⟩ := h
  exact ⟨a, b, e, h1.row, h2.row⟩
theorem MinePl.part {w w' : World} {B E B' E' : Nat} {v : Value} {p : PileV} (h : MinePl w B E v p) (q : Part B' E' w w') (ho : E ≤ B' ∨ E' ≤ B) : MinePl w' B E v p := by
  obtain ⟨a, b, B1, E1, B2, E2, e, m, h1, h2⟩ := h
  exact ⟨a, b, B1, E1, B2, E2, e, m, h1.part q (by omega), h2.part q (by omega)⟩
theorem MinePl.lo {w w' : World} {B E : Nat} {v : Value} {p : PileV} (h : MinePl w B E v p) (l : Below w.heap.size w w') : MinePl w' B E v p :=
  h.part (Part.of_lo (B := E) (E := E) l) (.inl (Nat.le_refl _))
theorem minePl_nil (w : World) (B E : Nat) (h : B ≤ E) : MinePl w B E (.agg #[.int .i64 0, .slice none 0 0, .slice none 0 0]) nilP := ⟨_, _, B, B, B, B, rfl, ⟨Nat.le_refl _, h, Nat.le_refl _, h, .inl (Nat.le_refl _)⟩, mineI_nil _ _ _ _ _, mineI_nil _ _ _ _ _⟩
theorem MinePl.mono {w : World} {B E B' E' : Nat} {v : Value} {p : PileV} (h : MinePl w B E v p) (h1 : B' ≤ B) (h2 : E ≤ E') : MinePl w B' E' v p := by
  obtain ⟨a, b, B1, E1, B2, E2, e, ⟨m1, m2, m3, m4, m5⟩, k1, k2⟩ := h
  exact ⟨a, b, B1, E1, B2, E2, e, ⟨by omega, by omega, by omega, by omega, m5⟩, k1, k2⟩
/-- The marks stand in both slices. -/
def HeldPl (w : World) (B E : Nat) (v : Value) (p : PileV) (m : Nat) : Prop := ∃ a b B1 E1 B2 E2, v = .agg #[.int .i64 p.wd, a, b] ∧ (B ≤ B1 ∧ E1 ≤ E ∧ B ≤ B2 ∧ E2 ≤ E ∧ (E1 ≤ B2 ∨ E2 ≤ B1)) ∧ HeldI w B1 E1 a p.ls.length m ∧ HeldI w B2 E2 b p.ws.length (m + p.ls.length)
theorem HeldPl.part {w w' : World} {B E B' E' m : Nat} {v : Value} {p : PileV} (h : HeldPl w B E v p m) (q : Part B' E' w w') (ho : E ≤ B' ∨ E' ≤ B) : HeldPl w' B E v p m := by
  obtain ⟨a, b, B1, E1, B2, E2, e, k, h1, h2⟩ := h
  exact ⟨a, b, B1, E1, B2, E2, e, k, h1.part q (by omega), h2.part q (by omega)⟩
theorem HeldPl.lo {w w' : World} {B E m : Nat} {v : Value} {p : PileV} (h : HeldPl w B E v p m) (l : Below w.heap.size w w') : HeldPl w' B E v p m :=
  h.part (Part.of_lo (B := E) (E := E) l) (.inl (Nat.le_refl _))
section
variable {H : Type} {enc : TypeId × Value → H} {P : Program} {w : World} {base : Nat} {held : Bool}
/-- What the walk is told of a pile that came in. -/
def PileIn (w : World) (v : Value) (p : PileV) : Prop := ∃ a b c d, v = .agg #[.int .i64 p.wd, .slice a p.ls.length c, .slice b p.ws.length d] ∧ p.ls.length ≤ maxLen ∧ p.ws.length ≤ maxLen ∧ IntRow w (.slice a p.ls.length c) p.ls ∧ IntRow w (.slice b p.ws.length d) p.ws
theorem field_ints {t e : TypeId} {v : Value} {n : Nat} {x : DataW H × List MemPlace} (ht : P.underlying t = some (.slice e)) (he : P.underlying e = some (.int .i64)) (hc : P.cellsOf e = 1)
    (h : DataW.trod enc P w base (fun _ => true) held n t [v] = some x) : ∃ a xs c, v = .slice a xs.length c ∧ xs.length ≤ maxLen ∧ IntRow w (.slice a xs.length c) xs := by
  rcases open_ints ht he hc h with ⟨hcs, _⟩ | ⟨y, l, c, zs, hcs, _, hl, hm, hz, _, hcell, hwz⟩
  · simp at hcs
    subst hcs
    exact ⟨none, [], 0, rfl, Nat.zero_le _, intRow_nil _ _ _⟩
  · simp at hcs
    subst hcs
    obtain ⟨xs, rfl, k1, k2, _⟩ := ints_row (show IntsIn w (some y) l c zs from .inr ⟨y, rfl, hl, hm, by simpa using hz, hcell, hwz⟩)
    exact ⟨_, xs, c, rfl, k1, k2⟩
theorem open_pile {r : Reach} {b0 : Nat} {t e1 e2 : TypeId} {f0 f1 f2 : Field} {v : Value} {d : DataW H} {q : List MemPlace} (hs : P.underlying t = some (.struct #[f0, f1, f2])) (hone : Deep.oneCellFields P #[f0, f1, f2] = true) (hC : P.cellsOf t = 3)
    (u0 : P.underlying f0.type = some (.int .i64)) (u1 : P.underlying f1.type = some (.slice e1)) (u2 : P.underlying f2.type = some (.slice e2)) (i1 : P.underlying e1 = some (.int .i64)) (i2 : P.underlying e2 = some (.int .i64)) (c1 : P.cellsOf e1 = 1) (c2 : P.cellsOf e2 = 1)
    (hv : Value.okWide P w r b0 t v) (h : DataW.Trod enc P w base (fun _ => true) held t v d q) : ∃ p, PileIn w v p := by
  obtain ⟨v0, v1, v2, y0, y1, y2, n, rfl, rfl, rfl, g0, g1, g2⟩ := open_agg3 hs hone hC hv h
  obtain ⟨wd, hp, _, wp⟩ := DataW.trod_int u0 g0
  obtain ⟨a, ls, c, rfl, l1, l2⟩ := field_ints u1 i1 c1 g1
  obtain ⟨b, ws, dd, rfl, m1, m2⟩ := field_ints u2 i2 c2 g2
  simp at hp
  subst hp
  exact ⟨⟨wd, ls, ws⟩, a, b, c, dd, rfl, l1, m1, l2, m2⟩
end
end Go.Proofs.Ythihamjgfemacaa
