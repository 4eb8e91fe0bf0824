/- Mobiles in memory, as the walks take them: two slices of pairs. -/
import Derived.Test.YtnadchgekfljkaaPairRow
import Derived.Test.YtnadchgekfljkaaLoadOwn
import Derived.Lib.SmallJoins
import Derived.ChangeSlices
import Derived.ChangeSame
import Derived.OpenShut
namespace Go.Proofs.Ytnadchgekfljkaa
open Go.RowKit Go.ChangeShapes Go.WideShapes Go.Joins
structure MobV where
  am : List (Int × Int)
  hu : List (Int × Int)
def SmallM (m : MobV) : Prop := m.am.length ≤ 1100000 ∧ m.hu.length ≤ 1100000
def BndL (xs : List (Int × Int)) : Prop := ∀ j, j < xs.length → (-9223372036854775808 ≤ (xs.getD j (0, 0)).1 ∧ (xs.getD j (0, 0)).1 ≤ 9223372036854775807) ∧ -9223372036854775808 ≤ (xs.getD j (0, 0)).2 ∧ (xs.getD j (0, 0)).2 ≤ 9223372036854775807
def BndM (m : MobV) : Prop := BndL m.am ∧ BndL m.hu
def nilM : MobV := ⟨[], []⟩
theorem smallM_nil : SmallM nilM := ⟨by simp [nilM], by simp [nilM]⟩
theorem loadRow_nil (w : World) (a : Option Addr) (c : Nat) : LoadRow w (.slice a 0 c) [] := ⟨a, c, rfl, .inl rfl⟩
/-- The struct value v reads as the mobile m. -/
def MobRow (w : World) (v : Value) (m : MobV) : Prop := ∃ a b, v = .agg #[a, b] ∧ LoadRow w a m.am ∧ LoadRow w b m.hu
theorem MobRow.lo {w w' : World} {v : Value} {m : MobV} (h : MobRow w v m) (l : Below w.heap.size w w') : MobRow w' v m := by
  obtain ⟨a, b, e, h1, h2⟩ := h
  exact ⟨a, b, e, h1.lo l, h2.lo l⟩
theorem MobRow.form {w : World} {v : Value} {m : MobV} (h : MobRow w v m) : ∃ a b c d, v = .agg #[.slice a m.am.length c, .slice b m.hu.length d] := by
  obtain ⟨a, b, e, ⟨a1, c1, rfl, _⟩, ⟨a2, c2, rfl, _⟩⟩ := h
  exact ⟨a1, a2, c1, c2, e⟩
theorem mobRow_nil (w : World) : MobRow w (.agg #[.slice none 0 0, .slice none 0 0]) nilM := ⟨_, _, rfl, loadRow_nil _ _ _, loadRow_nil _ _ _⟩
/-- A mobile whose two slices lie in blocks of B .. E - 1, each in its own. -/
def MineMb (w : World) (B E : Nat) (v : Value) (m : MobV) : Prop := ∃ a b B1 E1 B2 E2, v = .agg #[a, b] ∧ (B ≤ B1 ∧ E1 ≤ E ∧ B ≤ B2 ∧ E2 ≤ E ∧ (E1 ≤ B2 ∨ E2 ≤ B1)) ∧ MineL w B1 E1 a m.am ∧ MineL w B2 E2 b m.hu
theorem MineMb.row {w : World} {B E : Nat} {v : Value} {m : MobV} (h : MineMb w B E v m) : MobRow w v m := by
  obtain ⟨a, b, _, _, _, _, e, _, h1, h2⟩ := h
  exact ⟨a, b, e, h1.row, h2.row⟩
theorem MineMb.part {w w' : World} {B E B' E' : Nat} {v : Value} {m : MobV} (h : MineMb w B E v m) (q : Part B' E' w w') (ho : E ≤ B' ∨ E' ≤ B) : MineMb w' B E v m := by
  obtain ⟨a, b, B1, E1, B2, E2, e, k, h1, h2⟩ := h
  exact ⟨a, b, B1, E1, B2, E2, e, k, h1.part q (by omega), h2.part q (by omega)⟩
theorem MineMb.lo {w w' : World} {B E : Nat} {v : Value} {m : MobV} (h : MineMb w B E v m) (l : Below w.heap.size w w') : MineMb w' B E v m :=
  h.part (Part.of_lo (B := E) (E := E) l) (.inl (Nat.le_refl _))
theorem minePl_nilM (w : World) (B E : Nat) (h : B ≤ E) : MineMb w B E (.agg #[.slice none 0 0, .slice none 0 0]) nilM := ⟨_, _, B, B, B, B, rfl, ⟨Nat.le_refl _, h, Nat.le_refl _, h, .inl (Nat.le_refl _)⟩, mineL_nil _ _ _ _ _, mineL_nil _ _ _ _ _⟩
theorem MineMb.mono {w : World} {B E B' E' : Nat} {v : Value} {m : MobV} (h : MineMb w B E v m) (h1 : B' ≤ B) (h2 : E ≤ E') : MineMb w B' E' v m := by
  obtain ⟨a, b, B1, E1, B2, E2, e, ⟨m1, m2, m3, m4, m5⟩, k1, k2⟩ := h
  exact ⟨a, b, B1, E1, B2, E2, e, ⟨by omega, by omega, by omega, by omega, m5⟩, k1, k2⟩
/-- The marks stand in both slices. -/
def HeldMb (w : World) (B E : Nat) (v : Value) (p : MobV) (m : Nat) : Prop := ∃ a b B1 E1 B2 E2, v = .agg #[a, b] ∧ (B ≤ B1 ∧ E1 ≤ E ∧ B ≤ B2 ∧ E2 ≤ E ∧ (E1 ≤ B2 ∨ E2 ≤ B1)) ∧ HeldL w B1 E1 a p.am m ∧ HeldL w B2 E2 b p.hu (m + p.am.length * 2)
theorem HeldMb.part {w w' : World} {B E B' E' m : Nat} {v : Value} {p : MobV} (h : HeldMb w B E v p m) (q : Part B' E' w w') (ho : E ≤ B' ∨ E' ≤ B) : HeldMb w' B E v p m := by
  obtain ⟨a, b, B1, E1, B2, E2, e, k, h1, h2⟩ := h
  exact ⟨a, b, B1, E1, B2, E2, e, k, h1.part q (by omega), h2.part q (by omega)⟩
theorem HeldMb.lo {w w' : World} {B E m : Nat} {v : Value} {p : MobV} (h : HeldMb w B E v p m) (l : Below w.heap.size w w') : HeldMb w' B E v p m :=
  h.part (Part.of_lo (B := E) (E := E) l) (.inl (Nat.le_refl _))
section
variable {H : Type} {enc : TypeId × Value → H} {P : Program} {w : World} {base : Nat} {held : Bool}
theorem trod_array2 {spare : Nat → Bool} {t e : TypeId} {fuel : Nat} {c0 c1 : Value} {x : DataW H × List MemPlace} (ht : P.underlying t = some (.array 2 e)) (hce : P.cellsOf e = 1)
    (h : DataW.trod enc P w base spare held fuel t [c0, c1] = some x) :
    ∃ y0 y1 n, DataW.trod enc P w base spare held n e [c0] = some y0 ∧ DataW.trod enc P w base spare held n e [c1] = some y1 :=
  match fuel with
  | 0 => by simp [DataW.trod] at h
  | n + 1 => by
    unfold DataW.trod at h
    rw [ht] at h
    have r2 : List.range 2 = [0, 1] := rfl
    simp [r2, hce] at h
    obtain ⟨_, h⟩ := h
    cases h0 : DataW.trod enc P w base spare held n e [c0] with
    | none => simp [h0] at h
    | some y0 =>
      cases h1 : DataW.trod enc P w base spare held n e [c1] with
      | none => simp [h0, h1] at h
      | some y1 => exact ⟨y0, y1, n, h0, h1⟩
/-- What the walk is told of a mobile that came in. -/
def MobIn (w : World) (v : Value) (m : MobV) : Prop := ∃ a b c d, v = .agg #[.slice a m.am.length c, .slice b m.hu.length d] ∧ m.am.length ≤ maxLen ∧ m.hu.length ≤ maxLen ∧ BndM m ∧ LoadRow w (.slice a m.am.length c) m.am ∧ LoadRow w (.slice b m.hu.length d) m.hu
theorem field_pairs {t e i : TypeId} {v : Value} {n : Nat} {x : DataW H × List MemPlace} (ht : P.underlying t = some (.slice e)) (he : P.underlying e = some (.array 2 i)) (hi : P.underlying i = some (.int .i64)) (c1 : P.cellsOf i = 1) (c2 : P.cellsOf e = 2)
    (h : DataW.trod enc P w base (fun _ => true) held n t [v] = some x) : ∃ a xs c, v = .slice a xs.length c ∧ xs.length ≤ maxLen ∧ BndL xs ∧ LoadRow w (.slice a xs.length c) xs := by
  rcases DataW.trod_slice ht h with ⟨hcs, _⟩ | ⟨y, l, c, elems, rest, m, _, hcs, _, _, hl, hm, hlen, hel, _, _⟩
  · simp at hcs
    subst hcs
    exact ⟨none, [], 0, rfl, Nat.zero_le _, fun j h => by simp at h, loadRow_nil _ _ _⟩
  · simp at hcs
    subst hcs
    have each : ∀ j, ∃ p : Int × Int, j < l → PairAt w .i64 y j p := by
      intro j
      by_cases hj : j < l
      · have hy := hel j hj
        rw [List.getElem?_eq_getElem (by omega), c2, Option.bind_eq_some_iff] at hy
        obtain ⟨cs, hcs, hy⟩ := hy
        obtain ⟨_, hcl, hcc⟩ := World.cells?_some hcs
        match cs, hcl with
        | [u, v], _ =>
          obtain ⟨y0, y1, m, g0, g1⟩ := trod_array2 he c1 hy
          obtain ⟨p, hp, _, wp⟩ := DataW.trod_int hi g0
          obtain ⟨q, hq, _, wq⟩ := DataW.trod_int hi g1
          simp at hp hq
          subst hp hq
          have e0 := hcc 0 (by omega)
          have e1 := hcc 1 (by omega)
          rw [add_add'] at e0 e1
          exact ⟨(p, q), fun _ => ⟨by simpa using e0, by simpa using e1, wp, wq⟩⟩
      · exact ⟨(0, 0), fun h => absurd h hj⟩
    obtain ⟨f, hf⟩ := Classical.axiomOfChoice each
    have hp : IsPairs .i64 w (some y) l c ((List.range l).map f) := by
      refine ⟨by simp, hl, hm, .inr ⟨y, rfl, fun j hj => ?_⟩⟩
      have : ((List.range l).map f).getD j (0, 0) = f j := by simp [List.getD, hj]
      rw [this]
      exact hf j hj
    obtain ⟨k1, k2, k3⟩ := pairs_row hp
    exact ⟨some y, (List.range l).map f, c, by rw [k1], by rw [k1]; exact k2, fun j hj => by
      have hj' : j < l := by rw [k1] at hj; exact hj
      have hg : ((List.range l).map f).getD j (0, 0) = f j := by simp [List.getD, hj']
      rw [hg]
      exact ⟨bounds_i64 (hf j hj').wf1, bounds_i64 (hf j hj').wf2⟩, k3⟩
theorem open_mobile {r : Reach} {b0 : Nat} {t e1 e2 i : TypeId} {f0 f1 : Field} {v : Value} {d : DataW H} {q : List MemPlace} (hs : P.underlying t = some (.struct #[f0, f1])) (hone : Deep.oneCellFields P #[f0, f1] = true) (hC : P.cellsOf t = 2)
    (u0 : P.underlying f0.type = some (.slice e1)) (u1 : P.underlying f1.type = some (.slice e2)) (i1 : P.underlying e1 = some (.array 2 i)) (i2 : P.underlying e2 = some (.array 2 i)) (ii : P.underlying i = some (.int .i64)) (c0 : P.cellsOf i = 1) (c1 : P.cellsOf e1 = 2) (c2 : P.cellsOf e2 = 2)
    (hv : Value.okWide P w r b0 t v) (h : DataW.Trod enc P w base (fun _ => true) held t v d q) : ∃ m, MobIn w v m := by
  obtain ⟨v0, v1, y0, y1, n, rfl, rfl, rfl, g0, g1⟩ := open_agg2 hs hone hC hv h
  obtain ⟨a, xs, c, rfl, l1, b1, l2⟩ := field_pairs u0 i1 ii c0 c1 g0
  obtain ⟨b, ys, dd, rfl, m1, b2, m2⟩ := field_pairs u1 i2 ii c0 c2 g1
  exact ⟨⟨xs, ys⟩, a, b, c, dd, rfl, l1, m1, ⟨b1, b2⟩, l2, m2⟩
end
end Go.Proofs.Ytnadchgekfljkaa
