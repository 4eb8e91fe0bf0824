/- Stages as the walks take them, three integers, and rows of them; the law's own functions on them. -/
import Derived.Test.YtgjchkcjlmklbaaChP
import Derived.Test.YtgjchkcjlmklbaaPairs
import Derived.Test.YtgjchkcjlmklbaaIn
import Derived.Test.YtgjchkcjlmklbaaInts
import Derived.Test.YtgjchkcjlmklbaaIntLaw
import Derived.Maps.AppendAt
import Derived.Deep.RegionHeld3
import Derived.Lib.LaidTab
import Derived.Lib.SmallJoins
import Derived.ChangeSlices
import Derived.Deep.Strs
import Derived.ChangeSame
import Derived.OpenShut
namespace Go.Proofs.Ytgjchkcjlmklbaa
open Go.RowKit Go.ChangeShapes Go.WideShapes Go.Joins
/-- The struct value of a stage. -/
def StageIn (v : Value) (p : StageV) : Prop := v = .agg #[.int .i64 p.k, .int .i64 p.a, .int .i64 p.b]
/-- A block holds a struct of three cells. -/
def Cel3 (w : World) (b : Nat) (x y z : Value) : Prop := b < w.heap.size ∧ w.cell? ⟨b, 0, none⟩ = some x ∧ w.cell? ⟨b, 1, none⟩ = some y ∧ w.cell? ⟨b, 2, none⟩ = some z
theorem Cel3.lo {w w' : World} {b : Nat} {x y z : Value} (h : Cel3 w b x y z) (l : Below w.heap.size w w') : Cel3 w' b x y z := by
  obtain ⟨h0, h1, h2, h3⟩ := h
  exact ⟨Nat.lt_of_lt_of_le h0 l.size, by rw [l.cell (p := ⟨b, 0, none⟩) h0]; exact h1, by rw [l.cell (p := ⟨b, 1, none⟩) h0]; exact h2, by rw [l.cell (p := ⟨b, 2, none⟩) h0]; exact h3⟩
theorem cel3_new (w : World) (x y z : Value) (t : TypeId) : Cel3 (w.alloc (.cells #[x, y, z] t)) w.heap.size x y z :=
  ⟨by simp, by rw [World.cell?_alloc_at _ _ _ _ rfl]; rfl, by rw [World.cell?_alloc_at _ _ _ _ rfl]; rfl, by rw [World.cell?_alloc_at _ _ _ _ rfl]; rfl⟩
/-- The slice value v reads as the stages xs. -/
def StgRow (w : World) (v : Value) (xs : List StageV) : Prop :=
  ∃ a c, v = .slice a xs.length c ∧ xs.length ≤ c ∧ (xs = [] ∨ ∃ g off, a = some ⟨g, off, none⟩ ∧ g < w.heap.size ∧ ∀ j, j < xs.length → w.cell? ⟨g, off + j * 3, none⟩ = some (.int .i64 (xs.getD j stZ).k) ∧ w.cell? ⟨g, off + j * 3 + 1, none⟩ = some (.int .i64 (xs.getD j stZ).a) ∧ w.cell? ⟨g, off + j * 3 + 2, none⟩ = some (.int .i64 (xs.getD j stZ).b))
theorem StgRow.lo {w w' : World} {v : Value} {xs : List StageV} (h : StgRow w v xs) (l : Below w.heap.size w w') : StgRow w' v xs := by
  obtain ⟨a, c, rfl, hlc, h⟩ := h
  refine ⟨a, c, rfl, hlc, ?_⟩
  rcases h with h | ⟨g, off, e, hg, hc⟩
  · exact .inl h
  · exact .inr ⟨g, off, e, Nat.lt_of_lt_of_le hg l.size, fun j hj => by
      rw [l.cell (p := ⟨g, off + j * 3, none⟩) hg, l.cell (p := ⟨g, off + j * 3 + 1, none⟩) hg, l.cell (p := ⟨g, off + j * 3 + 2, none⟩) hg]; exact hc j hj⟩
section
variable {H : Type} {enc : TypeId × Value → H} {P : Program} {w : World} {base : Nat} {held : Bool}
theorem open_stage {r : Reach} {b0 : Nat} {t : TypeId} {f0 f1 f2 : Field} {v : Value} {d : DataW H} {q : List MemPlace} (hs : P.underlying t = some (.struct #[f0, f1, f2])) (hone : Deep.oneCellFields P #[f0, f1, f2] = true) (hC : P.cellsOf t = 3)
    (u0 : P.underlying f0.type = some (.int .i64)) (u1 : P.underlying f1.type = some (.int .i64)) (u2 : P.underlying f2.type = some (.int .i64))
    (hv : Value.okWide P w r b0 t v) (h : DataW.Trod enc P w base (fun _ => true) held t v d q) : ∃ p, StageIn v p := by
  obtain ⟨v0, v1, v2, y0, y1, y2, n, rfl, rfl, rfl, g0, g1, g2⟩ := open_agg3 hs hone hC hv h
  obtain ⟨x0, hp0, _, _⟩ := DataW.trod_int u0 g0
  obtain ⟨x1, hp1, _, _⟩ := DataW.trod_int u1 g1
  obtain ⟨x2, hp2, _, _⟩ := DataW.trod_int u2 g2
  simp at hp0 hp1 hp2
  subst hp0 hp1 hp2
  exact ⟨⟨x0, x1, x2⟩, rfl⟩
variable {spare : Nat → Bool}
/-- What lies at an element of such a slice. -/
structure StgAt (w : World) (a : Addr) (i : Nat) (p : StageV) : Prop where
  one : w.cell? (a.add (i * 3)) = some (.int .i64 p.k)
  two : w.cell? (a.add (i * 3 + 1)) = some (.int .i64 p.a)
  three : w.cell? (a.add (i * 3 + 2)) = some (.int .i64 p.b)
/-- What the walk is told of a slice of stages that came in. -/
def IsStgs (w : World) (a : Option Addr) (len cap : Nat) (zs : List StageV) : Prop :=
  zs.length = len ∧ len ≤ cap ∧ cap ≤ maxLen ∧ ((a = none ∧ len = 0 ∧ cap = 0) ∨ ∃ x, a = some x ∧ ∀ i, i < len → StgAt w x i (zs.getD i stZ))
theorem open_stgs {t e : TypeId} {f0 f1 f2 : Field} {a : Option Addr} {len cap : Nat} {d : DataW H} {ps : List MemPlace} (ht : P.underlying t = some (.slice e)) (he : P.underlying e = some (.struct #[f0, f1, f2]))
    (h0 : P.underlying f0.type = some (.int .i64)) (h1 : P.underlying f1.type = some (.int .i64)) (h2 : P.underlying f2.type = some (.int .i64)) (o0 : f0.offset = 0) (o1 : f1.offset = 1) (o2 : f2.offset = 2) (c0 : P.cellsOf f0.type = 1) (c1 : P.cellsOf f1.type = 1) (c2 : P.cellsOf f2.type = 1) (hc : P.cellsOf e = 3)
    (h : DataW.Trod enc P w base spare held t (.slice a len cap) d ps) : ∃ zs, IsStgs w a len cap zs := by
  obtain ⟨fuel, hf⟩ := h
  rcases DataW.trod_slice ht hf with ⟨hcs, _⟩ | ⟨x, l, c, elems, rest, n, _, hcs, _, _, hl, hm, hlen, hel, _, _⟩
  · simp [Value.cells] at hcs
    obtain ⟨rfl, rfl, rfl⟩ := hcs
    exact ⟨[], rfl, Nat.le_refl _, Nat.zero_le _, .inl ⟨rfl, rfl, rfl⟩⟩
  · simp [Value.cells] at hcs
    obtain ⟨rfl, rfl, rfl⟩ := hcs
    have each : ∀ i, ∃ p : StageV, i < len → StgAt w x i p := by
      intro i
      by_cases hi : i < len
      · have hy := hel i hi
        rw [List.getElem?_eq_getElem (by omega), hc, Option.bind_eq_some_iff] at hy
        obtain ⟨cs, hcs, hy⟩ := hy
        obtain ⟨y0, y1, y2, m, _, _, g0, g1, g2⟩ := Deep.trod_struct3 he hy
        obtain ⟨_, hcl, hcc⟩ := World.cells?_some hcs
        match cs, hcl with
        | [u, v, t], _ =>
          rw [o0, c0] at g0
          rw [o1, c1] at g1
          rw [o2, c2] at g2
          obtain ⟨p, hp, _, _⟩ := DataW.trod_int h0 g0
          obtain ⟨q, hq, _, _⟩ := DataW.trod_int h1 g1
          obtain ⟨r, hr, _, _⟩ := DataW.trod_int h2 g2
          simp at hp hq hr
          subst hp hq hr
          have e0 := hcc 0 (by omega)
          have e1 := hcc 1 (by omega)
          have e2 := hcc 2 (by omega)
          rw [add_add'] at e0 e1 e2
          exact ⟨⟨p, q, r⟩, fun _ => ⟨by simpa using e0, by simpa using e1, by simpa using e2⟩⟩
      · exact ⟨stZ, fun h => absurd h hi⟩
    obtain ⟨f, hf⟩ := Classical.axiomOfChoice each
    refine ⟨(List.range len).map f, by simp, hl, hm, .inr ⟨x, rfl, fun i hi => ?_⟩⟩
    have : ((List.range len).map f).getD i stZ = f i := by simp [List.getD, hi]
    rw [this]
    exact hf i hi
end
theorem stgs_row {w : World} {a : Option Addr} {len cap : Nat} {zs : List StageV} (h : IsStgs w a len cap zs) : zs.length = len ∧ len ≤ maxLen ∧ StgRow w (.slice a zs.length cap) zs := by
  obtain ⟨hl, hc, hm, hd⟩ := h
  refine ⟨hl, by omega, a, cap, rfl, by omega, ?_⟩
  by_cases h0 : zs = []
  · exact .inl h0
  · have hpos : 0 < zs.length := List.length_pos_iff.2 h0
    rcases hd with ⟨_, h2, _⟩ | ⟨⟨b, off, spot⟩, rfl, hp⟩
    · omega
    · have hc0 := (hp 0 (by omega)).one
      have hs : spot = none := by simpa [Addr.add] using World.cell?_spot hc0
      subst hs
      rw [Go.WideShapes.add_plain] at hc0
      refine .inr ⟨b, off, rfl, cellI_lt hc0, fun i hi => ?_⟩
      have h1 := (hp i (by omega)).one
      have h2 := (hp i (by omega)).two
      have h3 := (hp i (by omega)).three
      rw [Go.WideShapes.add_plain] at h1 h2 h3
      exact ⟨h1, by rw [Nat.add_assoc]; exact h2, by rw [Nat.add_assoc]; exact h3⟩
/-- The first stages of a row. -/
theorem StgRow.take {w : World} {a : Option Addr} {c : Nat} {xs : List StageV} (h : StgRow w (.slice a xs.length c) xs) (k : Nat) (hk : k ≤ xs.length) : StgRow w (.slice a k c) (xs.take k) := by
  obtain ⟨a', c', e, hlc, h⟩ := h
  cases e
  have hl : (xs.take k).length = k := by rw [List.length_take]; omega
  refine ⟨a, c, by rw [hl], by omega, ?_⟩
  rcases h with h | ⟨g, off, e, hg, hc⟩
  · exact .inl (by rw [h]; simp)
  · refine .inr ⟨g, off, e, hg, fun j hj => ?_⟩
    rw [hl] at hj
    have : (xs.take k).getD j stZ = xs.getD j stZ := by simp [List.getD, hj]
    rw [this]
    exact hc j (by omega)
theorem toStage_any (p : StageV) (w : World) : Calls Try.prog 143 #[.agg #[.int .i64 p.k, .int .i64 p.a, .int .i64 p.b]] w fun e w' => e = .returned (.agg #[.int .i64 p.k, .int .i64 p.a, .int .i64 p.b]) ∧ Below w.heap.size w w' := by
  obtain ⟨l, a, b⟩ := p
  simp only
  go_enter Try.func143, Try.ntmps143
  go_wp2
  refine bodyPost_ret (v := .agg #[.int .i64 l, .int .i64 a, .int .i64 b]) (by simp [results, Try.results143, go_sem]) rfl ⟨rfl, ?_⟩
  repeat (first | exact Below.refl _ _ | refine Below.alloc ?_ (by simp <;> omega) _)
theorem eqStage_any (p : StageV) (w : World) : Calls Try.prog 146 #[.agg #[.int .i64 p.k, .int .i64 p.a, .int .i64 p.b], .agg #[.int .i64 p.k, .int .i64 p.a, .int .i64 p.b]] w fun e w' => e = .returned (.bool true) ∧ Below w.heap.size w w' := by
  obtain ⟨l, a, b⟩ := p
  simp only
  go_enter Try.func146, Try.ntmps146
  go_wp2
  go_ret
  refine ⟨rfl, ?_⟩
  repeat (first | exact Below.refl _ _ | refine Below.alloc ?_ (by simp <;> omega) _)
def SzStg (n : Nat) (w : World) (e : Ending) (w' : World) : Prop := ∃ z : Int, e = .returned (.int .i64 z) ∧ w = w' ∧ (z < 0 ∨ (0 ≤ z ∧ n ≤ 1048576))
theorem szStg_any (a : Option Addr) (n c : Nat) (w : World) (hn : n ≤ maxLen) : Calls Try.prog 61 #[.slice a n c, .int .i64 1048576] w (SzStg n w) := by
  unfold maxLen at hn
  by_cases h : n ≤ 1048576
  · have h1 : ¬ (1048576 : Int) - n < 0 := by omega
    go_enter Try.func61, Try.ntmps61
    go_wp2
    go_ret
    exact ⟨_, rfl, rfl, .inr ⟨by omega, h⟩⟩
  · have h1 : (1048576 : Int) - n < 0 := by omega
    go_enter Try.func61, Try.ntmps61
    go_wp2
    go_ret
    exact ⟨_, rfl, rfl, .inl (by decide)⟩
set_option maxHeartbeats 1600000 in
theorem eqStgs_same (va vb : Value) (xs : List StageV) (w : World) (ha : StgRow w va xs) (hb : StgRow w vb xs) (hn : xs.length ≤ 2000000) :
    Calls Try.prog 65 #[va, vb] w fun e w' => e = .returned (.bool true) ∧ Below w.heap.size w w' := by
  obtain ⟨a, c, rfl, _, ha⟩ := ha
  obtain ⟨a', c', rfl, _, hb⟩ := hb
  go_enter Try.func65, Try.ntmps65
  go_wp2
  go_loopw [5] (fun i wr => ∃ k : Nat, k ≤ xs.length ∧ i = .int .i64 k ∧ Below w.heap.size w wr) (fun i _ => xs.length - (intOf i).toNat)
  case atStart => exact ⟨0, Nat.zero_le _, rfl, Below.refl _ _⟩
  case round =>
    obtain ⟨k, hk, rfl, hw⟩ := hrel
    by_cases hlt : k < xs.length
    · rcases ha with h | ⟨g, off, rfl, hg, hc⟩
      · subst h; simp at hlt
      rcases hb with h | ⟨g', off', rfl, hg', hc'⟩
      · subst h; simp at hlt
      obtain ⟨h1, h2, h5⟩ := hc k hlt
      obtain ⟨h3, h4, h6⟩ := hc' k hlt
      have hlt' : (k : Int) < (xs.length : Int) := by omega
      clear hc hc'
      generalize xs.getD k stZ = x at h1 h2 h3 h4 h5 h6
      obtain ⟨p, q, r⟩ := x
      simp only at h1 h2 h3 h4 h5 h6
      have hgr : g < wr.heap.size := Nat.lt_of_lt_of_le hg hw.size
      have hgr' : g' < wr.heap.size := Nat.lt_of_lt_of_le hg' hw.size
      rw [← hw.cell (p := ⟨g, off + k * 3, none⟩) hg] at h1
      rw [← hw.cell (p := ⟨g, off + k * 3 + 1, none⟩) hg] at h2
      rw [← hw.cell (p := ⟨g, off + k * 3 + 2, none⟩) hg] at h5
      rw [← hw.cell (p := ⟨g', off' + k * 3, none⟩) hg'] at h3
      rw [← hw.cell (p := ⟨g', off' + k * 3 + 1, none⟩) hg'] at h4
      rw [← hw.cell (p := ⟨g', off' + k * 3 + 2, none⟩) hg'] at h6
      go_wp2_with fail
      go_region_held3 (fun w' => w'.cell? ⟨g, off + k * 3, none⟩ = some (.int .i64 p) ∧ w'.cell? ⟨g, off + k * 3 + 1, none⟩ = some (.int .i64 q) ∧ w'.cell? ⟨g, off + k * 3 + 2, none⟩ = some (.int .i64 r) ∧ w'.cell? ⟨g', off' + k * 3, none⟩ = some (.int .i64 p) ∧ w'.cell? ⟨g', off' + k * 3 + 1, none⟩ = some (.int .i64 q) ∧ w'.cell? ⟨g', off' + k * 3 + 2, none⟩ = some (.int .i64 r)) (first | exact ⟨(hl.cell (p := ⟨g, off + k * 3, none⟩) hgr).trans h1, (hl.cell (p := ⟨g, off + k * 3 + 1, none⟩) hgr).trans h2, (hl.cell (p := ⟨g, off + k * 3 + 2, none⟩) hgr).trans h5, (hl.cell (p := ⟨g', off' + k * 3, none⟩) hgr').trans h3, (hl.cell (p := ⟨g', off' + k * 3 + 1, none⟩) hgr').trans h4, (hl.cell (p := ⟨g', off' + k * 3 + 2, none⟩) hgr').trans h6⟩ | go_keep)
        (first | (go_at_call 146; refine (eqStage_any ⟨p, q, r⟩ _).mono ?_; rintro e w1 ⟨rfl, hl⟩))
      go_wp2
      go_roundw
      case rel => exact ⟨k + 1, by omega, by go_num, (hw.drew).trans (hl.mono hw.size)⟩
      case measure => simp [intOf]; omega
    · have hge : ¬ (k : Int) < (xs.length : Int) := by omega
      go_wp2
      go_ret
      exact ⟨rfl, hw⟩
theorem infoStage : (Try.prog.info? 103).map (fun i => (i.zero, i.size, i.bytes)) = some (some (.agg #[.int .i64 0, .int .i64 0, .int .i64 0]), 3, 24) := by kernel_rfl
theorem three_set (w : World) (b o : Nat) (u v t : Value) {x y z : Value} (h1 : w.cell? ⟨b, o, none⟩ = some x) (h2 : w.cell? ⟨b, o + 1, none⟩ = some y) (h3 : w.cell? ⟨b, o + 2, none⟩ = some z) :
    (((w.setCell ⟨b, o, none⟩ u).setCell ⟨b, o + 1, none⟩ v).setCell ⟨b, o + 2, none⟩ t).cell? ⟨b, o, none⟩ = some u ∧ (((w.setCell ⟨b, o, none⟩ u).setCell ⟨b, o + 1, none⟩ v).setCell ⟨b, o + 2, none⟩ t).cell? ⟨b, o + 1, none⟩ = some v ∧ (((w.setCell ⟨b, o, none⟩ u).setCell ⟨b, o + 1, none⟩ v).setCell ⟨b, o + 2, none⟩ t).cell? ⟨b, o + 2, none⟩ = some t ∧
    ∀ j, j ≠ o → j ≠ o + 1 → j ≠ o + 2 → (((w.setCell ⟨b, o, none⟩ u).setCell ⟨b, o + 1, none⟩ v).setCell ⟨b, o + 2, none⟩ t).cell? ⟨b, j, none⟩ = w.cell? ⟨b, j, none⟩ := by
  refine ⟨?_, ?_, ?_, fun j hj hj2 hj3 => ?_⟩
  · rw [World.cell?_setCell_other _ _ _ _ (fun hh => by have := congrArg Addr.off hh; simp at this), World.cell?_setCell_other _ _ _ _ (fun hh => by have := congrArg Addr.off hh; simp at this)]
    exact World.cell?_setCell_same' _ _ _ (by rw [h1]; rfl)
  · rw [World.cell?_setCell_other _ _ _ _ (fun hh => by have := congrArg Addr.off hh; simp at this)]
    refine World.cell?_setCell_same' _ _ _ ?_
    rw [World.cell?_setCell_other _ _ _ _ (fun hh => by have := congrArg Addr.off hh; simp at this), h2]; rfl
  · refine World.cell?_setCell_same' _ _ _ ?_
    rw [World.cell?_setCell_other _ _ _ _ (fun hh => by have := congrArg Addr.off hh; simp at this), World.cell?_setCell_other _ _ _ _ (fun hh => by have := congrArg Addr.off hh; simp at this), h3]; rfl
  · rw [World.cell?_setCell_other _ _ _ _ (fun hh => hj3 (congrArg Addr.off hh).symm), World.cell?_setCell_other _ _ _ _ (fun hh => hj2 (congrArg Addr.off hh).symm), World.cell?_setCell_other _ _ _ _ (fun hh => hj (congrArg Addr.off hh).symm)]
theorem made_zero3 (m j : Nat) (h : j < m) : (madeCells #[.int .i64 0, .int .i64 0, .int .i64 0] m)[j]? = some (.int .i64 0) := by
  unfold madeCells
  have : j % 3 = 0 ∨ j % 3 = 1 ∨ j % 3 = 2 := by omega
  rcases this with e | e | e <;> simp [h, e]
theorem make_stgs (n : Nat) (hn : n ≤ 2000000) (u : World) :
    (Instr.makeSlice 62 (.int .i64 (n : Int)) (.int .i64 (n : Int))).run Try.prog u = .ok (.slice (some ⟨u.heap.size, 0, none⟩) n n) (u.alloc (.cells (madeCells #[.int .i64 0, .int .i64 0, .int .i64 0] (n * 3)) 103)) := by
  obtain ⟨i0, hi, hz0, hz1, hz2⟩ := info_parts infoStage
  have h := run_make (P := Try.prog) u 62 103 i0 (.agg #[.int .i64 0, .int .i64 0, .int .i64 0]) Try.underlying62 hi hz0 .i64 .i64 (n : Int) (n : Int) (by omega) (Int.le_refl _) (by rw [hz2]; omega) (by omega)
  simpa [hz1, Value.cells] using h
/-- Stages in memory of a call's own. -/
def MineS (w : World) (B E : Nat) (v : Value) (xs : List StageV) : Prop :=
  ∃ g, v = .slice (some ⟨g, 0, none⟩) xs.length xs.length ∧ B ≤ g ∧ g < E ∧ E ≤ w.heap.size ∧ (∀ j, j < xs.length → w.cell? ⟨g, j * 3, none⟩ = some (.int .i64 (xs.getD j stZ).k) ∧ w.cell? ⟨g, j * 3 + 1, none⟩ = some (.int .i64 (xs.getD j stZ).a) ∧ w.cell? ⟨g, j * 3 + 2, none⟩ = some (.int .i64 (xs.getD j stZ).b)) ∧ ∀ j, w.frozen? ⟨g, j, none⟩ = false
theorem MineS.row {w : World} {B E : Nat} {v : Value} {xs : List StageV} (h : MineS w B E v xs) : StgRow w v xs := by
  obtain ⟨g, rfl, _, hg, hE, hc, _⟩ := h
  exact ⟨_, _, rfl, Nat.le_refl _, .inr ⟨g, 0, rfl, by omega, fun j hj => by rw [Nat.zero_add]; exact hc j hj⟩⟩
theorem MineS.part {w w' : World} {B E B' E' : Nat} {v : Value} {xs : List StageV} (h : MineS w B E v xs) (p : Part B' E' w w') (ho : E ≤ B' ∨ E' ≤ B) : MineS w' B E v xs := by
  obtain ⟨g, e, h1, h2, h3, hc, hf⟩ := h
  have hb : g < B' ∨ E' ≤ g := by omega
  exact ⟨g, e, h1, h2, Nat.le_trans h3 p.size, fun j hj => ⟨(p.cell (p := ⟨g, j * 3, none⟩) (by simp only; omega) hb).trans (hc j hj).1, (p.cell (p := ⟨g, j * 3 + 1, none⟩) (by simp only; omega) hb).trans (hc j hj).2.1, (p.cell (p := ⟨g, j * 3 + 2, none⟩) (by simp only; omega) hb).trans (hc j hj).2.2⟩, fun j => (p.frozen (p := ⟨g, j, none⟩) (by simp only; omega) hb).trans (hf j)⟩
theorem MineS.lo {w w' : World} {B E : Nat} {v : Value} {xs : List StageV} (h : MineS w B E v xs) (l : Below w.heap.size w w') : MineS w' B E v xs :=
  h.part (Part.of_lo (B := E) (E := E) l) (.inl (Nat.le_refl _))
set_option maxRecDepth 100000 in
set_option maxHeartbeats 800000 in
theorem toStgs_mine (a : Option Addr) (c : Nat) (xs : List StageV) (w : World) (hr : StgRow w (.slice a xs.length c) xs) (hn : xs.length ≤ 2000000) :
    Calls Try.prog 63 #[.slice a xs.length c] w fun e w' => ∃ v, e = .returned v ∧ MineS w' w.heap.size w'.heap.size v xs ∧ Below w.heap.size w w' := by
  have HM := make_stgs xs.length hn
  have HR := Lib.hid hr
  clear hr
  go_enter Try.func63, Try.ntmps63
  go_wp2
  go_loopw [4] (fun i wr => ∃ k : Nat, k ≤ xs.length ∧ i = .int .i64 k ∧ Hid (∀ j, j < k → wr.cell? ⟨w.heap.size, j * 3, none⟩ = some (.int .i64 (xs.getD j stZ).k) ∧ wr.cell? ⟨w.heap.size, j * 3 + 1, none⟩ = some (.int .i64 (xs.getD j stZ).a) ∧ wr.cell? ⟨w.heap.size, j * 3 + 2, none⟩ = some (.int .i64 (xs.getD j stZ).b)) ∧ Hid (∀ j, k * 3 ≤ j → j < xs.length * 3 → wr.cell? ⟨w.heap.size, j, none⟩ = some (.int .i64 0)) ∧ Hid (∀ j, wr.frozen? ⟨w.heap.size, j, none⟩ = false) ∧ Below w.heap.size w wr ∧ w.heap.size + 1 ≤ wr.heap.size) (fun i _ => xs.length - (intOf i).toNat)
  case atStart => exact ⟨0, Nat.zero_le _, rfl, Lib.hid (fun j h => by omega), Lib.hid (fun j _ h => by rw [World.cell?_alloc_at _ _ _ _ rfl]; exact made_zero3 _ _ h), Lib.hid (fun j => World.frozen?_alloc_at _ _ _ _ rfl), (Below.refl _ _).alloc (Nat.le_refl _) _, by simp⟩
  case round =>
    obtain ⟨k, hk, rfl, H1, H2, H3, hb, hs1⟩ := hrel
    clear HM
    by_cases hlt : k < xs.length
    · obtain ⟨a', c', he, _, hrr⟩ := HR.out
      cases he
      rcases hrr with h | ⟨g, off, rfl, hg, hc⟩
      · subst h; simp at hlt
      obtain ⟨h1, h2, h3⟩ := hc k hlt
      rw [← hb.cell (p := ⟨g, off + k * 3, none⟩) hg] at h1
      rw [← hb.cell (p := ⟨g, off + k * 3 + 1, none⟩) hg] at h2
      rw [← hb.cell (p := ⟨g, off + k * 3 + 2, none⟩) hg] at h3
      have hlt' : (k : Int) < (xs.length : Int) := by omega
      clear hc
      obtain ⟨x, hx⟩ : ∃ x, xs.getD k stZ = x := ⟨_, rfl⟩
      rw [hx] at h1 h2 h3
      have HX := Lib.hid hx
      clear hx
      obtain ⟨p, q, r⟩ := x
      simp only at h1 h2 h3
      have z1 := H2.out (k * 3) (Nat.le_refl _) (by omega)
      have z2 := H2.out (k * 3 + 1) (by omega) (by omega)
      have z3 := H2.out (k * 3 + 2) (by omega) (by omega)
      have f1 := H3.out (k * 3)
      have f2 := H3.out (k * 3 + 1)
      have f3 := H3.out (k * 3 + 2)
      have hgr : g < wr.heap.size := by omega
      go_wp2_with fail
      refine (toStage_any ⟨p, q, r⟩ wr).mono ?_
      rintro e w1 ⟨rfl, hl⟩
      have hn0 : w.heap.size < wr.heap.size := by omega
      have hl1 := hl.size
      rw [← hl.cell (p := ⟨w.heap.size, k * 3, none⟩) hn0] at z1
      rw [← hl.cell (p := ⟨w.heap.size, k * 3 + 1, none⟩) hn0] at z2
      rw [← hl.cell (p := ⟨w.heap.size, k * 3 + 2, none⟩) hn0] at z3
      rw [← hl.frozen (p := ⟨w.heap.size, k * 3, none⟩) hn0] at f1
      rw [← hl.frozen (p := ⟨w.heap.size, k * 3 + 1, none⟩) hn0] at f2
      rw [← hl.frozen (p := ⟨w.heap.size, k * 3 + 2, none⟩) hn0] at f3
      have HLL := Lib.hid hl
      have TS := Lib.hid (three_set w1 w.heap.size (k * 3) (.int .i64 p) (.int .i64 q) (.int .i64 r) z1 z2 z3)
      clear hl h1 h2 h3
      go_wp2
      go_roundw
      case rel =>
        obtain ⟨t1, t2, t4, t3⟩ := TS.out
        refine ⟨k + 1, by omega, by go_num, Lib.hid (fun j hj => ?_), Lib.hid (fun j hj hjn => ?_), Lib.hid (fun j => ?_), ?_, by simp; omega⟩
        · by_cases e : j = k
          · subst e
            rw [HX.out]
            exact ⟨t1, t2, t4⟩
          · rw [t3 _ (by omega) (by omega) (by omega), t3 _ (by omega) (by omega) (by omega), t3 _ (by omega) (by omega) (by omega), HLL.out.cell (p := ⟨w.heap.size, j * 3, none⟩) hn0, HLL.out.cell (p := ⟨w.heap.size, j * 3 + 1, none⟩) hn0, HLL.out.cell (p := ⟨w.heap.size, j * 3 + 2, none⟩) hn0]
            exact H1.out j (by omega)
        · rw [t3 _ (by omega) (by omega) (by omega), HLL.out.cell (p := ⟨w.heap.size, j, none⟩) hn0]
          exact H2.out j (by omega) hjn
        · rw [World.frozen?_setCell, World.frozen?_setCell, World.frozen?_setCell, HLL.out.frozen (p := ⟨w.heap.size, j, none⟩) hn0]
          exact H3.out j
        · exact (((hb.trans (HLL.out.mono hb.size)).setCell (p := ⟨w.heap.size, k * 3, none⟩) (Nat.le_refl _) _).setCell (p := ⟨w.heap.size, k * 3 + 1, none⟩) (Nat.le_refl _) _).setCell (p := ⟨w.heap.size, k * 3 + 2, none⟩) (Nat.le_refl _) _
      case measure => simp [intOf]; omega
    · obtain rfl : k = xs.length := by omega
      have hge : ¬ (xs.length : Int) < (xs.length : Int) := by omega
      go_wp2
      go_ret
      exact ⟨_, rfl, ⟨w.heap.size, rfl, Nat.le_refl _, hs1, Nat.le_refl _, H1.out, H3.out⟩, hb⟩
set_option maxHeartbeats 800000 in
/-- Into a row of stages of its own the law writes its marks: nothing that was there turns but this row. -/
theorem markS_any (g n c m : Nat) (w : World) (hn : n ≤ 2000000) (hm : m ≤ 4000000)
    (hc : ∀ j, j < n * 3 → ∃ z, w.cell? ⟨g, j, none⟩ = some (.int .i64 z)) (hf : ∀ j, j < n * 3 → w.frozen? ⟨g, j, none⟩ = false) :
    Calls Try.prog 66 #[.slice (some ⟨g, 0, none⟩) n c, .int .i64 m] w fun e w' => e = .returned (.int .i64 (m + n * 3 : Nat)) ∧ Only g w w' := by
  go_enter Try.func66, Try.ntmps66
  go_wp2
  go_loopw [1, 5] (fun x i wr => ∃ k : Nat, k ≤ n ∧ x = .int .i64 (m + k * 3 : Nat) ∧ i = .int .i64 k ∧ Hid (∀ j, j < n * 3 → ∃ z, wr.cell? ⟨g, j, none⟩ = some (.int .i64 z)) ∧ Hid (∀ j, j < n * 3 → wr.frozen? ⟨g, j, none⟩ = false) ∧ Only g w wr) (fun _ i _ => n - (intOf i).toNat)
  case atStart => exact ⟨0, Nat.zero_le _, rfl, rfl, Lib.hid hc, Lib.hid hf, Only.refl _ _⟩
  case round =>
    obtain ⟨k, hk, rfl, rfl, H2, H3, ho⟩ := hrel
    by_cases hlt : k < n
    · obtain ⟨t, c1⟩ := H2.out (k * 3) (by omega)
      obtain ⟨u, c2⟩ := H2.out (k * 3 + 1) (by omega)
      obtain ⟨v, c3⟩ := H2.out (k * 3 + 2) (by omega)
      have f1 := H3.out (k * 3) (by omega)
      have f2 := H3.out (k * 3 + 1) (by omega)
      have f3 := H3.out (k * 3 + 2) (by omega)
      have hlt' : (k : Int) < (n : Int) := by omega
      have TS := Lib.hid (three_set wr g (k * 3) (.int .i64 ((m : Int) + (k : Int) * 3)) (.int .i64 ((m : Int) + (k : Int) * 3 + 1)) (.int .i64 ((m : Int) + (k : Int) * 3 + 1 + 1)) c1 c2 c3)
      clear hc hf
      go_wp2_with fail
      go_roundw
      case rel =>
        obtain ⟨t1, t2, t4, t3⟩ := TS.out
        refine ⟨k + 1, by omega, by go_num, by go_num, Lib.hid (fun j hj => ?_), Lib.hid (fun j hj => ?_), ho.trans (((only_set _ _ _ _).trans (only_set _ _ _ _)).trans (only_set _ _ _ _))⟩
        · by_cases e1 : j = k * 3
          · subst e1; exact ⟨_, t1⟩
          by_cases e2 : j = k * 3 + 1
          · subst e2; exact ⟨_, t2⟩
          by_cases e3 : j = k * 3 + 2
          · subst e3; exact ⟨_, t4⟩
          rw [t3 _ e1 e2 e3]
          exact H2.out j hj
        · rw [World.frozen?_setCell, World.frozen?_setCell, World.frozen?_setCell]
          exact H3.out j hj
      case measure => simp [intOf]; omega
    · obtain rfl : k = n := by omega
      clear hc hf
      go_wp2
      go_ret
      exact ⟨rfl, ho⟩
theorem markS_mine (B E : Nat) (v : Value) (xs : List StageV) (m : Nat) (w : World) (h : MineS w B E v xs) (hn : xs.length ≤ 2000000) (hm : m ≤ 4000000) :
    Calls Try.prog 66 #[v, .int .i64 m] w fun e w' => e = .returned (.int .i64 (m + xs.length * 3 : Nat)) ∧ Part B E w w' ∧ True := by
  obtain ⟨g, rfl, hB, hE, hs, hc, hf⟩ := h
  refine (markS_any g xs.length xs.length m w hn hm (fun j hj => ?_) (fun j _ => hf j)).mono ?_
  · obtain ⟨k, rfl | rfl | rfl⟩ : ∃ k, j = k * 3 ∨ j = k * 3 + 1 ∨ j = k * 3 + 2 := ⟨j / 3, by omega⟩
    · exact ⟨_, (hc k (by omega)).1⟩
    · exact ⟨_, (hc k (by omega)).2.1⟩
    · exact ⟨_, (hc k (by omega)).2.2⟩
  · rintro e w' ⟨rfl, ho⟩
    exact ⟨rfl, ho.part hB hE, trivial⟩
end Go.Proofs.Ytgjchkcjlmklbaa
