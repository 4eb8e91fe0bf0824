/- The law's own functions on lists of cells: measured and copied; and lists of cells that came in. -/
import Derived.Test.YtmcjichpeijiaaaPairLaw
import Derived.Test.YtmcjichpeijiaaaLoadTo
import Derived.Test.YtmcjichpeijiaaaIn
import Derived.Deep.RegionHeld3
import Derived.ChangeSlices
import Derived.ChangeSame
namespace Go.Proofs.Ytmcjichpeijiaaa
open Go.RowKit
theorem drew_below (w : World) : Below w.heap.size w w.drew := ⟨rfl, rfl, rfl, Nat.le_refl _, fun _ _ => rfl⟩
def Box2 (w : World) (b : Nat) (x y : Value) : Prop := b < w.heap.size ∧ w.cell? ⟨b, 0, none⟩ = some x ∧ w.cell? ⟨b, 1, none⟩ = some y
theorem Box2.lo {w w' : World} {b : Nat} {x y : Value} (h : Box2 w b x y) (l : Below w.heap.size w w') : Box2 w' b x y := by
  obtain ⟨h0, h1, h2⟩ := h
  exact ⟨Nat.lt_of_lt_of_le h0 l.size, by rw [l.cell (p := ⟨b, 0, none⟩) h0]; exact h1, by rw [l.cell (p := ⟨b, 1, none⟩) h0]; exact h2⟩
theorem Box2.part {w w' : World} {b B E : Nat} {x y : Value} (h : Box2 w b x y) (l : Part B E w w') (hb : b < B ∨ E ≤ b) : Box2 w' b x y := by
  obtain ⟨h0, h1, h2⟩ := h
  exact ⟨Nat.lt_of_lt_of_le h0 l.size, by rw [l.cell (p := ⟨b, 0, none⟩) h0 hb]; exact h1, by rw [l.cell (p := ⟨b, 1, none⟩) h0 hb]; exact h2⟩
theorem box2_new (w : World) (x y : Value) (t : TypeId) : Box2 (w.alloc (.cells #[x, y] t)) w.heap.size x y :=
  ⟨by simp, by rw [World.cell?_alloc_at _ _ _ _ rfl]; rfl, by rw [World.cell?_alloc_at _ _ _ _ rfl]; rfl⟩
theorem szPairs_at (a : Option Addr) (n c : Nat) (z : Int) (w : World) (hn : n ≤ maxLen) (z0 : 0 ≤ z) (z1 : z ≤ 1048576) : Calls Try.prog 19 #[.slice a n c, .int .i64 z] w fun e w' => e = .returned (.int .i64 (if z - n < 0 then -1 else z - n)) ∧ w = w' := by
  unfold maxLen at hn
  by_cases h : z - n < 0
  all_goals go_enter Try.func19, Try.ntmps19
  all_goals go_wp2
  all_goals go_ret
  all_goals exact ⟨rfl, rfl⟩
/-- What a list of cells is measured to. -/
def SzPr (n : Nat) (w : World) (e : Ending) (w' : World) : Prop := ∃ z : Int, e = .returned (.int .i64 z) ∧ w = w' ∧ (z < 0 ∨ (0 ≤ z ∧ (n ≤ 1048576 ∧ z ≤ 1048576)))
theorem szPairs_two (a : Option Addr) (n c : Nat) (z : Int) (w : World) (hn : n ≤ maxLen) (z0 : 0 ≤ z) (z1 : z ≤ 1048576) : Calls Try.prog 19 #[.slice a n c, .int .i64 z] w (SzPr n w) := by
  refine (szPairs_at a n c z w hn z0 z1).mono ?_
  rintro e w' ⟨rfl, rfl⟩
  refine ⟨_, rfl, rfl, ?_⟩
  by_cases h : z - n < 0
  · rw [if_pos h]; exact .inl (by decide)
  · rw [if_neg h]; exact .inr ⟨by omega, by omega, by omega⟩
theorem szPairs_any (a : Option Addr) (n c : Nat) (w : World) (hn : n ≤ maxLen) : Calls Try.prog 19 #[.slice a n c, .int .i64 1048576] w (SzPr n w) :=
  szPairs_two a n c 1048576 w hn (by omega) (by omega)
theorem infoA2 : (Try.prog.info? 29).map (fun i => (i.zero, i.size, i.bytes)) = some (some (.agg #[.int .i64 0, .int .i64 0]), 2, 16) := by kernel_rfl
set_option maxHeartbeats 800000 in
theorem toA2_any (p q : Int) (w : World) : Calls Try.prog 77 #[.agg #[.int .i64 p, .int .i64 q]] w fun e w' => e = .returned (.agg #[.int .i64 p, .int .i64 q]) ∧ Below w.heap.size w w' := by
  go_enter Try.func77, Try.ntmps77
  go_wp2
  refine wp_loop_rounds 3 ?_
  rw [rounds_succ]
  go_wp2
  rw [rounds_succ]
  go_wp2
  rw [rounds_succ]
  go_wp2
  have B2 := (box2_new (w.alloc (.cells #[.int .i64 p, .int .i64 q] 29)) (.int .i64 p) (.int .i64 q) 29).lo ((Below.refl _ _).alloc (Nat.le_refl _) (.cells #[.int .i64 p, .int .i64 q] 29))
  rw [World.size_alloc] at B2
  obtain ⟨_, q0, q1⟩ := B2
  exact bodyPost_ret (v := .agg #[.int .i64 p, .int .i64 q]) (by simp [results, Try.results77, go_sem, q0, q1]) rfl ⟨rfl, ((((Below.refl _ _).alloc (Nat.le_refl _) _).alloc (by simp) _).alloc (by simp; omega) _)⟩
theorem make_pairs (n : Nat) (hn : n ≤ 2000000) (u : World) :
    (Instr.makeSlice 22 (.int .i64 (n : Int)) (.int .i64 (n : Int))).run Try.prog u = .ok (.slice (some ⟨u.heap.size, 0, none⟩) n n) (u.alloc (.cells (madeCells #[.int .i64 0, .int .i64 0] (n * 2)) 29)) := by
  obtain ⟨i0, hi, hz0, hz1, hz2⟩ := info_parts infoA2
  have h := run_make (P := Try.prog) u 22 29 i0 (.agg #[.int .i64 0, .int .i64 0]) Try.underlying22 hi hz0 .i64 .i64 (n : Int) (n : Int) (by omega) (Int.le_refl _) (by rw [hz2]; omega) (by omega)
  simpa [hz1, Value.cells] using h
set_option maxRecDepth 100000 in
set_option maxHeartbeats 800000 in
theorem toPairs_all (a : Option Addr) (c : Nat) (xs : List (Int × Int)) (w : World) (hr : LoadRow w (.slice a xs.length c) xs) (hn : xs.length ≤ 2000000) :
    Calls Try.prog 21 #[.slice a xs.length c] w fun e w' => e = .returned (.slice (some ⟨w.heap.size, 0, none⟩) xs.length xs.length) ∧ LoadRow w' (.slice (some ⟨w.heap.size, 0, none⟩) xs.length xs.length) xs ∧ (∀ j, w'.frozen? ⟨w.heap.size, j, none⟩ = false) ∧ w.heap.size < w'.heap.size ∧ Below w.heap.size w w' := by
  have HM := make_pairs xs.length hn
  have HR := Lib.hid hr
  clear hr
  go_enter Try.func21, Try.ntmps21
  go_wp2
  go_loopw [4] (fun i wr => ∃ k : Nat, k ≤ xs.length ∧ i = .int .i64 k ∧ Hid (∀ j, j < k → wr.cell? ⟨w.heap.size, j * 2, none⟩ = some (.int .i64 (xs.getD j (0, 0)).1) ∧ wr.cell? ⟨w.heap.size, j * 2 + 1, none⟩ = some (.int .i64 (xs.getD j (0, 0)).2)) ∧ Hid (∀ j, k * 2 ≤ j → j < xs.length * 2 → wr.cell? ⟨w.heap.size, j, none⟩ = some (.int .i64 0)) ∧ Hid (∀ j, wr.frozen? ⟨w.heap.size, j, none⟩ = false) ∧ Below w.heap.size w wr ∧ w.heap.size + 1 ≤ wr.heap.size) (fun i _ => xs.length - (intOf i).toNat)
  case atStart => exact ⟨0, Nat.zero_le _, rfl, Lib.hid (fun j h => by omega), Lib.hid (fun j _ h => by rw [World.cell?_alloc_at _ _ _ _ rfl]; exact made_zero _ _ h), Lib.hid (fun j => World.frozen?_alloc_at _ _ _ _ rfl), (Below.refl _ _).alloc (Nat.le_refl _) _, by simp⟩
  case round =>
    obtain ⟨k, hk, rfl, H1, H2, H3, hb, hs1⟩ := hrel
    clear HM
    by_cases hlt : k < xs.length
    · obtain ⟨a', c', he, hrr⟩ := HR.out
      cases he
      rcases hrr with h | ⟨g, off, rfl, hg, hc⟩
      · subst h; simp at hlt
      obtain ⟨h1, h2⟩ := hc k hlt
      rw [← hb.cell (p := ⟨g, off + k * 2, none⟩) hg] at h1
      rw [← hb.cell (p := ⟨g, off + k * 2 + 1, none⟩) hg] at h2
      have hlt' : (k : Int) < (xs.length : Int) := by omega
      clear hc
      obtain ⟨x, hx⟩ : ∃ x, xs.getD k (0, 0) = x := ⟨_, rfl⟩
      rw [hx] at h1 h2
      have HX := Lib.hid hx
      clear hx
      obtain ⟨p, q⟩ := x
      simp only at h1 h2
      have z1 := H2.out (k * 2) (Nat.le_refl _) (by omega)
      have z2 := H2.out (k * 2 + 1) (by omega) (by omega)
      have f1 := H3.out (k * 2)
      have f2 := H3.out (k * 2 + 1)
      have hgr : g < wr.heap.size := by omega
      go_wp2_with fail
      refine (toA2_any p q wr).mono ?_
      rintro e w1 ⟨rfl, hl⟩
      have hn0 : w.heap.size < wr.heap.size := by omega
      have hl1 := hl.size
      rw [← hl.cell (p := ⟨w.heap.size, k * 2, none⟩) hn0] at z1
      rw [← hl.cell (p := ⟨w.heap.size, k * 2 + 1, none⟩) hn0] at z2
      rw [← hl.frozen (p := ⟨w.heap.size, k * 2, none⟩) hn0] at f1
      rw [← hl.frozen (p := ⟨w.heap.size, k * 2 + 1, none⟩) hn0] at f2
      have HLL := Lib.hid hl
      have TS := Lib.hid (two_set w1 w.heap.size (k * 2) (.int .i64 p) (.int .i64 q) z1 z2)
      clear hl h1 h2
      go_wp2
      go_roundw
      case rel =>
        obtain ⟨t1, t2, t3⟩ := TS.out
        refine ⟨k + 1, by omega, by go_num, Lib.hid (fun j hj => ?_), Lib.hid (fun j hj hjn => ?_), Lib.hid (fun j => ?_), ?_, by simp; omega⟩
        · by_cases e : j = k
          · subst e
            rw [HX.out]
            exact ⟨t1, t2⟩
          · rw [t3 _ (by omega) (by omega), t3 _ (by omega) (by omega), HLL.out.cell (p := ⟨w.heap.size, j * 2, none⟩) hn0, HLL.out.cell (p := ⟨w.heap.size, j * 2 + 1, none⟩) hn0]
            exact H1.out j (by omega)
        · rw [t3 _ (by omega) (by omega), HLL.out.cell (p := ⟨w.heap.size, j, none⟩) hn0]
          exact H2.out j (by omega) hjn
        · rw [World.frozen?_setCell, World.frozen?_setCell, HLL.out.frozen (p := ⟨w.heap.size, j, none⟩) hn0]
          exact H3.out j
        · exact ((hb.trans (HLL.out.mono hb.size)).setCell (p := ⟨w.heap.size, k * 2, none⟩) (Nat.le_refl _) _).setCell (p := ⟨w.heap.size, k * 2 + 1, none⟩) (Nat.le_refl _) _
      case measure => simp [intOf]; omega
    · obtain rfl : k = xs.length := by omega
      have hge : ¬ (xs.length : Int) < (xs.length : Int) := by omega
      go_wp2
      go_ret
      exact ⟨rfl, ⟨_, _, rfl, .inr ⟨w.heap.size, 0, rfl, by omega, fun j hj => by rw [Nat.zero_add]; exact H1.out j hj⟩⟩, H3.out, hs1, hb⟩
theorem toPairs_mine (a : Option Addr) (c : Nat) (xs : List (Int × Int)) (w : World) (hr : LoadRow w (.slice a xs.length c) xs) (hn : xs.length ≤ 2000000) :
    Calls Try.prog 21 #[.slice a xs.length c] w fun e w' => e = .returned (.slice (some ⟨w.heap.size, 0, none⟩) xs.length xs.length) ∧ MineL w' w.heap.size w'.heap.size (.slice (some ⟨w.heap.size, 0, none⟩) xs.length xs.length) xs ∧ Below w.heap.size w w' := by
  refine (toPairs_all a c xs w hr hn).mono fun e w' h => ?_
  obtain ⟨h1, ⟨a', c', e', h2⟩, h3, h4, h5⟩ := h
  cases e'
  refine ⟨h1, ?_, h5⟩
  rcases h2 with h2 | ⟨g, off, e2, hg, hc⟩
  · exact .inl ⟨h2, _, _, by rw [h2]; rfl⟩
  · cases e2
    exact .inr ⟨w.heap.size, _, rfl, Nat.le_refl _, h4, Nat.le_refl _, fun j hj => by have := hc j hj; rw [Nat.zero_add] at this; exact this, h3⟩
theorem toPairs_any (a : Option Addr) (c : Nat) (xs : List (Int × Int)) (w : World) (hr : LoadRow w (.slice a xs.length c) xs) (hn : xs.length ≤ 2000000) :
    Calls Try.prog 21 #[.slice a xs.length c] w fun e w' => ∃ v', e = .returned v' ∧ MineL w' w.heap.size w'.heap.size v' xs ∧ Below w.heap.size w w' :=
  (toPairs_mine a c xs w hr hn).mono fun _ _ ⟨h1, h2, h3⟩ => ⟨_, h1, h2, h3⟩
section
open Go.ChangeShapes Go.WideShapes
variable {H : Type} {enc : TypeId × Value → H} {P : Program} {w : World} {base : Nat} {held : Bool}
theorem trod_array2 {spare : Nat → Bool} {t e : TypeId} {fuel : Nat} {c0 c1 : Value} {x : DataW H × List MemPlace} (ht : P.underlying t = some (.array 2 e)) (hce : P.cellsOf e = 1)
    (h : DataW.trod enc P w base spare held fuel t [c0, c1] = some x) :
    ∃ y0 y1 n, DataW.trod enc P w base spare held n e [c0] = some y0 ∧ DataW.trod enc P w base spare held n e [c1] = some y1 :=
  match fuel with
  | 0 => by simp [DataW.trod] at h
  | n + 1 => by
    unfold DataW.trod at h
    rw [ht] at h
    have r2 : List.range 2 = [0, 1] := rfl
    simp [r2, hce] at h
    obtain ⟨_, h⟩ := h
    cases h0 : DataW.trod enc P w base spare held n e [c0] with
    | none => simp [h0] at h
    | some y0 =>
      cases h1 : DataW.trod enc P w base spare held n e [c1] with
      | none => simp [h0, h1] at h
      | some y1 => exact ⟨y0, y1, n, h0, h1⟩
theorem open_cells {spare : Nat → Bool} {t e i : TypeId} {a : Option Addr} {len cap : Nat} {d : DataW H} {ps : List MemPlace} (ht : P.underlying t = some (.slice e)) (he : P.underlying e = some (.array 2 i)) (hi : P.underlying i = some (.int .i64)) (c1 : P.cellsOf i = 1) (c2 : P.cellsOf e = 2)
    (h : DataW.Trod enc P w base spare held t (.slice a len cap) d ps) : ∃ zs, IsPairs .i64 w a len cap zs := by
  obtain ⟨fuel, hf⟩ := h
  rcases DataW.trod_slice ht hf with ⟨hcs, _⟩ | ⟨x, l, c, elems, rest, n, _, hcs, _, _, hl, hm, hlen, hel, _, _⟩
  · simp [Value.cells] at hcs
    obtain ⟨rfl, rfl, rfl⟩ := hcs
    exact ⟨[], rfl, Nat.le_refl _, Nat.zero_le _, .inl ⟨rfl, rfl, rfl⟩⟩
  · simp [Value.cells] at hcs
    obtain ⟨rfl, rfl, rfl⟩ := hcs
    have each : ∀ j, ∃ p : Int × Int, j < len → PairAt w .i64 x j p := by
      intro j
      by_cases hj : j < len
      · have hy := hel j hj
        rw [List.getElem?_eq_getElem (by omega), c2, Option.bind_eq_some_iff] at hy
        obtain ⟨cs, hcs, hy⟩ := hy
        obtain ⟨_, hcl, hcc⟩ := World.cells?_some hcs
        match cs, hcl with
        | [u, v], _ =>
          obtain ⟨y0, y1, m, g0, g1⟩ := trod_array2 he c1 hy
          obtain ⟨p, hp, _, wp⟩ := DataW.trod_int hi g0
          obtain ⟨q, hq, _, wq⟩ := DataW.trod_int hi g1
          simp at hp hq
          subst hp hq
          have e0 := hcc 0 (by omega)
          have e1 := hcc 1 (by omega)
          rw [add_add'] at e0 e1
          exact ⟨(p, q), fun _ => ⟨by simpa using e0, by simpa using e1, wp, wq⟩⟩
      · exact ⟨(0, 0), fun h => absurd h hj⟩
    obtain ⟨f, hf⟩ := Classical.axiomOfChoice each
    refine ⟨(List.range len).map f, by simp, hl, hm, .inr ⟨x, rfl, fun j hj => ?_⟩⟩
    have : ((List.range len).map f).getD j (0, 0) = f j := by simp [List.getD, hj]
    rw [this]
    exact hf j hj
end
end Go.Proofs.Ytmcjichpeijiaaa
