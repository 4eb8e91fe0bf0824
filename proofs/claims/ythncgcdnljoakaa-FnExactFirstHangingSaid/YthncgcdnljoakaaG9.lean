/- MobLaw, as one text. -/
import Derived.Test.YthncgcdnljoakaaG7
import Derived.Test.YthncgcdnljoakaaG8
import Derived.Test.YthncgcdnljoakaaG1
import Derived.Test.YthncgcdnljoakaaG4
import Derived.Deep.RegionHeld3
namespace Go.Proofs.Ythncgcdnljoakaa
open Go.RowKit
theorem drew_below (w : World) : Below w.heap.size w w.drew := ⟨rfl, rfl, rfl, Nat.le_refl _, fun _ _ => rfl⟩
def Box2 (w : World) (b : Nat) (x y : Value) : Prop := b < w.heap.size ∧ w.cell? ⟨b, 0, none⟩ = some x ∧ w.cell? ⟨b, 1, none⟩ = some y
theorem Box2.lo {w w' : World} {b : Nat} {x y : Value} (h : Box2 w b x y) (l : Below w.heap.size w w') : Box2 w' b x y := by
  obtain ⟨h0, h1, h2⟩ := h
  exact ⟨Nat.lt_of_lt_of_le h0 l.size, by rw [l.cell (p := ⟨b, 0, none⟩) h0]; exact h1, by rw [l.cell (p := ⟨b, 1, none⟩) h0]; exact h2⟩
theorem Box2.part {w w' : World} {b B E : Nat} {x y : Value} (h : Box2 w b x y) (l : Part B E w w') (hb : b < B ∨ E ≤ b) : Box2 w' b x y := by
  obtain ⟨h0, h1, h2⟩ := h
  exact ⟨Nat.lt_of_lt_of_le h0 l.size, by rw [l.cell (p := ⟨b, 0, none⟩) h0 hb]; exact h1, by rw [l.cell (p := ⟨b, 1, none⟩) h0 hb]; exact h2⟩
theorem box2_new (w : World) (x y : Value) (t : TypeId) : Box2 (w.alloc (.cells #[x, y] t)) w.heap.size x y :=
  ⟨by simp, by rw [World.cell?_alloc_at _ _ _ _ rfl]; rfl, by rw [World.cell?_alloc_at _ _ _ _ rfl]; rfl⟩
def SzM (p : MobV) (w : World) (e : Ending) (w' : World) : Prop := ∃ y : Int, e = .returned (.int .i64 y) ∧ Below w.heap.size w w' ∧ (y < 0 ∨ (0 ≤ y ∧ SmallM p))
theorem szPairs_at (a : Option Addr) (n c : Nat) (z : Int) (w : World) (hn : n ≤ maxLen) (z0 : 0 ≤ z) (z1 : z ≤ 1048576) : Calls Try.prog 106 #[.slice a n c, .int .i64 z] w fun e w' => e = .returned (.int .i64 (if z - n < 0 then -1 else z - n)) ∧ w = w' := by
  unfold maxLen at hn
  by_cases h : z - n < 0
  all_goals go_enter Try.func106, Try.ntmps106
  all_goals go_wp2
  all_goals go_ret
  all_goals exact ⟨rfl, rfl⟩
set_option maxRecDepth 100000 in
set_option maxHeartbeats 800000 in
theorem szMob_any (a b : Option Addr) (c d : Nat) (p : MobV) (w : World) (ha : p.am.length ≤ maxLen) (hb : p.hu.length ≤ maxLen) :
    Calls Try.prog 58 #[.agg #[.slice a p.am.length c, .slice b p.hu.length d], .int .i64 1048576] w (SzM p w) := by
  obtain ⟨ls, ws⟩ := p
  simp only at ha hb ⊢
  by_cases h1 : (1048576 : Int) - ls.length < 0
  · have S1 := Lib.hid (fun w => szPairs_at a ls.length c 1048576 w ha (by omega) (by omega))
    rw [if_pos h1] at S1
    go_enter Try.func58, Try.ntmps58
    go_wp2_with fail
    refine (S1.out _).mono ?_
    rintro e w' ⟨rfl, rfl⟩
    go_wp2
    go_ret
    exact ⟨_, rfl, (Below.refl _ _).alloc (Nat.le_refl _) _, .inl (by decide)⟩
  · have S1 := Lib.hid (fun w => szPairs_at a ls.length c 1048576 w ha (by omega) (by omega))
    rw [if_neg h1] at S1
    have S2 := Lib.hid (fun w => szPairs_at b ws.length d (1048576 - (ls.length : Int)) w hb (by omega) (by omega))
    by_cases h2 : (1048576 : Int) - ls.length - ws.length < 0
    · rw [if_pos h2] at S2
      go_enter Try.func58, Try.ntmps58
      go_wp2_with fail
      refine (S1.out _).mono ?_
      rintro e w' ⟨rfl, rfl⟩
      go_wp2_with fail
      refine (S2.out _).mono ?_
      rintro e w' ⟨rfl, rfl⟩
      go_wp2
      go_ret
      exact ⟨_, rfl, (Below.refl _ _).alloc (Nat.le_refl _) _, .inl (by decide)⟩
    · rw [if_neg h2] at S2
      go_enter Try.func58, Try.ntmps58
      go_wp2_with fail
      refine (S1.out _).mono ?_
      rintro e w' ⟨rfl, rfl⟩
      go_wp2_with fail
      refine (S2.out _).mono ?_
      rintro e w' ⟨rfl, rfl⟩
      go_wp2
      go_ret
      exact ⟨_, rfl, (Below.refl _ _).alloc (Nat.le_refl _) _, .inr ⟨by omega, by simp only; omega, by simp only; omega⟩⟩
set_option maxRecDepth 100000 in
set_option maxHeartbeats 800000 in
theorem eqMob_same (u v : Value) (p : MobV) (w : World) (hu : MobRow w u p) (hv : MobRow w v p) (hs : SmallM p) :
    Calls Try.prog 63 #[u, v] w fun e w' => e = .returned (.bool true) ∧ Below w.heap.size w w' := by
  obtain ⟨a, b, rfl, h1, h2⟩ := hu
  obtain ⟨c, d, rfl, k1, k2⟩ := hv
  obtain ⟨hs1, hs2⟩ := hs
  obtain ⟨ls, ws⟩ := p
  simp only at *
  have E1 := Lib.hid (fun w1 (l : Below w.heap.size w w1) => eqPairs_same a c ls w1 (h1.lo l) (k1.lo l) (by omega))
  have E2 := Lib.hid (fun w1 (l : Below w.heap.size w w1) => eqPairs_same b d ws w1 (h2.lo l) (k2.lo l) (by omega))
  clear h1 h2 k1 k2
  have AL := Lib.hid (((Below.refl w.heap.size w).alloc (Nat.le_refl _) (.cells #[a, b] 62)).alloc (by simp) (.cells #[c, d] 62))
  have hbx := Lib.hid (box2_new w a b 62)
  have hby := Lib.hid (box2_new (w.alloc (.cells #[a, b] 62)) c d 62)
  go_enter Try.func63, Try.ntmps63
  go_wp2_with fail
  refine (E1.out _ AL.out).mono ?_
  rintro e w1 ⟨rfl, l1⟩
  have bx := ((hbx.out.lo ((Below.refl _ _).alloc (Nat.le_refl _) _)).lo l1).2
  have by_ := (hby.out.lo l1).2
  simp only [World.size_alloc] at by_
  obtain ⟨x1, x2⟩ := bx
  obtain ⟨y1, y2⟩ := by_
  have L1 := Lib.hid (AL.out.trans (l1.mono (by simp; omega)))
  clear hbx hby AL E1 l1
  go_wp2_with fail
  refine (E2.out _ L1.out).mono ?_
  rintro e w2 ⟨rfl, l2⟩
  have L2 := Lib.hid (lo_on L1.out l2)
  clear L1 E2 l2 x1 x2 y1 y2
  go_wp2
  go_ret
  exact ⟨rfl, L2.out⟩
set_option maxRecDepth 100000 in
set_option maxHeartbeats 800000 in
theorem markMb_mine (B E : Nat) (v : Value) (p : MobV) (m : Nat) (w : World) (h : MineMb w B E v p) (hs : SmallM p) (hm : m ≤ 1000000) (hE : E ≤ w.heap.size) :
    Calls Try.prog 64 #[v, .int .i64 m] w fun e w' => e = .returned (.int .i64 (m + (p.am.length * 2 + p.hu.length * 2) : Nat)) ∧ Part B E w w' ∧ HeldMb w' B E v p m := by
  obtain ⟨a, b, B1, E1, B2, E2, rfl, ⟨k1, k2, k3, k4, k5⟩, h1, h2⟩ := h
  obtain ⟨hs1, hs2⟩ := hs
  obtain ⟨ls, ws⟩ := p
  simp only at *
  have AL := Lib.hid ((Below.refl w.heap.size w).alloc (Nat.le_refl _) (.cells #[a, b] 62))
  have hbx := Lib.hid (box2_new w a b 62)
  have M1 := Lib.hid (markP_mine B1 E1 a ls m (w.alloc (.cells #[a, b] 62)) (h1.lo AL.out) (by omega) (by omega))
  have H2 := Lib.hid (h2.lo AL.out)
  clear h1 h2
  go_enter Try.func64, Try.ntmps64
  go_wp2_with fail
  refine M1.out.mono ?_
  rintro e w1 ⟨rfl, p1, g1⟩
  obtain ⟨_, x1, x2⟩ := hbx.out.part p1 (by omega)
  have P1 := Lib.hid p1
  have G1 := Lib.hid g1
  have M2 := Lib.hid (markP_mine B2 E2 b ws (m + ls.length * 2) w1 (H2.out.part p1 (by omega)) (by omega) (by omega))
  clear p1 g1 H2 M1 hbx
  go_wp2_with fail
  refine M2.out.mono ?_
  rintro e w2 ⟨rfl, p2, g2⟩
  have hr : m + ls.length * 2 + ws.length * 2 = m + (ls.length * 2 + ws.length * 2) := by omega
  rw [hr]
  clear hr M2 x1 x2
  have Q := Lib.hid (show Part B E w w2 from ((Part.of_lo AL.out).trans (P1.out.mono k1 k2)).trans (p2.mono k3 k4))
  have G := Lib.hid (show HeldMb w2 B E (.agg #[a, b]) ⟨ls, ws⟩ m from ⟨a, b, B1, E1, B2, E2, rfl, ⟨k1, k2, k3, k4, k5⟩, G1.out.part p2 (by omega), g2⟩)
  clear p2 g2 G1 P1
  go_wp2
  go_ret
  exact ⟨rfl, Q.out, G.out⟩
theorem infoA2 : (Try.prog.info? 134).map (fun i => (i.zero, i.size, i.bytes)) = some (some (.agg #[.int .i64 0, .int .i64 0]), 2, 16) := by kernel_rfl
set_option maxHeartbeats 800000 in
theorem toA2_any (p q : Int) (w : World) : Calls Try.prog 140 #[.agg #[.int .i64 p, .int .i64 q]] w fun e w' => e = .returned (.agg #[.int .i64 p, .int .i64 q]) ∧ Below w.heap.size w w' := by
  go_enter Try.func140, Try.ntmps140
  go_wp2
  refine wp_loop_rounds 3 ?_
  rw [rounds_succ]
  go_wp2
  rw [rounds_succ]
  go_wp2
  rw [rounds_succ]
  go_wp2
  have B2 := (box2_new (w.alloc (.cells #[.int .i64 p, .int .i64 q] 134)) (.int .i64 p) (.int .i64 q) 134).lo ((Below.refl _ _).alloc (Nat.le_refl _) (.cells #[.int .i64 p, .int .i64 q] 134))
  rw [World.size_alloc] at B2
  obtain ⟨_, q0, q1⟩ := B2
  exact bodyPost_ret (v := .agg #[.int .i64 p, .int .i64 q]) (by simp [results, Try.results140, go_sem, q0, q1]) rfl ⟨rfl, ((((Below.refl _ _).alloc (Nat.le_refl _) _).alloc (by simp) _).alloc (by simp; omega) _)⟩
theorem make_pairs (n : Nat) (hn : n ≤ 2000000) (u : World) :
    (Instr.makeSlice 57 (.int .i64 (n : Int)) (.int .i64 (n : Int))).run Try.prog u = .ok (.slice (some ⟨u.heap.size, 0, none⟩) n n) (u.alloc (.cells (madeCells #[.int .i64 0, .int .i64 0] (n * 2)) 134)) := by
  obtain ⟨i0, hi, hz0, hz1, hz2⟩ := info_parts infoA2
  have h := run_make (P := Try.prog) u 57 134 i0 (.agg #[.int .i64 0, .int .i64 0]) Try.underlying57 hi hz0 .i64 .i64 (n : Int) (n : Int) (by omega) (Int.le_refl _) (by rw [hz2]; omega) (by omega)
  simpa [hz1, Value.cells] using h
set_option maxRecDepth 100000 in
set_option maxHeartbeats 800000 in
theorem toPairs_all (a : Option Addr) (c : Nat) (xs : List (Int × Int)) (w : World) (hr : LoadRow w (.slice a xs.length c) xs) (hn : xs.length ≤ 2000000) :
    Calls Try.prog 111 #[.slice a xs.length c] w fun e w' => e = .returned (.slice (some ⟨w.heap.size, 0, none⟩) xs.length xs.length) ∧ LoadRow w' (.slice (some ⟨w.heap.size, 0, none⟩) xs.length xs.length) xs ∧ (∀ j, w'.frozen? ⟨w.heap.size, j, none⟩ = false) ∧ w.heap.size < w'.heap.size ∧ Below w.heap.size w w' := by
  have HM := make_pairs xs.length hn
  have HR := Lib.hid hr
  clear hr
  go_enter Try.func111, Try.ntmps111
  go_wp2
  go_loopw [4] (fun i wr => ∃ k : Nat, k ≤ xs.length ∧ i = .int .i64 k ∧ Hid (∀ j, j < k → wr.cell? ⟨w.heap.size, j * 2, none⟩ = some (.int .i64 (xs.getD j (0, 0)).1) ∧ wr.cell? ⟨w.heap.size, j * 2 + 1, none⟩ = some (.int .i64 (xs.getD j (0, 0)).2)) ∧ Hid (∀ j, k * 2 ≤ j → j < xs.length * 2 → wr.cell? ⟨w.heap.size, j, none⟩ = some (.int .i64 0)) ∧ Hid (∀ j, wr.frozen? ⟨w.heap.size, j, none⟩ = false) ∧ Below w.heap.size w wr ∧ w.heap.size + 1 ≤ wr.heap.size) (fun i _ => xs.length - (intOf i).toNat)
  case atStart => exact ⟨0, Nat.zero_le _, rfl, Lib.hid (fun j h => by omega), Lib.hid (fun j _ h => by rw [World.cell?_alloc_at _ _ _ _ rfl]; exact made_zero _ _ h), Lib.hid (fun j => World.frozen?_alloc_at _ _ _ _ rfl), (Below.refl _ _).alloc (Nat.le_refl _) _, by simp⟩
  case round =>
    obtain ⟨k, hk, rfl, H1, H2, H3, hb, hs1⟩ := hrel
    clear HM
    by_cases hlt : k < xs.length
    · obtain ⟨a', c', he, hrr⟩ := HR.out
      cases he
      rcases hrr with h | ⟨g, off, rfl, hg, hc⟩
      · subst h; simp at hlt
      obtain ⟨h1, h2⟩ := hc k hlt
      rw [← hb.cell (p := ⟨g, off + k * 2, none⟩) hg] at h1
      rw [← hb.cell (p := ⟨g, off + k * 2 + 1, none⟩) hg] at h2
      have hlt' : (k : Int) < (xs.length : Int) := by omega
      clear hc
      obtain ⟨x, hx⟩ : ∃ x, xs.getD k (0, 0) = x := ⟨_, rfl⟩
      rw [hx] at h1 h2
      have HX := Lib.hid hx
      clear hx
      obtain ⟨p, q⟩ := x
      simp only at h1 h2
      have z1 := H2.out (k * 2) (Nat.le_refl _) (by omega)
      have z2 := H2.out (k * 2 + 1) (by omega) (by omega)
      have f1 := H3.out (k * 2)
      have f2 := H3.out (k * 2 + 1)
      have hgr : g < wr.heap.size := by omega
      go_wp2_with fail
      refine (toA2_any p q wr).mono ?_
      rintro e w1 ⟨rfl, hl⟩
      have hn0 : w.heap.size < wr.heap.size := by omega
      have hl1 := hl.size
      rw [← hl.cell (p := ⟨w.heap.size, k * 2, none⟩) hn0] at z1
      rw [← hl.cell (p := ⟨w.heap.size, k * 2 + 1, none⟩) hn0] at z2
      rw [← hl.frozen (p := ⟨w.heap.size, k * 2, none⟩) hn0] at f1
      rw [← hl.frozen (p := ⟨w.heap.size, k * 2 + 1, none⟩) hn0] at f2
      have HLL := Lib.hid hl
      have TS := Lib.hid (two_set w1 w.heap.size (k * 2) (.int .i64 p) (.int .i64 q) z1 z2)
      clear hl h1 h2
      go_wp2
      go_roundw
      case rel =>
        obtain ⟨t1, t2, t3⟩ := TS.out
        refine ⟨k + 1, by omega, by go_num, Lib.hid (fun j hj => ?_), Lib.hid (fun j hj hjn => ?_), Lib.hid (fun j => ?_), ?_, by simp; omega⟩
        · by_cases e : j = k
          · subst e
            rw [HX.out]
            exact ⟨t1, t2⟩
          · rw [t3 _ (by omega) (by omega), t3 _ (by omega) (by omega), HLL.out.cell (p := ⟨w.heap.size, j * 2, none⟩) hn0, HLL.out.cell (p := ⟨w.heap.size, j * 2 + 1, none⟩) hn0]
            exact H1.out j (by omega)
        · rw [t3 _ (by omega) (by omega), HLL.out.cell (p := ⟨w.heap.size, j, none⟩) hn0]
          exact H2.out j (by omega) hjn
        · rw [World.frozen?_setCell, World.frozen?_setCell, HLL.out.frozen (p := ⟨w.heap.size, j, none⟩) hn0]
          exact H3.out j
        · exact ((hb.trans (HLL.out.mono hb.size)).setCell (p := ⟨w.heap.size, k * 2, none⟩) (Nat.le_refl _) _).setCell (p := ⟨w.heap.size, k * 2 + 1, none⟩) (Nat.le_refl _) _
      case measure => simp [intOf]; omega
    · obtain rfl : k = xs.length := by omega
      have hge : ¬ (xs.length : Int) < (xs.length : Int) := by omega
      go_wp2
      go_ret
      exact ⟨rfl, ⟨_, _, rfl, .inr ⟨w.heap.size, 0, rfl, by omega, fun j hj => by rw [Nat.zero_add]; exact H1.out j hj⟩⟩, H3.out, hs1, hb⟩
theorem toPairs_mine (a : Option Addr) (c : Nat) (xs : List (Int × Int)) (w : World) (hr : LoadRow w (.slice a xs.length c) xs) (hn : xs.length ≤ 2000000) :
    Calls Try.prog 111 #[.slice a xs.length c] w fun e w' => e = .returned (.slice (some ⟨w.heap.size, 0, none⟩) xs.length xs.length) ∧ MineL w' w.heap.size w'.heap.size (.slice (some ⟨w.heap.size, 0, none⟩) xs.length xs.length) xs ∧ Below w.heap.size w w' := by
  refine (toPairs_all a c xs w hr hn).mono fun e w' h => ?_
  obtain ⟨h1, ⟨a', c', e', h2⟩, h3, h4, h5⟩ := h
  cases e'
  refine ⟨h1, ?_, h5⟩
  rcases h2 with h2 | ⟨g, off, e2, hg, hc⟩
  · exact .inl ⟨h2, _, _, by rw [h2]; rfl⟩
  · cases e2
    exact .inr ⟨w.heap.size, _, rfl, Nat.le_refl _, h4, Nat.le_refl _, fun j hj => by have := hc j hj; rw [Nat.zero_add] at this; exact this, h3⟩
theorem frz_old {w : World} {o : Obj} {b : Nat} (h : b < w.heap.size) (j : Nat) : (w.alloc o).frozen? ⟨b, j, none⟩ = w.frozen? ⟨b, j, none⟩ := World.frozen?_of_block (Below.heap_alloc _ _ _ h)
theorem box_three2 (w : World) {x1 y1 x2 y2 x3 y3 : Value} {t1 t2 t3 : TypeId} {W : World} (h : (((w.alloc (.cells #[x1, y1] t1)).alloc (.cells #[x2, y2] t2)).alloc (.cells #[x3, y3] t3)) = W) :
    Box2 W w.heap.size x1 y1 ∧ Box2 W (w.heap.size + 1) x2 y2 ∧ Box2 W (w.heap.size + 1 + 1) x3 y3 ∧ W.heap.size = w.heap.size + 3 ∧ (∀ j, W.frozen? ⟨w.heap.size + 1, j, none⟩ = false) ∧ ∀ j, W.frozen? ⟨w.heap.size + 1 + 1, j, none⟩ = false := by
  subst h
  have A := fun (v : World) (o : Obj) => (Below.refl v.heap.size v).alloc (Nat.le_refl _) o
  have b2 := box2_new (w.alloc (.cells #[x1, y1] t1)) x2 y2 t2
  have b3 := box2_new ((w.alloc (.cells #[x1, y1] t1)).alloc (.cells #[x2, y2] t2)) x3 y3 t3
  simp only [World.size_alloc] at b2 b3
  refine ⟨((box2_new w x1 y1 t1).lo (A _ _)).lo (A _ _), b2.lo (A _ _), b3, by simp, fun j => ?_, fun j => ?_⟩
  · rw [frz_old (by simp)]; exact World.frozen?_alloc_at _ _ _ _ (by simp)
  · exact World.frozen?_alloc_at _ _ _ _ (by simp)
theorem two_boxset (w : World) (g : Nat) {x y : Value} (h : Box2 w g x y) (u v : Value) : Box2 ((w.setCell ⟨g, 0, none⟩ u).setCell ⟨g, 1, none⟩ v) g u v := by
  obtain ⟨h0, h1, h2⟩ := h
  have s1 := one_set w g 0 u h1
  have s2 := one_set (w.setCell ⟨g, 0, none⟩ u) g 1 v (by rw [s1.2 1 (by omega)]; exact h2)
  refine ⟨by simpa using h0, ?_, s2.1⟩
  rw [s2.2 0 (by omega)]; exact s1.1
theorem set_first (w : World) (g : Nat) {x y : Value} (h : Box2 w g x y) (u : Value) : Box2 (w.setCell ⟨g, 0, none⟩ u) g u y := by
  obtain ⟨h0, h1, h2⟩ := h
  have s1 := one_set w g 0 u h1
  exact ⟨by simpa using h0, s1.1, by rw [s1.2 1 (by omega)]; exact h2⟩
set_option maxRecDepth 100000 in
set_option maxHeartbeats 800000 in
theorem toMob_any (v : Value) (p : MobV) (w : World) (hv : MobRow w v p) (hs : SmallM p) :
    Calls Try.prog 60 #[v] w fun e w' => ∃ u, e = .returned u ∧ MineMb w' w.heap.size w'.heap.size u p ∧ Below w.heap.size w w' := by
  obtain ⟨a, b, rfl, h1, h2⟩ := hv
  obtain ⟨hs1, hs2⟩ := hs
  obtain ⟨ls, ws⟩ := p
  simp only at *
  obtain ⟨a1, a2, rfl, _⟩ := id h1
  obtain ⟨b1, b2, rfl, _⟩ := id h2
  have T1 := Lib.hid (fun w1 (l : Below w.heap.size w w1) => toPairs_mine a1 a2 ls w1 (h1.lo l) (by omega))
  have T2 := Lib.hid (fun w1 (l : Below w.heap.size w w1) => toPairs_mine b1 b2 ws w1 (h2.lo l) (by omega))
  clear h1 h2
  go_enter Try.func60, Try.ntmps60
  go_wp2_with fail
  obtain ⟨W0, hW0⟩ : ∃ x, (((w.alloc (.cells #[.slice a1 ls.length a2, .slice b1 ws.length b2] 59)).alloc (.cells #[.slice none 0 0, .slice none 0 0] 62)).alloc (.cells #[.slice none 0 0, .slice none 0 0] 62)) = x := ⟨_, rfl⟩
  have L0 := Lib.hid (show Below w.heap.size w W0 by rw [← hW0]; exact (((Below.refl _ _).alloc (Nat.le_refl _) _).alloc (by simp) _).alloc (by simp; omega) _)
  obtain ⟨B0, R0, O0, z0, FR, FO⟩ := box_three2 w hW0
  rw [hW0]
  have hB0 := Lib.hid B0
  have hR0 := Lib.hid R0
  have hO0 := Lib.hid O0
  clear B0 R0 O0 hW0
  refine (T1.out _ L0.out).mono ?_
  rintro e w1 ⟨rfl, m1, l1⟩
  have hB1 := Lib.hid (hB0.out.lo l1)
  have hR1 := Lib.hid (hR0.out.lo l1)
  obtain ⟨og, o0, o1⟩ := hO0.out.lo l1
  obtain ⟨bg, b0, b1'⟩ := hB1.out
  have fo : w1.frozen? ⟨w.heap.size + 1 + 1, 0, none⟩ = false := by rw [l1.frozen (p := ⟨w.heap.size + 1 + 1, 0, none⟩) (by simp only; omega)]; exact FO 0
  have FR1 := Lib.hid (fun j => show w1.frozen? ⟨w.heap.size + 1, j, none⟩ = false by rw [l1.frozen (p := ⟨w.heap.size + 1, j, none⟩) (by simp only; omega)]; exact FR j)
  have FO1 := Lib.hid (fun j => show w1.frozen? ⟨w.heap.size + 1 + 1, j, none⟩ = false by rw [l1.frozen (p := ⟨w.heap.size + 1 + 1, j, none⟩) (by simp only; omega)]; exact FO j)
  have L1 := Lib.hid (lo_on L0.out l1)
  have M1 := Lib.hid m1
  have hs1' := l1.size
  have P1 := Lib.hid ((only_set w1 (w.heap.size + 1 + 1) 0 (.slice (some ⟨W0.heap.size, 0, none⟩) ls.length ls.length)).part (B := w.heap.size + 1) (E := w.heap.size + 3) (by omega) (by omega))
  clear l1 m1 T1 L0 FR FO hB0 hR0 hO0
  generalize some (⟨W0.heap.size, 0, none⟩ : Addr) = x1 at *
  go_wp2_with fail
  have L2 := Lib.hid (L1.out.trans ((only_set w1 (w.heap.size + 1 + 1) 0 (.slice x1 ls.length ls.length)).below (by omega) |>.mono (by omega)))
  have hO2 := Lib.hid (set_first w1 (w.heap.size + 1 + 1) ⟨og, o0, o1⟩ (.slice x1 ls.length ls.length))
  have hR2 := Lib.hid (hR1.out.part ((only_set w1 (w.heap.size + 1 + 1) 0 (.slice x1 ls.length ls.length)).part (Nat.le_refl _) (Nat.lt_succ_self _)) (by omega))
  have M2 := Lib.hid (M1.out.part P1.out (by omega))
  have FR2 := Lib.hid (fun j => show (w1.setCell ⟨w.heap.size + 1 + 1, 0, none⟩ (.slice x1 ls.length ls.length)).frozen? ⟨w.heap.size + 1, j, none⟩ = false by rw [World.frozen?_setCell]; exact FR1.out j)
  have FO2 := Lib.hid (fun j => show (w1.setCell ⟨w.heap.size + 1 + 1, 0, none⟩ (.slice x1 ls.length ls.length)).frozen? ⟨w.heap.size + 1 + 1, j, none⟩ = false by rw [World.frozen?_setCell]; exact FO1.out j)
  have hsz : (w1.setCell ⟨w.heap.size + 1 + 1, 0, none⟩ (.slice x1 ls.length ls.length)).heap.size = w1.heap.size := by simp
  clear M1 P1 L1 hB1 hR1 FR1 FO1 og o0 o1 bg b0 b1' fo
  generalize w1.setCell ⟨w.heap.size + 1 + 1, 0, none⟩ (.slice x1 ls.length ls.length) = W2 at *
  refine (T2.out _ L2.out).mono ?_
  rintro e w3 ⟨rfl, m3, l3⟩
  obtain ⟨og, o0, o1⟩ := hO2.out.lo l3
  obtain ⟨rg, r0, r1⟩ := hR2.out.lo l3
  have hR3 := Lib.hid (hR2.out.lo l3)
  have fo := (show w3.frozen? ⟨w.heap.size + 1 + 1, 1, none⟩ = false by rw [l3.frozen (p := ⟨w.heap.size + 1 + 1, 1, none⟩) (by simp only; omega)]; exact FO2.out 1)
  have hfr : ∀ j, w3.frozen? ⟨w.heap.size + 1, j, none⟩ = false := fun j => by rw [l3.frozen (p := ⟨w.heap.size + 1, j, none⟩) (by simp only; omega)]; exact FR2.out j
  have f0 := hfr 0
  have f1 := hfr 1
  have L3 := Lib.hid (lo_on L2.out l3)
  have M3 := Lib.hid (M2.out.lo l3)
  have N3 := Lib.hid m3
  have hsz3 := l3.size
  clear l3 m3 T2 L2 hO2 hR2 FO2 FR2 M2 hfr
  generalize some (⟨W2.heap.size, 0, none⟩ : Addr) = y1 at *
  have S0 := (only_set w3 (w.heap.size + 1 + 1) 1 (.slice y1 ws.length ws.length))
  have hR4 := hR3.out.part (S0.part (B := w.heap.size + 1 + 1) (E := w.heap.size + 1 + 1 + 1) (Nat.le_refl _) (Nat.lt_succ_self _)) (by omega)
  have TS := Lib.hid (two_boxset _ _ hR4 (.slice x1 ls.length ls.length) (.slice y1 ws.length ws.length))
  clear hR3 hR4 S0
  go_wp2
  obtain ⟨_, q1, q2⟩ := TS.out
  refine bodyPost_ret (v := .agg #[.slice x1 ls.length ls.length, .slice y1 ws.length ws.length]) (by simp [results, Try.results60, go_sem, q1, q2]) rfl ?_
  have PA := Lib.hid ((((only_set w3 (w.heap.size + 1 + 1) 1 (.slice y1 ws.length ws.length)).part (B := w.heap.size + 1) (E := w.heap.size + 3) (by omega) (by omega)).trans ((only_set _ (w.heap.size + 1) 0 (.slice x1 ls.length ls.length)).part (by omega) (by omega))).trans ((only_set _ (w.heap.size + 1) 1 (.slice y1 ws.length ws.length)).part (by omega) (by omega)))
  refine ⟨_, rfl, ⟨_, _, W0.heap.size, w1.heap.size, w1.heap.size, w3.heap.size, rfl, ⟨by omega, by have := PA.out.size; omega, by omega, PA.out.size, .inl (Nat.le_refl _)⟩, ?_, ?_⟩, ?_⟩
  · exact M3.out.part PA.out (by omega)
  · have := N3.out
    rw [hsz] at this
    exact this.part PA.out (by omega)
  · exact L3.out.trans ((PA.out.below (by omega)).mono (by omega))
end Go.Proofs.Ythncgcdnljoakaa
