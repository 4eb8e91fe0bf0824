/- The walk of the law on HangLeaves, from contracts of the two functions that it calls. -/
import Derived.Test.YtnadchgekfljkaaMobLaw
import Derived.Test.YtnadchgekfljkaaIntLaw
namespace Go.Proofs.Ytnadchgekfljkaa
open Go.RowKit
set_option maxRecDepth 100000 in
set_option maxHeartbeats 6400000 in
theorem exHangLeaves_walk (p0 : MobV) (la lb : Option Addr) (ca cb : Nat) (a1 : Option Addr) (cap1 : Nat) (xs1 : List Int) (w : World) (hb0 : BndM p0) (hn0 : p0.am.length ≤ maxLen) (hm0 : p0.hu.length ≤ maxLen) (hr0 : MobRow w (.agg #[.slice la p0.am.length ca, .slice lb p0.hu.length cb]) p0) (hn1 : xs1.length ≤ maxLen) (hx1 : IntRow w (.slice a1 xs1.length cap1) xs1) (ys0 : MobV) (hy0 : SmallM ys0) (r1 : Bool)
    (S : SmallM p0 → BndM p0 → xs1.length ≤ 1048576 → ∀ (v0 v1 : Value) (w : World), MobRow w v0 p0 → IntRow w v1 xs1 → Calls Try.prog 36 #[v0, v1] w (fun e w' => ∃ u0, e = .returned (.tuple #[u0, .bool r1]) ∧ MobRow w' u0 ys0 ∧ Below w.heap.size w w'))
    (I : SmallM p0 → BndM p0 → xs1.length ≤ 1048576 → ∀ (v0 v1 : Value) (w : World), MobRow w v0 p0 → IntRow w v1 xs1 → Calls Try.prog 38 #[v0, v1] w (fun e w' => ∃ u0, e = .returned (.tuple #[u0, .bool r1]) ∧ MineMb w' w.heap.size w'.heap.size u0 ys0 ∧ Below w.heap.size w w')) :
    Calls Try.prog 8 #[.agg #[.slice la p0.am.length ca, .slice lb p0.hu.length cb], .slice a1 xs1.length cap1] w fun e w' => e = .returned (.bool true) ∧ Below w.heap.size w w' := by
  have SP := Lib.hid S
  have IM := Lib.hid I
  clear S I
  have H1 := Lib.hid hx1
  clear hx1
  unfold maxLen at hn1
  by_cases hg1 : xs1.length ≤ 1048576
  case neg =>
    have hg' : (1048576 : Int) < (xs1.length : Int) := by omega
    go_enter Try.func8, Try.ntmps8
    go_wp2
    go_ret
    exact ⟨rfl, (Below.refl _ _).alloc (Nat.le_refl _) _⟩
  have hf1 : ¬ (1048576 : Int) < (xs1.length : Int) := by omega
  have HBD := Lib.hid hb0
  clear hb0
  have H0 := Lib.hid hr0
  clear hr0
  go_enter Try.func8, Try.ntmps8
  go_wp2_with fail
  obtain ⟨w0, hw0⟩ : ∃ x, w.alloc (.cells #[.slice la p0.am.length ca, .slice lb p0.hu.length cb] 24) = x := ⟨_, rfl⟩
  have BA := Lib.hid (show Box2 w0 w.heap.size (.slice la p0.am.length ca) (.slice lb p0.hu.length cb) by rw [← hw0]; exact box2_new _ _ _ _)
  have K0 := Lib.hid (show Below w.heap.size w w0 by rw [← hw0]; exact (Below.refl _ _).alloc (Nat.le_refl _) _)
  have HA := Lib.hid (H0.out.lo K0.out)
  have HI := Lib.hid (H1.out.lo K0.out)
  clear H1
  have hz0 : w.heap.size + 1 = w0.heap.size := by rw [← hw0]; simp
  rw [hw0]
  clear hw0 H0
  have L0 := Lib.hid (Below.refl w0.heap.size w0)
  refine (szMob_any la lb ca cb p0 w0 hn0 hm0).mono ?_
  rintro e w1 ⟨z, rfl, l, hneg | ⟨z0, hb⟩⟩
  · go_wp2
    go_ret
    exact ⟨rfl, lo_on K0.out l⟩
  have HB := Lib.hid hb
  clear hb
  have L1 := Lib.hid (lo_on L0.out l)
  clear L0
  have hz1 : w0.heap.size ≤ w1.heap.size := l.size
  clear l
  obtain ⟨_, k1_0, k1_1⟩ := BA.out.lo L1.out
  go_wp2_with fail
  clear k1_0 k1_1
  refine (toMob_any _ p0 w1 (HA.out.lo L1.out) HB.out).mono ?_
  rintro e w2 ⟨t1, rfl, m, l⟩
  have L2 := Lib.hid (lo_on L1.out l)
  clear L1
  have hz2 : w1.heap.size ≤ w2.heap.size := l.size
  obtain ⟨t1a, t1b, t1c, t1d, rfl⟩ := m.row.form
  have X_t1 := Lib.hid m
  clear m l
  go_wp2_with fail
  refine (toInts_any a1 cap1 xs1 w2 (HI.out.lo L2.out) (by omega)).mono ?_
  rintro e w3 ⟨ti2, rfl, m, l⟩
  have L3 := Lib.hid (lo_on L2.out l)
  clear L2
  have hz3 : w2.heap.size ≤ w3.heap.size := l.size
  have t1_3 := Lib.hid (X_t1.out.lo l)
  clear X_t1
  have X_ti2 := Lib.hid m
  clear m l
  go_wp2_with fail
  refine (SP.out HB.out HBD.out (by omega) _ _ w3 t1_3.out.row X_ti2.out.row).mono ?_
  rintro e w4 ⟨s0, rfl, m0, l⟩
  clear t1_3
  clear X_ti2
  have L4 := Lib.hid (lo_on L3.out l)
  clear L3
  have hz4 : w3.heap.size ≤ w4.heap.size := l.size
  obtain ⟨s0a, s0b, s0c, s0d, rfl⟩ := m0.form
  have RS0 := Lib.hid m0
  clear m0
  clear l
  have LS := L4
  clear L4 SP
  have N4 := Lib.hid (Below.refl w4.heap.size w4)
  obtain ⟨_, k2_0, k2_1⟩ := BA.out.lo (lo_on LS.out N4.out)
  go_wp2_with fail
  clear k2_0 k2_1
  obtain ⟨w5, hb⟩ : ∃ x, w4.alloc (.cells #[.slice s0a ys0.am.length s0c, .slice s0b ys0.hu.length s0d] 27) = x := ⟨_, rfl⟩
  have bx := Lib.hid (show Box2 w5 w4.heap.size (.slice s0a ys0.am.length s0c) (.slice s0b ys0.hu.length s0d) by rw [← hb]; exact box2_new _ _ _  _)
  have l : Below w4.heap.size w4 w5 := by rw [← hb]; exact (Below.refl _ _).alloc (Nat.le_refl _) _
  have hz5 : w4.heap.size + 1 = w5.heap.size := by rw [← hb]; simp
  rw [hb]
  clear hb
  have N5 := Lib.hid (lo_on N4.out l)
  clear N4
  have X_bs0 := Lib.hid bx.out
  clear bx l
  refine (toMob_any _ p0 w5 (HA.out.lo (lo_on LS.out N5.out)) HB.out).mono ?_
  rintro e w6 ⟨x0, rfl, m, l⟩
  have N6 := Lib.hid (lo_on N5.out l)
  clear N5
  have hz6 : w5.heap.size ≤ w6.heap.size := l.size
  have bs0_6 := Lib.hid (X_bs0.out.lo l)
  clear X_bs0
  obtain ⟨x0a, x0b, x0c, x0d, rfl⟩ := m.row.form
  have X_x0 := Lib.hid m
  clear m l
  go_wp2_with fail
  obtain ⟨w7, hb⟩ : ∃ x, w6.alloc (.cells #[.slice x0a p0.am.length x0c, .slice x0b p0.hu.length x0d] 27) = x := ⟨_, rfl⟩
  have bx := Lib.hid (show Box2 w7 w6.heap.size (.slice x0a p0.am.length x0c) (.slice x0b p0.hu.length x0d) by rw [← hb]; exact box2_new _ _ _  _)
  have l : Below w6.heap.size w6 w7 := by rw [← hb]; exact (Below.refl _ _).alloc (Nat.le_refl _) _
  have hz7 : w6.heap.size + 1 = w7.heap.size := by rw [← hb]; simp
  rw [hb]
  clear hb
  have N7 := Lib.hid (lo_on N6.out l)
  clear N6
  have bs0_7 := Lib.hid (bs0_6.out.lo l)
  clear bs0_6
  have x0_7 := Lib.hid (X_x0.out.lo l)
  clear X_x0
  have X_bx0 := Lib.hid bx.out
  clear bx l
  refine (toInts_any a1 cap1 xs1 w7 (HI.out.lo (lo_on LS.out N7.out)) (by omega)).mono ?_
  rintro e w8 ⟨x1, rfl, m, l⟩
  have N8 := Lib.hid (lo_on N7.out l)
  clear N7
  have hz8 : w7.heap.size ≤ w8.heap.size := l.size
  have bs0_8 := Lib.hid (bs0_7.out.lo l)
  clear bs0_7
  have x0_8 := Lib.hid (x0_7.out.lo l)
  clear x0_7
  have bx0_8 := Lib.hid (X_bx0.out.lo l)
  clear X_bx0
  have X_x1 := Lib.hid m
  clear m l
  obtain ⟨_, k3_0, k3_1⟩ := bx0_8.out
  go_wp2_with fail
  clear k3_0 k3_1
  refine (IM.out HB.out HBD.out (by omega) _ _ w8 x0_8.out.row X_x1.out.row).mono ?_
  rintro e w9 ⟨g0, rfl, m0, l⟩
  have N9 := Lib.hid (lo_on N8.out l)
  clear N8
  have hz9 : w8.heap.size ≤ w9.heap.size := l.size
  have bs0_9 := Lib.hid (bs0_8.out.lo l)
  clear bs0_8
  have x0_9 := Lib.hid (x0_8.out.lo l)
  clear x0_8
  have bx0_9 := Lib.hid (bx0_8.out.lo l)
  clear bx0_8
  have x1_9 := Lib.hid (X_x1.out.lo l)
  clear X_x1
  obtain ⟨g0a, g0b, g0c, g0d, rfl⟩ := m0.row.form
  have X_g0 := Lib.hid m0
  clear m0
  clear l
  obtain ⟨_, k4_0, k4_1⟩ := bs0_9.out
  go_wp2_with fail
  clear k4_0 k4_1
  obtain ⟨w10, hb⟩ : ∃ x, w9.alloc (.cells #[.slice g0a ys0.am.length g0c, .slice g0b ys0.hu.length g0d] 27) = x := ⟨_, rfl⟩
  have bx := Lib.hid (show Box2 w10 w9.heap.size (.slice g0a ys0.am.length g0c) (.slice g0b ys0.hu.length g0d) by rw [← hb]; exact box2_new _ _ _  _)
  have l : Below w9.heap.size w9 w10 := by rw [← hb]; exact (Below.refl _ _).alloc (Nat.le_refl _) _
  have hz10 : w9.heap.size + 1 = w10.heap.size := by rw [← hb]; simp
  rw [hb]
  clear hb
  have N10 := Lib.hid (lo_on N9.out l)
  clear N9
  have bs0_10 := Lib.hid (bs0_9.out.lo l)
  clear bs0_9
  have x0_10 := Lib.hid (x0_9.out.lo l)
  clear x0_9
  have bx0_10 := Lib.hid (bx0_9.out.lo l)
  clear bx0_9
  have x1_10 := Lib.hid (x1_9.out.lo l)
  clear x1_9
  have g0_10 := Lib.hid (X_g0.out.lo l)
  clear X_g0
  have X_bg0 := Lib.hid bx.out
  clear bx l
  refine (eqMob_same _ _ ys0 w10 g0_10.out.row (RS0.out.lo N10.out) hy0).mono ?_
  rintro e w11 ⟨rfl, l⟩
  have N11 := Lib.hid (lo_on N10.out l)
  clear N10
  have hz11 : w10.heap.size ≤ w11.heap.size := l.size
  have bs0_11 := Lib.hid (bs0_10.out.lo l)
  clear bs0_10
  have x0_11 := Lib.hid (x0_10.out.lo l)
  clear x0_10
  have bx0_11 := Lib.hid (bx0_10.out.lo l)
  clear bx0_10
  have x1_11 := Lib.hid (x1_10.out.lo l)
  clear x1_10
  have g0_11 := Lib.hid (g0_10.out.lo l)
  clear g0_10
  have bg0_11 := Lib.hid (X_bg0.out.lo l)
  clear X_bg0
  clear l
  obtain ⟨bA, ka0, ka1⟩ := BA.out.lo (lo_on LS.out N11.out)
  obtain ⟨bX, kx0, kx1⟩ := bx0_11.out
  have RT := Lib.hid (fun w' (l : Below w11.heap.size w11 w') => toMob_any _ p0 w' (HA.out.lo (lo_on (lo_on LS.out N11.out) l)) HB.out)
  have RE := Lib.hid (fun t w' (l : Below w11.heap.size w11 w') (h : MobRow w' t p0) => eqMob_same _ t p0 w' (x0_11.out.row.lo l) h HB.out)
  go_wp2_with fail
  go_region_held3 (fun w' => w'.cell? ⟨w.heap.size, 0, none⟩ = some (.slice la p0.am.length ca) ∧ w'.cell? ⟨w.heap.size, 1, none⟩ = some (.slice lb p0.hu.length cb) ∧ w'.cell? ⟨w6.heap.size, 0, none⟩ = some (.slice x0a p0.am.length x0c) ∧ w'.cell? ⟨w6.heap.size, 1, none⟩ = some (.slice x0b p0.hu.length x0d))
    (first
      | exact ⟨(hl.cell (p := ⟨w.heap.size, 0, none⟩) bA).trans ka0, (hl.cell (p := ⟨w.heap.size, 1, none⟩) bA).trans ka1, (hl.cell (p := ⟨w6.heap.size, 0, none⟩) bX).trans kx0, (hl.cell (p := ⟨w6.heap.size, 1, none⟩) bX).trans kx1⟩
      | exact ⟨(hl6.cell (p := ⟨w.heap.size, 0, none⟩) (Nat.lt_of_lt_of_le bA hl.size)).trans ((hl.cell (p := ⟨w.heap.size, 0, none⟩) bA).trans ka0), (hl6.cell (p := ⟨w.heap.size, 1, none⟩) (Nat.lt_of_lt_of_le bA hl.size)).trans ((hl.cell (p := ⟨w.heap.size, 1, none⟩) bA).trans ka1), (hl6.cell (p := ⟨w6.heap.size, 0, none⟩) (Nat.lt_of_lt_of_le bX hl.size)).trans ((hl.cell (p := ⟨w6.heap.size, 0, none⟩) bX).trans kx0), (hl6.cell (p := ⟨w6.heap.size, 1, none⟩) (Nat.lt_of_lt_of_le bX hl.size)).trans ((hl.cell (p := ⟨w6.heap.size, 1, none⟩) bX).trans kx1)⟩
      | go_keep)
    (first
      | (go_at_call 21; refine (RT.out _ (drew_below w11)).mono ?_; rintro e v5 ⟨t5, rfl, m5, hl⟩)
      | (go_at_call 23; refine (RE.out _ _ (lo_on (drew_below w11) hl) m5.row).mono ?_; rintro e v6 ⟨rfl, hl6⟩))
  obtain ⟨w12, hw6⟩ : ∃ x, v6 = x := ⟨_, rfl⟩
  have l : Below w11.heap.size w11 w12 := by rw [← hw6]; exact lo_on (lo_on (drew_below w11) hl) hl6
  rw [hw6]
  clear hw6 hl hl6 m5 RT RE bA ka0 ka1 bX kx0 kx1
  have N12 := Lib.hid (lo_on N11.out l)
  clear N11
  have hz12 : w11.heap.size ≤ w12.heap.size := l.size
  have bs0_12 := Lib.hid (bs0_11.out.lo l)
  clear bs0_11
  have x0_12 := Lib.hid (x0_11.out.lo l)
  clear x0_11
  have bx0_12 := Lib.hid (bx0_11.out.lo l)
  clear bx0_11
  have x1_12 := Lib.hid (x1_11.out.lo l)
  clear x1_11
  have g0_12 := Lib.hid (g0_11.out.lo l)
  clear g0_11
  have bg0_12 := Lib.hid (bg0_11.out.lo l)
  clear bg0_11
  clear l
  go_wp2_with fail
  refine (toInts_any a1 cap1 xs1 w12 (HI.out.lo (lo_on LS.out N12.out)) (by omega)).mono ?_
  rintro e w13 ⟨tq, rfl, m, l⟩
  have N13 := Lib.hid (lo_on N12.out l)
  clear N12
  have hz13 : w12.heap.size ≤ w13.heap.size := l.size
  have bs0_13 := Lib.hid (bs0_12.out.lo l)
  clear bs0_12
  have x0_13 := Lib.hid (x0_12.out.lo l)
  clear x0_12
  have bx0_13 := Lib.hid (bx0_12.out.lo l)
  clear bx0_12
  have x1_13 := Lib.hid (x1_12.out.lo l)
  clear x1_12
  have g0_13 := Lib.hid (g0_12.out.lo l)
  clear g0_12
  have bg0_13 := Lib.hid (bg0_12.out.lo l)
  clear bg0_12
  have X_tq := Lib.hid m
  clear m l
  go_wp2_with fail
  refine (eqInts_same x1 tq xs1 w13 x1_13.out.row X_tq.out.row (by omega)).mono ?_
  rintro e w14 ⟨rfl, l⟩
  clear X_tq
  have N14 := Lib.hid (lo_on N13.out l)
  clear N13
  have hz14 : w13.heap.size ≤ w14.heap.size := l.size
  have bs0_14 := Lib.hid (bs0_13.out.lo l)
  clear bs0_13
  have x0_14 := Lib.hid (x0_13.out.lo l)
  clear x0_13
  have bx0_14 := Lib.hid (bx0_13.out.lo l)
  clear bx0_13
  have x1_14 := Lib.hid (x1_13.out.lo l)
  clear x1_13
  have g0_14 := Lib.hid (g0_13.out.lo l)
  clear g0_13
  have bg0_14 := Lib.hid (bg0_13.out.lo l)
  clear bg0_13
  clear l
  obtain ⟨_, k5_0, k5_1⟩ := bx0_14.out
  go_wp2_with fail
  clear k5_0 k5_1
  refine (markMb_mine w5.heap.size w6.heap.size _ p0 (1) w14 x0_14.out HB.out (by have := (HB.out).1; have := (HB.out).2; omega) (by omega)).mono ?_
  rintro e w15 ⟨rfl, p, hh⟩
  have N15 := Lib.hid (N14.out.trans ((p.below (by omega)).mono (by omega)))
  clear N14
  have hz15 : w14.heap.size ≤ w15.heap.size := p.size
  have bs0_15 := Lib.hid (bs0_14.out.part p (by omega))
  clear bs0_14
  have bx0_15 := Lib.hid (bx0_14.out.part p (by omega))
  clear bx0_14
  have x1_15 := Lib.hid (x1_14.out.part p (by omega))
  clear x1_14
  have g0_15 := Lib.hid (g0_14.out.part p (by omega))
  clear g0_14
  have bg0_15 := Lib.hid (bg0_14.out.part p (by omega))
  clear bg0_14
  clear x0_14
  clear p hh
  go_wp2_with fail
  refine (markI_mine w7.heap.size w8.heap.size x1 xs1 (1 + (p0.am.length * 2 + p0.hu.length * 2)) w15 x1_15.out (by omega) (by have := HB.out.1; have := HB.out.2; omega)).mono ?_
  rintro e w16 ⟨rfl, p, hh⟩
  have N16 := Lib.hid (N15.out.trans ((p.below (by omega)).mono (by omega)))
  clear N15
  have hz16 : w15.heap.size ≤ w16.heap.size := p.size
  have bs0_16 := Lib.hid (bs0_15.out.part p (by omega))
  clear bs0_15
  have bx0_16 := Lib.hid (bx0_15.out.part p (by omega))
  clear bx0_15
  have g0_16 := Lib.hid (g0_15.out.part p (by omega))
  clear g0_15
  have bg0_16 := Lib.hid (bg0_15.out.part p (by omega))
  clear bg0_15
  clear x1_15
  have Y_x1 := Lib.hid hh
  clear Y_x1
  clear p hh
  obtain ⟨_, k6_0, k6_1⟩ := bg0_16.out
  obtain ⟨_, k7_0, k7_1⟩ := bs0_16.out
  go_wp2_with fail
  clear k6_0 k6_1 k7_0 k7_1
  refine (eqMob_same _ _ ys0 w16 g0_16.out.row (RS0.out.lo N16.out) hy0).mono ?_
  rintro e w17 ⟨rfl, l⟩
  have N17 := Lib.hid (lo_on N16.out l)
  clear N16
  have hz17 : w16.heap.size ≤ w17.heap.size := l.size
  have bs0_17 := Lib.hid (bs0_16.out.lo l)
  clear bs0_16
  have bx0_17 := Lib.hid (bx0_16.out.lo l)
  clear bx0_16
  have g0_17 := Lib.hid (g0_16.out.lo l)
  clear g0_16
  have bg0_17 := Lib.hid (bg0_16.out.lo l)
  clear bg0_16
  clear l
  obtain ⟨_, k8_0, k8_1⟩ := bg0_17.out
  go_wp2_with fail
  clear k8_0 k8_1
  refine (markMb_mine w8.heap.size w9.heap.size _ ys0 (1) w17 g0_17.out hy0 (by have := (hy0).1; have := (hy0).2; omega) (by omega)).mono ?_
  rintro e w18 ⟨rfl, p, hh⟩
  have N18 := Lib.hid (N17.out.trans ((p.below (by omega)).mono (by omega)))
  clear N17
  have hz18 : w17.heap.size ≤ w18.heap.size := p.size
  have bs0_18 := Lib.hid (bs0_17.out.part p (by omega))
  clear bs0_17
  have bx0_18 := Lib.hid (bx0_17.out.part p (by omega))
  clear bx0_17
  have bg0_18 := Lib.hid (bg0_17.out.part p (by omega))
  clear bg0_17
  clear g0_17
  have Y_g0 := Lib.hid hh
  clear p hh
  obtain ⟨_, k9_0, k9_1⟩ := bg0_18.out
  go_wp2_with fail
  clear k9_0 k9_1
  refine (heldMb_held w8.heap.size w9.heap.size _ ys0 (1) w18 Y_g0.out hy0 (by omega)).mono ?_
  rintro e w19 ⟨rfl, l⟩
  have N19 := Lib.hid (lo_on N18.out l)
  clear N18
  have hz19 : w18.heap.size ≤ w19.heap.size := l.size
  have bs0_19 := Lib.hid (bs0_18.out.lo l)
  clear bs0_18
  have bx0_19 := Lib.hid (bx0_18.out.lo l)
  clear bx0_18
  have bg0_19 := Lib.hid (bg0_18.out.lo l)
  clear bg0_18
  have held_g0_19 := Lib.hid (Y_g0.out.lo l)
  clear Y_g0
  clear l
  obtain ⟨_, k10_0, k10_1⟩ := BA.out.lo (lo_on LS.out N19.out)
  go_wp2_with fail
  clear k10_0 k10_1
  refine (toMob_any _ p0 w19 (HA.out.lo (lo_on LS.out N19.out)) HB.out).mono ?_
  rintro e w20 ⟨t19, rfl, m, l⟩
  have N20 := Lib.hid (lo_on N19.out l)
  clear N19
  have hz20 : w19.heap.size ≤ w20.heap.size := l.size
  have bs0_20 := Lib.hid (bs0_19.out.lo l)
  clear bs0_19
  have bx0_20 := Lib.hid (bx0_19.out.lo l)
  clear bx0_19
  have bg0_20 := Lib.hid (bg0_19.out.lo l)
  clear bg0_19
  have held_g0_20 := Lib.hid (held_g0_19.out.lo l)
  clear held_g0_19
  obtain ⟨t19a, t19b, t19c, t19d, rfl⟩ := m.row.form
  have X_t19 := Lib.hid m
  clear m l
  go_wp2_with fail
  refine (toInts_any a1 cap1 xs1 w20 (HI.out.lo (lo_on LS.out N20.out)) (by omega)).mono ?_
  rintro e w21 ⟨ti20, rfl, m, l⟩
  have N21 := Lib.hid (lo_on N20.out l)
  clear N20
  have hz21 : w20.heap.size ≤ w21.heap.size := l.size
  have bs0_21 := Lib.hid (bs0_20.out.lo l)
  clear bs0_20
  have bx0_21 := Lib.hid (bx0_20.out.lo l)
  clear bx0_20
  have bg0_21 := Lib.hid (bg0_20.out.lo l)
  clear bg0_20
  have held_g0_21 := Lib.hid (held_g0_20.out.lo l)
  clear held_g0_20
  have t19_21 := Lib.hid (X_t19.out.lo l)
  clear X_t19
  have X_ti20 := Lib.hid m
  clear m l
  go_wp2_with fail
  refine (IM.out HB.out HBD.out (by omega) _ _ w21 t19_21.out.row X_ti20.out.row).mono ?_
  rintro e w22 ⟨h0, rfl, m0, l⟩
  clear t19_21
  clear X_ti20
  have N22 := Lib.hid (lo_on N21.out l)
  clear N21
  have hz22 : w21.heap.size ≤ w22.heap.size := l.size
  have bs0_22 := Lib.hid (bs0_21.out.lo l)
  clear bs0_21
  have bx0_22 := Lib.hid (bx0_21.out.lo l)
  clear bx0_21
  have bg0_22 := Lib.hid (bg0_21.out.lo l)
  clear bg0_21
  have held_g0_22 := Lib.hid (held_g0_21.out.lo l)
  clear held_g0_21
  obtain ⟨h0a, h0b, h0c, h0d, rfl⟩ := m0.row.form
  have X_h0 := Lib.hid m0
  clear m0
  clear l
  obtain ⟨_, k11_0, k11_1⟩ := bs0_22.out
  go_wp2_with fail
  clear k11_0 k11_1
  obtain ⟨w23, hb⟩ : ∃ x, w22.alloc (.cells #[.slice h0a ys0.am.length h0c, .slice h0b ys0.hu.length h0d] 27) = x := ⟨_, rfl⟩
  have bx := Lib.hid (show Box2 w23 w22.heap.size (.slice h0a ys0.am.length h0c) (.slice h0b ys0.hu.length h0d) by rw [← hb]; exact box2_new _ _ _  _)
  have l : Below w22.heap.size w22 w23 := by rw [← hb]; exact (Below.refl _ _).alloc (Nat.le_refl _) _
  have hz23 : w22.heap.size + 1 = w23.heap.size := by rw [← hb]; simp
  rw [hb]
  clear hb
  have N23 := Lib.hid (lo_on N22.out l)
  clear N22
  have bs0_23 := Lib.hid (bs0_22.out.lo l)
  clear bs0_22
  have bx0_23 := Lib.hid (bx0_22.out.lo l)
  clear bx0_22
  have bg0_23 := Lib.hid (bg0_22.out.lo l)
  clear bg0_22
  have held_g0_23 := Lib.hid (held_g0_22.out.lo l)
  clear held_g0_22
  have h0_23 := Lib.hid (X_h0.out.lo l)
  clear X_h0
  have X_bh0 := Lib.hid bx.out
  clear bx l
  refine (eqMob_same _ _ ys0 w23 h0_23.out.row (RS0.out.lo N23.out) hy0).mono ?_
  rintro e w24 ⟨rfl, l⟩
  have N24 := Lib.hid (lo_on N23.out l)
  clear N23
  have hz24 : w23.heap.size ≤ w24.heap.size := l.size
  have bs0_24 := Lib.hid (bs0_23.out.lo l)
  clear bs0_23
  have bx0_24 := Lib.hid (bx0_23.out.lo l)
  clear bx0_23
  have bg0_24 := Lib.hid (bg0_23.out.lo l)
  clear bg0_23
  have held_g0_24 := Lib.hid (held_g0_23.out.lo l)
  clear held_g0_23
  have h0_24 := Lib.hid (h0_23.out.lo l)
  clear h0_23
  have bh0_24 := Lib.hid (X_bh0.out.lo l)
  clear X_bh0
  clear l
  obtain ⟨_, k12_0, k12_1⟩ := bg0_24.out
  go_wp2_with fail
  clear k12_0 k12_1
  refine (heldMb_held w8.heap.size w9.heap.size _ ys0 (1) w24 held_g0_24.out hy0 (by omega)).mono ?_
  rintro e w25 ⟨rfl, l⟩
  have N25 := Lib.hid (lo_on N24.out l)
  clear N24
  have hz25 : w24.heap.size ≤ w25.heap.size := l.size
  have bs0_25 := Lib.hid (bs0_24.out.lo l)
  clear bs0_24
  have bx0_25 := Lib.hid (bx0_24.out.lo l)
  clear bx0_24
  have bg0_25 := Lib.hid (bg0_24.out.lo l)
  clear bg0_24
  have held_g0_25 := Lib.hid (held_g0_24.out.lo l)
  clear held_g0_24
  have h0_25 := Lib.hid (h0_24.out.lo l)
  clear h0_24
  have bh0_25 := Lib.hid (bh0_24.out.lo l)
  clear bh0_24
  clear l
  go_wp2
  go_ret
  exact ⟨rfl, lo_on K0.out (lo_on LS.out N25.out)⟩
end Go.Proofs.Ytnadchgekfljkaa
