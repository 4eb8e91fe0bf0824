/- WFirstHanging, as one text. -/
import Derived.Test.YthncgcdnljoakaaG9
import Derived.Test.YthncgcdnljoakaaG1
namespace Go.Proofs.Ythncgcdnljoakaa
open Go.RowKit
set_option maxRecDepth 100000 in
set_option maxHeartbeats 6400000 in
theorem exFirstHanging_walk (p0 : MobV) (la lb : Option Addr) (ca cb : Nat) (a1 : Option Addr) (cap1 : Nat) (xs1 : List Int) (w : World) (hb0 : BndM p0) (hn0 : p0.am.length ≤ maxLen) (hm0 : p0.hu.length ≤ maxLen) (hr0 : MobRow w (.agg #[.slice la p0.am.length ca, .slice lb p0.hu.length cb]) p0) (hn1 : xs1.length ≤ maxLen) (hx1 : IntRow w (.slice a1 xs1.length cap1) xs1) (ys0 : List Int) (hy0 : ys0.length ≤ 2000000) (r1 : Bool)
    (S : SmallM p0 → BndM p0 → xs1.length ≤ 1048576 → ∀ (v0 v1 : Value) (w : World), MobRow w v0 p0 → IntRow w v1 xs1 → Calls Try.prog 59 #[v0, v1] w (fun e w' => ∃ u0, e = .returned (.tuple #[u0, .bool r1]) ∧ IntRow w' u0 ys0 ∧ Below w.heap.size w w'))
    (I : SmallM p0 → BndM p0 → xs1.length ≤ 1048576 → ∀ (v0 v1 : Value) (w : World), MobRow w v0 p0 → IntRow w v1 xs1 → Calls Try.prog 62 #[v0, v1] w (fun e w' => ∃ u0, e = .returned (.tuple #[u0, .bool r1]) ∧ MineI w' w.heap.size w'.heap.size u0 ys0 ∧ Below w.heap.size w w')) :
    Calls Try.prog 17 #[.agg #[.slice la p0.am.length ca, .slice lb p0.hu.length cb], .slice a1 xs1.length cap1] w fun e w' => e = .returned (.bool true) ∧ Below w.heap.size w w' := by
  have SP := Lib.hid S
  have IM := Lib.hid I
  clear S I
  have H1 := Lib.hid hx1
  clear hx1
  unfold maxLen at hn1
  by_cases hg1 : xs1.length ≤ 1048576
  case neg =>
    have hg' : (1048576 : Int) < (xs1.length : Int) := by omega
    go_enter Try.func17, Try.ntmps17
    go_wp2
    go_ret
    exact ⟨rfl, (Below.refl _ _).alloc (Nat.le_refl _) _⟩
  have hf1 : ¬ (1048576 : Int) < (xs1.length : Int) := by omega
  have HBD := Lib.hid hb0
  clear hb0
  have H0 := Lib.hid hr0
  clear hr0
  go_enter Try.func17, Try.ntmps17
  go_wp2_with fail
  obtain ⟨w0, hw0⟩ : ∃ x, w.alloc (.cells #[.slice la p0.am.length ca, .slice lb p0.hu.length cb] 59) = x := ⟨_, rfl⟩
  have BA := Lib.hid (show Box2 w0 w.heap.size (.slice la p0.am.length ca) (.slice lb p0.hu.length cb) by rw [← hw0]; exact box2_new _ _ _ _)
  have K0 := Lib.hid (show Below w.heap.size w w0 by rw [← hw0]; exact (Below.refl _ _).alloc (Nat.le_refl _) _)
  have HA := Lib.hid (H0.out.lo K0.out)
  have HI := Lib.hid (H1.out.lo K0.out)
  clear H1
  have hz0 : w.heap.size + 1 = w0.heap.size := by rw [← hw0]; simp
  rw [hw0]
  clear hw0 H0
  have L0 := Lib.hid (Below.refl w0.heap.size w0)
  refine (szMob_any la lb ca cb p0 w0 hn0 hm0).mono ?_
  rintro e w1 ⟨z, rfl, l, hneg | ⟨z0, hb⟩⟩
  · go_wp2
    go_ret
    exact ⟨rfl, lo_on K0.out l⟩
  have HB := Lib.hid hb
  clear hb
  have L1 := Lib.hid (lo_on L0.out l)
  clear L0
  have hz1 : w0.heap.size ≤ w1.heap.size := l.size
  clear l
  obtain ⟨_, k1_0, k1_1⟩ := BA.out.lo L1.out
  go_wp2_with fail
  clear k1_0 k1_1
  refine (toMob_any _ p0 w1 (HA.out.lo L1.out) HB.out).mono ?_
  rintro e w2 ⟨t1, rfl, m, l⟩
  have L2 := Lib.hid (lo_on L1.out l)
  clear L1
  have hz2 : w1.heap.size ≤ w2.heap.size := l.size
  obtain ⟨t1a, t1b, t1c, t1d, rfl⟩ := m.row.form
  have X_t1 := Lib.hid m
  clear m l
  go_wp2_with fail
  refine (toInts_any a1 cap1 xs1 w2 (HI.out.lo L2.out) (by omega)).mono ?_
  rintro e w3 ⟨ti2, rfl, m, l⟩
  have L3 := Lib.hid (lo_on L2.out l)
  clear L2
  have hz3 : w2.heap.size ≤ w3.heap.size := l.size
  have t1_3 := Lib.hid (X_t1.out.lo l)
  clear X_t1
  have X_ti2 := Lib.hid m
  clear m l
  go_wp2_with fail
  refine (SP.out HB.out HBD.out (by omega) _ _ w3 t1_3.out.row X_ti2.out.row).mono ?_
  rintro e w4 ⟨s0, rfl, m0, l⟩
  clear t1_3
  clear X_ti2
  have L4 := Lib.hid (lo_on L3.out l)
  clear L3
  have hz4 : w3.heap.size ≤ w4.heap.size := l.size
  have RS0 := Lib.hid m0
  clear m0
  clear l
  have LS := L4
  clear L4 SP
  have N4 := Lib.hid (Below.refl w4.heap.size w4)
  obtain ⟨_, k2_0, k2_1⟩ := BA.out.lo (lo_on LS.out N4.out)
  go_wp2_with fail
  clear k2_0 k2_1
  refine (toMob_any _ p0 w4 (HA.out.lo (lo_on LS.out N4.out)) HB.out).mono ?_
  rintro e w5 ⟨x0, rfl, m, l⟩
  have N5 := Lib.hid (lo_on N4.out l)
  clear N4
  have hz5 : w4.heap.size ≤ w5.heap.size := l.size
  obtain ⟨x0a, x0b, x0c, x0d, rfl⟩ := m.row.form
  have X_x0 := Lib.hid m
  clear m l
  go_wp2_with fail
  obtain ⟨w6, hb⟩ : ∃ x, w5.alloc (.cells #[.slice x0a p0.am.length x0c, .slice x0b p0.hu.length x0d] 62) = x := ⟨_, rfl⟩
  have bx := Lib.hid (show Box2 w6 w5.heap.size (.slice x0a p0.am.length x0c) (.slice x0b p0.hu.length x0d) by rw [← hb]; exact box2_new _ _ _  _)
  have l : Below w5.heap.size w5 w6 := by rw [← hb]; exact (Below.refl _ _).alloc (Nat.le_refl _) _
  have hz6 : w5.heap.size + 1 = w6.heap.size := by rw [← hb]; simp
  rw [hb]
  clear hb
  have N6 := Lib.hid (lo_on N5.out l)
  clear N5
  have x0_6 := Lib.hid (X_x0.out.lo l)
  clear X_x0
  have X_bx0 := Lib.hid bx.out
  clear bx l
  refine (toInts_any a1 cap1 xs1 w6 (HI.out.lo (lo_on LS.out N6.out)) (by omega)).mono ?_
  rintro e w7 ⟨x1, rfl, m, l⟩
  have N7 := Lib.hid (lo_on N6.out l)
  clear N6
  have hz7 : w6.heap.size ≤ w7.heap.size := l.size
  have x0_7 := Lib.hid (x0_6.out.lo l)
  clear x0_6
  have bx0_7 := Lib.hid (X_bx0.out.lo l)
  clear X_bx0
  have X_x1 := Lib.hid m
  clear m l
  obtain ⟨_, k3_0, k3_1⟩ := bx0_7.out
  go_wp2_with fail
  clear k3_0 k3_1
  refine (IM.out HB.out HBD.out (by omega) _ _ w7 x0_7.out.row X_x1.out.row).mono ?_
  rintro e w8 ⟨g0, rfl, m0, l⟩
  have N8 := Lib.hid (lo_on N7.out l)
  clear N7
  have hz8 : w7.heap.size ≤ w8.heap.size := l.size
  have x0_8 := Lib.hid (x0_7.out.lo l)
  clear x0_7
  have bx0_8 := Lib.hid (bx0_7.out.lo l)
  clear bx0_7
  have x1_8 := Lib.hid (X_x1.out.lo l)
  clear X_x1
  have X_g0 := Lib.hid m0
  clear m0
  clear l
  go_wp2_with fail
  refine (eqInts_same g0 s0 ys0 w8 X_g0.out.row (RS0.out.lo N8.out) hy0).mono ?_
  rintro e w9 ⟨rfl, l⟩
  have N9 := Lib.hid (lo_on N8.out l)
  clear N8
  have hz9 : w8.heap.size ≤ w9.heap.size := l.size
  have x0_9 := Lib.hid (x0_8.out.lo l)
  clear x0_8
  have bx0_9 := Lib.hid (bx0_8.out.lo l)
  clear bx0_8
  have x1_9 := Lib.hid (x1_8.out.lo l)
  clear x1_8
  have g0_9 := Lib.hid (X_g0.out.lo l)
  clear X_g0
  clear l
  obtain ⟨bA, ka0, ka1⟩ := BA.out.lo (lo_on LS.out N9.out)
  obtain ⟨bX, kx0, kx1⟩ := bx0_9.out
  have RT := Lib.hid (fun w' (l : Below w9.heap.size w9 w') => toMob_any _ p0 w' (HA.out.lo (lo_on (lo_on LS.out N9.out) l)) HB.out)
  have RE := Lib.hid (fun t w' (l : Below w9.heap.size w9 w') (h : MobRow w' t p0) => eqMob_same _ t p0 w' (x0_9.out.row.lo l) h HB.out)
  go_wp2_with fail
  go_region_held3 (fun w' => w'.cell? ⟨w.heap.size, 0, none⟩ = some (.slice la p0.am.length ca) ∧ w'.cell? ⟨w.heap.size, 1, none⟩ = some (.slice lb p0.hu.length cb) ∧ w'.cell? ⟨w5.heap.size, 0, none⟩ = some (.slice x0a p0.am.length x0c) ∧ w'.cell? ⟨w5.heap.size, 1, none⟩ = some (.slice x0b p0.hu.length x0d))
    (first
      | exact ⟨(hl.cell (p := ⟨w.heap.size, 0, none⟩) bA).trans ka0, (hl.cell (p := ⟨w.heap.size, 1, none⟩) bA).trans ka1, (hl.cell (p := ⟨w5.heap.size, 0, none⟩) bX).trans kx0, (hl.cell (p := ⟨w5.heap.size, 1, none⟩) bX).trans kx1⟩
      | exact ⟨(hl6.cell (p := ⟨w.heap.size, 0, none⟩) (Nat.lt_of_lt_of_le bA hl.size)).trans ((hl.cell (p := ⟨w.heap.size, 0, none⟩) bA).trans ka0), (hl6.cell (p := ⟨w.heap.size, 1, none⟩) (Nat.lt_of_lt_of_le bA hl.size)).trans ((hl.cell (p := ⟨w.heap.size, 1, none⟩) bA).trans ka1), (hl6.cell (p := ⟨w5.heap.size, 0, none⟩) (Nat.lt_of_lt_of_le bX hl.size)).trans ((hl.cell (p := ⟨w5.heap.size, 0, none⟩) bX).trans kx0), (hl6.cell (p := ⟨w5.heap.size, 1, none⟩) (Nat.lt_of_lt_of_le bX hl.size)).trans ((hl.cell (p := ⟨w5.heap.size, 1, none⟩) bX).trans kx1)⟩
      | go_keep)
    (first
      | (go_at_call 60; refine (RT.out _ (drew_below w9)).mono ?_; rintro e v5 ⟨t5, rfl, m5, hl⟩)
      | (go_at_call 63; refine (RE.out _ _ (lo_on (drew_below w9) hl) m5.row).mono ?_; rintro e v6 ⟨rfl, hl6⟩))
  obtain ⟨w10, hw6⟩ : ∃ x, v6 = x := ⟨_, rfl⟩
  have l : Below w9.heap.size w9 w10 := by rw [← hw6]; exact lo_on (lo_on (drew_below w9) hl) hl6
  rw [hw6]
  clear hw6 hl hl6 m5 RT RE bA ka0 ka1 bX kx0 kx1
  have N10 := Lib.hid (lo_on N9.out l)
  clear N9
  have hz10 : w9.heap.size ≤ w10.heap.size := l.size
  have x0_10 := Lib.hid (x0_9.out.lo l)
  clear x0_9
  have bx0_10 := Lib.hid (bx0_9.out.lo l)
  clear bx0_9
  have x1_10 := Lib.hid (x1_9.out.lo l)
  clear x1_9
  have g0_10 := Lib.hid (g0_9.out.lo l)
  clear g0_9
  clear l
  go_wp2_with fail
  refine (toInts_any a1 cap1 xs1 w10 (HI.out.lo (lo_on LS.out N10.out)) (by omega)).mono ?_
  rintro e w11 ⟨tq, rfl, m, l⟩
  have N11 := Lib.hid (lo_on N10.out l)
  clear N10
  have hz11 : w10.heap.size ≤ w11.heap.size := l.size
  have x0_11 := Lib.hid (x0_10.out.lo l)
  clear x0_10
  have bx0_11 := Lib.hid (bx0_10.out.lo l)
  clear bx0_10
  have x1_11 := Lib.hid (x1_10.out.lo l)
  clear x1_10
  have g0_11 := Lib.hid (g0_10.out.lo l)
  clear g0_10
  have X_tq := Lib.hid m
  clear m l
  go_wp2_with fail
  refine (eqInts_same x1 tq xs1 w11 x1_11.out.row X_tq.out.row (by omega)).mono ?_
  rintro e w12 ⟨rfl, l⟩
  clear X_tq
  have N12 := Lib.hid (lo_on N11.out l)
  clear N11
  have hz12 : w11.heap.size ≤ w12.heap.size := l.size
  have x0_12 := Lib.hid (x0_11.out.lo l)
  clear x0_11
  have bx0_12 := Lib.hid (bx0_11.out.lo l)
  clear bx0_11
  have x1_12 := Lib.hid (x1_11.out.lo l)
  clear x1_11
  have g0_12 := Lib.hid (g0_11.out.lo l)
  clear g0_11
  clear l
  obtain ⟨_, k4_0, k4_1⟩ := bx0_12.out
  go_wp2_with fail
  clear k4_0 k4_1
  refine (markMb_mine w4.heap.size w5.heap.size _ p0 (1) w12 x0_12.out HB.out (by have := (HB.out).1; have := (HB.out).2; omega) (by omega)).mono ?_
  rintro e w13 ⟨rfl, p, hh⟩
  have N13 := Lib.hid (N12.out.trans ((p.below (by omega)).mono (by omega)))
  clear N12
  have hz13 : w12.heap.size ≤ w13.heap.size := p.size
  have bx0_13 := Lib.hid (bx0_12.out.part p (by omega))
  clear bx0_12
  have x1_13 := Lib.hid (x1_12.out.part p (by omega))
  clear x1_12
  have g0_13 := Lib.hid (g0_12.out.part p (by omega))
  clear g0_12
  clear x0_12
  clear p hh
  go_wp2_with fail
  refine (markI_mine w6.heap.size w7.heap.size x1 xs1 (1 + (p0.am.length * 2 + p0.hu.length * 2)) w13 x1_13.out (by omega) (by have := HB.out.1; have := HB.out.2; omega)).mono ?_
  rintro e w14 ⟨rfl, p, hh⟩
  have N14 := Lib.hid (N13.out.trans ((p.below (by omega)).mono (by omega)))
  clear N13
  have hz14 : w13.heap.size ≤ w14.heap.size := p.size
  have bx0_14 := Lib.hid (bx0_13.out.part p (by omega))
  clear bx0_13
  have g0_14 := Lib.hid (g0_13.out.part p (by omega))
  clear g0_13
  clear x1_13
  have Y_x1 := Lib.hid hh
  clear Y_x1
  clear p hh
  go_wp2_with fail
  refine (eqInts_same g0 s0 ys0 w14 g0_14.out.row (RS0.out.lo N14.out) hy0).mono ?_
  rintro e w15 ⟨rfl, l⟩
  have N15 := Lib.hid (lo_on N14.out l)
  clear N14
  have hz15 : w14.heap.size ≤ w15.heap.size := l.size
  have bx0_15 := Lib.hid (bx0_14.out.lo l)
  clear bx0_14
  have g0_15 := Lib.hid (g0_14.out.lo l)
  clear g0_14
  clear l
  go_wp2_with fail
  refine (markI_mine w7.heap.size w8.heap.size g0 ys0 (1) w15 g0_15.out hy0 (by omega)).mono ?_
  rintro e w16 ⟨rfl, p, hh⟩
  have N16 := Lib.hid (N15.out.trans ((p.below (by omega)).mono (by omega)))
  clear N15
  have hz16 : w15.heap.size ≤ w16.heap.size := p.size
  have bx0_16 := Lib.hid (bx0_15.out.part p (by omega))
  clear bx0_15
  clear g0_15
  have Y_g0 := Lib.hid hh
  clear p hh
  go_wp2_with fail
  refine (heldI_held w7.heap.size w8.heap.size _ ys0.length (1) w16 Y_g0.out hy0 (by omega)).mono ?_
  rintro e w' ⟨rfl, rfl⟩
  obtain ⟨_, k5_0, k5_1⟩ := BA.out.lo (lo_on LS.out N16.out)
  go_wp2_with fail
  clear k5_0 k5_1
  refine (toMob_any _ p0 w16 (HA.out.lo (lo_on LS.out N16.out)) HB.out).mono ?_
  rintro e w17 ⟨t16, rfl, m, l⟩
  have N17 := Lib.hid (lo_on N16.out l)
  clear N16
  have hz17 : w16.heap.size ≤ w17.heap.size := l.size
  have bx0_17 := Lib.hid (bx0_16.out.lo l)
  clear bx0_16
  have held_g0_17 := Lib.hid (Y_g0.out.lo l)
  clear Y_g0
  obtain ⟨t16a, t16b, t16c, t16d, rfl⟩ := m.row.form
  have X_t16 := Lib.hid m
  clear m l
  go_wp2_with fail
  refine (toInts_any a1 cap1 xs1 w17 (HI.out.lo (lo_on LS.out N17.out)) (by omega)).mono ?_
  rintro e w18 ⟨ti17, rfl, m, l⟩
  have N18 := Lib.hid (lo_on N17.out l)
  clear N17
  have hz18 : w17.heap.size ≤ w18.heap.size := l.size
  have bx0_18 := Lib.hid (bx0_17.out.lo l)
  clear bx0_17
  have held_g0_18 := Lib.hid (held_g0_17.out.lo l)
  clear held_g0_17
  have t16_18 := Lib.hid (X_t16.out.lo l)
  clear X_t16
  have X_ti17 := Lib.hid m
  clear m l
  go_wp2_with fail
  refine (IM.out HB.out HBD.out (by omega) _ _ w18 t16_18.out.row X_ti17.out.row).mono ?_
  rintro e w19 ⟨h0, rfl, m0, l⟩
  clear t16_18
  clear X_ti17
  have N19 := Lib.hid (lo_on N18.out l)
  clear N18
  have hz19 : w18.heap.size ≤ w19.heap.size := l.size
  have bx0_19 := Lib.hid (bx0_18.out.lo l)
  clear bx0_18
  have held_g0_19 := Lib.hid (held_g0_18.out.lo l)
  clear held_g0_18
  have X_h0 := Lib.hid m0
  clear m0
  clear l
  go_wp2_with fail
  refine (eqInts_same h0 s0 ys0 w19 X_h0.out.row (RS0.out.lo N19.out) hy0).mono ?_
  rintro e w20 ⟨rfl, l⟩
  have N20 := Lib.hid (lo_on N19.out l)
  clear N19
  have hz20 : w19.heap.size ≤ w20.heap.size := l.size
  have bx0_20 := Lib.hid (bx0_19.out.lo l)
  clear bx0_19
  have held_g0_20 := Lib.hid (held_g0_19.out.lo l)
  clear held_g0_19
  have h0_20 := Lib.hid (X_h0.out.lo l)
  clear X_h0
  clear l
  go_wp2_with fail
  refine (heldI_held w7.heap.size w8.heap.size _ ys0.length (1) w20 held_g0_20.out hy0 (by omega)).mono ?_
  rintro e w' ⟨rfl, rfl⟩
  go_wp2
  go_ret
  exact ⟨rfl, lo_on K0.out (lo_on LS.out N20.out)⟩
end Go.Proofs.Ythncgcdnljoakaa
