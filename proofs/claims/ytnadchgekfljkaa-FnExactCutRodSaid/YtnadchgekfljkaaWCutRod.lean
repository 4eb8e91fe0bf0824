/- The walk of the law on CutRod, from contracts of the two functions that it calls. -/
import Derived.Test.YtnadchgekfljkaaMobLaw
import Derived.Test.YtnadchgekfljkaaIntLaw
namespace Go.Proofs.Ytnadchgekfljkaa
open Go.RowKit
set_option maxRecDepth 100000 in
set_option maxHeartbeats 6400000 in
theorem exCutRod_walk (p0 : MobV) (la lb : Option Addr) (ca cb : Nat) (a1 : Int) (w : World) (hb0 : BndM p0) (hn0 : p0.am.length ≤ maxLen) (hm0 : p0.hu.length ≤ maxLen) (hr0 : MobRow w (.agg #[.slice la p0.am.length ca, .slice lb p0.hu.length cb]) p0) (ys0 : MobV) (hy0 : SmallM ys0) (r1 : Bool)
    (S : SmallM p0 → BndM p0 → ∀ (v0 : Value) (w : World), MobRow w v0 p0 → Calls Try.prog 55 #[v0, .int .i64 a1] w (fun e w' => ∃ u0, e = .returned (.tuple #[u0, .bool r1]) ∧ MobRow w' u0 ys0 ∧ Below w.heap.size w w'))
    (I : SmallM p0 → BndM p0 → ∀ (v0 : Value) (w : World), MobRow w v0 p0 → Calls Try.prog 56 #[v0, .int .i64 a1] w (fun e w' => ∃ u0, e = .returned (.tuple #[u0, .bool r1]) ∧ MineMb w' w.heap.size w'.heap.size u0 ys0 ∧ Below w.heap.size w w')) :
    Calls Try.prog 15 #[.agg #[.slice la p0.am.length ca, .slice lb p0.hu.length cb], .int .i64 a1] w fun e w' => e = .returned (.bool true) ∧ Below w.heap.size w w' := by
  have SP := Lib.hid S
  have IM := Lib.hid I
  clear S I
  have HBD := Lib.hid hb0
  clear hb0
  have H0 := Lib.hid hr0
  clear hr0
  go_enter Try.func15, Try.ntmps15
  go_wp2_with fail
  obtain ⟨w0, hw0⟩ : ∃ x, w.alloc (.cells #[.slice la p0.am.length ca, .slice lb p0.hu.length cb] 24) = x := ⟨_, rfl⟩
  have BA := Lib.hid (show Box2 w0 w.heap.size (.slice la p0.am.length ca) (.slice lb p0.hu.length cb) by rw [← hw0]; exact box2_new _ _ _ _)
  have K0 := Lib.hid (show Below w.heap.size w w0 by rw [← hw0]; exact (Below.refl _ _).alloc (Nat.le_refl _) _)
  have HA := Lib.hid (H0.out.lo K0.out)
  have hz0 : w.heap.size + 1 = w0.heap.size := by rw [← hw0]; simp
  rw [hw0]
  clear hw0 H0
  have L0 := Lib.hid (Below.refl w0.heap.size w0)
  refine (szMob_any la lb ca cb p0 w0 hn0 hm0).mono ?_
  rintro e w1 ⟨z, rfl, l, hneg | ⟨z0, hb⟩⟩
  · go_wp2
    go_ret
    exact ⟨rfl, lo_on K0.out l⟩
  have HB := Lib.hid hb
  clear hb
  have L1 := Lib.hid (lo_on L0.out l)
  clear L0
  have hz1 : w0.heap.size ≤ w1.heap.size := l.size
  clear l
  obtain ⟨_, k1_0, k1_1⟩ := BA.out.lo L1.out
  go_wp2_with fail
  clear k1_0 k1_1
  refine (toMob_any _ p0 w1 (HA.out.lo L1.out) HB.out).mono ?_
  rintro e w2 ⟨t1, rfl, m, l⟩
  have L2 := Lib.hid (lo_on L1.out l)
  clear L1
  have hz2 : w1.heap.size ≤ w2.heap.size := l.size
  obtain ⟨t1a, t1b, t1c, t1d, rfl⟩ := m.row.form
  have X_t1 := Lib.hid m
  clear m l
  go_wp2_with fail
  refine (SP.out HB.out HBD.out _ w2 X_t1.out.row).mono ?_
  rintro e w3 ⟨s0, rfl, m0, l⟩
  clear X_t1
  have L3 := Lib.hid (lo_on L2.out l)
  clear L2
  have hz3 : w2.heap.size ≤ w3.heap.size := l.size
  obtain ⟨s0a, s0b, s0c, s0d, rfl⟩ := m0.form
  have RS0 := Lib.hid m0
  clear m0
  clear l
  have LS := L3
  clear L3 SP
  have N3 := Lib.hid (Below.refl w3.heap.size w3)
  obtain ⟨_, k2_0, k2_1⟩ := BA.out.lo (lo_on LS.out N3.out)
  go_wp2_with fail
  clear k2_0 k2_1
  obtain ⟨w4, hb⟩ : ∃ x, w3.alloc (.cells #[.slice s0a ys0.am.length s0c, .slice s0b ys0.hu.length s0d] 27) = x := ⟨_, rfl⟩
  have bx := Lib.hid (show Box2 w4 w3.heap.size (.slice s0a ys0.am.length s0c) (.slice s0b ys0.hu.length s0d) by rw [← hb]; exact box2_new _ _ _  _)
  have l : Below w3.heap.size w3 w4 := by rw [← hb]; exact (Below.refl _ _).alloc (Nat.le_refl _) _
  have hz4 : w3.heap.size + 1 = w4.heap.size := by rw [← hb]; simp
  rw [hb]
  clear hb
  have N4 := Lib.hid (lo_on N3.out l)
  clear N3
  have X_bs0 := Lib.hid bx.out
  clear bx l
  refine (toMob_any _ p0 w4 (HA.out.lo (lo_on LS.out N4.out)) HB.out).mono ?_
  rintro e w5 ⟨x0, rfl, m, l⟩
  have N5 := Lib.hid (lo_on N4.out l)
  clear N4
  have hz5 : w4.heap.size ≤ w5.heap.size := l.size
  have bs0_5 := Lib.hid (X_bs0.out.lo l)
  clear X_bs0
  obtain ⟨x0a, x0b, x0c, x0d, rfl⟩ := m.row.form
  have X_x0 := Lib.hid m
  clear m l
  go_wp2_with fail
  obtain ⟨w6, hb⟩ : ∃ x, w5.alloc (.cells #[.slice x0a p0.am.length x0c, .slice x0b p0.hu.length x0d] 27) = x := ⟨_, rfl⟩
  have bx := Lib.hid (show Box2 w6 w5.heap.size (.slice x0a p0.am.length x0c) (.slice x0b p0.hu.length x0d) by rw [← hb]; exact box2_new _ _ _  _)
  have l : Below w5.heap.size w5 w6 := by rw [← hb]; exact (Below.refl _ _).alloc (Nat.le_refl _) _
  have hz6 : w5.heap.size + 1 = w6.heap.size := by rw [← hb]; simp
  rw [hb]
  clear hb
  have N6 := Lib.hid (lo_on N5.out l)
  clear N5
  have bs0_6 := Lib.hid (bs0_5.out.lo l)
  clear bs0_5
  have x0_6 := Lib.hid (X_x0.out.lo l)
  clear X_x0
  have X_bx0 := Lib.hid bx.out
  clear bx l
  refine (IM.out HB.out HBD.out _ w6 x0_6.out.row).mono ?_
  rintro e w7 ⟨g0, rfl, m0, l⟩
  have N7 := Lib.hid (lo_on N6.out l)
  clear N6
  have hz7 : w6.heap.size ≤ w7.heap.size := l.size
  have bs0_7 := Lib.hid (bs0_6.out.lo l)
  clear bs0_6
  have x0_7 := Lib.hid (x0_6.out.lo l)
  clear x0_6
  have bx0_7 := Lib.hid (X_bx0.out.lo l)
  clear X_bx0
  obtain ⟨g0a, g0b, g0c, g0d, rfl⟩ := m0.row.form
  have X_g0 := Lib.hid m0
  clear m0
  clear l
  obtain ⟨_, k3_0, k3_1⟩ := bs0_7.out
  go_wp2_with fail
  clear k3_0 k3_1
  obtain ⟨w8, hb⟩ : ∃ x, w7.alloc (.cells #[.slice g0a ys0.am.length g0c, .slice g0b ys0.hu.length g0d] 27) = x := ⟨_, rfl⟩
  have bx := Lib.hid (show Box2 w8 w7.heap.size (.slice g0a ys0.am.length g0c) (.slice g0b ys0.hu.length g0d) by rw [← hb]; exact box2_new _ _ _  _)
  have l : Below w7.heap.size w7 w8 := by rw [← hb]; exact (Below.refl _ _).alloc (Nat.le_refl _) _
  have hz8 : w7.heap.size + 1 = w8.heap.size := by rw [← hb]; simp
  rw [hb]
  clear hb
  have N8 := Lib.hid (lo_on N7.out l)
  clear N7
  have bs0_8 := Lib.hid (bs0_7.out.lo l)
  clear bs0_7
  have x0_8 := Lib.hid (x0_7.out.lo l)
  clear x0_7
  have bx0_8 := Lib.hid (bx0_7.out.lo l)
  clear bx0_7
  have g0_8 := Lib.hid (X_g0.out.lo l)
  clear X_g0
  have X_bg0 := Lib.hid bx.out
  clear bx l
  refine (eqMob_same _ _ ys0 w8 g0_8.out.row (RS0.out.lo N8.out) hy0).mono ?_
  rintro e w9 ⟨rfl, l⟩
  have N9 := Lib.hid (lo_on N8.out l)
  clear N8
  have hz9 : w8.heap.size ≤ w9.heap.size := l.size
  have bs0_9 := Lib.hid (bs0_8.out.lo l)
  clear bs0_8
  have x0_9 := Lib.hid (x0_8.out.lo l)
  clear x0_8
  have bx0_9 := Lib.hid (bx0_8.out.lo l)
  clear bx0_8
  have g0_9 := Lib.hid (g0_8.out.lo l)
  clear g0_8
  have bg0_9 := Lib.hid (X_bg0.out.lo l)
  clear X_bg0
  clear l
  obtain ⟨bA, ka0, ka1⟩ := BA.out.lo (lo_on LS.out N9.out)
  obtain ⟨bX, kx0, kx1⟩ := bx0_9.out
  have RT := Lib.hid (fun w' (l : Below w9.heap.size w9 w') => toMob_any _ p0 w' (HA.out.lo (lo_on (lo_on LS.out N9.out) l)) HB.out)
  have RE := Lib.hid (fun t w' (l : Below w9.heap.size w9 w') (h : MobRow w' t p0) => eqMob_same _ t p0 w' (x0_9.out.row.lo l) h HB.out)
  go_wp2_with fail
  go_region_held3 (fun w' => w'.cell? ⟨w.heap.size, 0, none⟩ = some (.slice la p0.am.length ca) ∧ w'.cell? ⟨w.heap.size, 1, none⟩ = some (.slice lb p0.hu.length cb) ∧ w'.cell? ⟨w5.heap.size, 0, none⟩ = some (.slice x0a p0.am.length x0c) ∧ w'.cell? ⟨w5.heap.size, 1, none⟩ = some (.slice x0b p0.hu.length x0d))
    (first
      | exact ⟨(hl.cell (p := ⟨w.heap.size, 0, none⟩) bA).trans ka0, (hl.cell (p := ⟨w.heap.size, 1, none⟩) bA).trans ka1, (hl.cell (p := ⟨w5.heap.size, 0, none⟩) bX).trans kx0, (hl.cell (p := ⟨w5.heap.size, 1, none⟩) bX).trans kx1⟩
      | exact ⟨(hl6.cell (p := ⟨w.heap.size, 0, none⟩) (Nat.lt_of_lt_of_le bA hl.size)).trans ((hl.cell (p := ⟨w.heap.size, 0, none⟩) bA).trans ka0), (hl6.cell (p := ⟨w.heap.size, 1, none⟩) (Nat.lt_of_lt_of_le bA hl.size)).trans ((hl.cell (p := ⟨w.heap.size, 1, none⟩) bA).trans ka1), (hl6.cell (p := ⟨w5.heap.size, 0, none⟩) (Nat.lt_of_lt_of_le bX hl.size)).trans ((hl.cell (p := ⟨w5.heap.size, 0, none⟩) bX).trans kx0), (hl6.cell (p := ⟨w5.heap.size, 1, none⟩) (Nat.lt_of_lt_of_le bX hl.size)).trans ((hl.cell (p := ⟨w5.heap.size, 1, none⟩) bX).trans kx1)⟩
      | go_keep)
    (first
      | (go_at_call 21; refine (RT.out _ (drew_below w9)).mono ?_; rintro e v5 ⟨t5, rfl, m5, hl⟩)
      | (go_at_call 23; refine (RE.out _ _ (lo_on (drew_below w9) hl) m5.row).mono ?_; rintro e v6 ⟨rfl, hl6⟩))
  obtain ⟨w10, hw6⟩ : ∃ x, v6 = x := ⟨_, rfl⟩
  have l : Below w9.heap.size w9 w10 := by rw [← hw6]; exact lo_on (lo_on (drew_below w9) hl) hl6
  rw [hw6]
  clear hw6 hl hl6 m5 RT RE bA ka0 ka1 bX kx0 kx1
  have N10 := Lib.hid (lo_on N9.out l)
  clear N9
  have hz10 : w9.heap.size ≤ w10.heap.size := l.size
  have bs0_10 := Lib.hid (bs0_9.out.lo l)
  clear bs0_9
  have x0_10 := Lib.hid (x0_9.out.lo l)
  clear x0_9
  have bx0_10 := Lib.hid (bx0_9.out.lo l)
  clear bx0_9
  have g0_10 := Lib.hid (g0_9.out.lo l)
  clear g0_9
  have bg0_10 := Lib.hid (bg0_9.out.lo l)
  clear bg0_9
  clear l
  obtain ⟨_, k4_0, k4_1⟩ := bx0_10.out
  go_wp2_with fail
  clear k4_0 k4_1
  refine (markMb_mine w4.heap.size w5.heap.size _ p0 (1) w10 x0_10.out HB.out (by have := (HB.out).1; have := (HB.out).2; omega) (by omega)).mono ?_
  rintro e w11 ⟨rfl, p, hh⟩
  have N11 := Lib.hid (N10.out.trans ((p.below (by omega)).mono (by omega)))
  clear N10
  have hz11 : w10.heap.size ≤ w11.heap.size := p.size
  have bs0_11 := Lib.hid (bs0_10.out.part p (by omega))
  clear bs0_10
  have bx0_11 := Lib.hid (bx0_10.out.part p (by omega))
  clear bx0_10
  have g0_11 := Lib.hid (g0_10.out.part p (by omega))
  clear g0_10
  have bg0_11 := Lib.hid (bg0_10.out.part p (by omega))
  clear bg0_10
  clear x0_10
  clear p hh
  obtain ⟨_, k5_0, k5_1⟩ := bg0_11.out
  obtain ⟨_, k6_0, k6_1⟩ := bs0_11.out
  go_wp2_with fail
  clear k5_0 k5_1 k6_0 k6_1
  refine (eqMob_same _ _ ys0 w11 g0_11.out.row (RS0.out.lo N11.out) hy0).mono ?_
  rintro e w12 ⟨rfl, l⟩
  have N12 := Lib.hid (lo_on N11.out l)
  clear N11
  have hz12 : w11.heap.size ≤ w12.heap.size := l.size
  have bs0_12 := Lib.hid (bs0_11.out.lo l)
  clear bs0_11
  have bx0_12 := Lib.hid (bx0_11.out.lo l)
  clear bx0_11
  have g0_12 := Lib.hid (g0_11.out.lo l)
  clear g0_11
  have bg0_12 := Lib.hid (bg0_11.out.lo l)
  clear bg0_11
  clear l
  obtain ⟨_, k7_0, k7_1⟩ := bg0_12.out
  go_wp2_with fail
  clear k7_0 k7_1
  refine (markMb_mine w6.heap.size w7.heap.size _ ys0 (1) w12 g0_12.out hy0 (by have := (hy0).1; have := (hy0).2; omega) (by omega)).mono ?_
  rintro e w13 ⟨rfl, p, hh⟩
  have N13 := Lib.hid (N12.out.trans ((p.below (by omega)).mono (by omega)))
  clear N12
  have hz13 : w12.heap.size ≤ w13.heap.size := p.size
  have bs0_13 := Lib.hid (bs0_12.out.part p (by omega))
  clear bs0_12
  have bx0_13 := Lib.hid (bx0_12.out.part p (by omega))
  clear bx0_12
  have bg0_13 := Lib.hid (bg0_12.out.part p (by omega))
  clear bg0_12
  clear g0_12
  have Y_g0 := Lib.hid hh
  clear p hh
  obtain ⟨_, k8_0, k8_1⟩ := bg0_13.out
  go_wp2_with fail
  clear k8_0 k8_1
  refine (heldMb_held w6.heap.size w7.heap.size _ ys0 (1) w13 Y_g0.out hy0 (by omega)).mono ?_
  rintro e w14 ⟨rfl, l⟩
  have N14 := Lib.hid (lo_on N13.out l)
  clear N13
  have hz14 : w13.heap.size ≤ w14.heap.size := l.size
  have bs0_14 := Lib.hid (bs0_13.out.lo l)
  clear bs0_13
  have bx0_14 := Lib.hid (bx0_13.out.lo l)
  clear bx0_13
  have bg0_14 := Lib.hid (bg0_13.out.lo l)
  clear bg0_13
  have held_g0_14 := Lib.hid (Y_g0.out.lo l)
  clear Y_g0
  clear l
  obtain ⟨_, k9_0, k9_1⟩ := BA.out.lo (lo_on LS.out N14.out)
  go_wp2_with fail
  clear k9_0 k9_1
  refine (toMob_any _ p0 w14 (HA.out.lo (lo_on LS.out N14.out)) HB.out).mono ?_
  rintro e w15 ⟨t14, rfl, m, l⟩
  have N15 := Lib.hid (lo_on N14.out l)
  clear N14
  have hz15 : w14.heap.size ≤ w15.heap.size := l.size
  have bs0_15 := Lib.hid (bs0_14.out.lo l)
  clear bs0_14
  have bx0_15 := Lib.hid (bx0_14.out.lo l)
  clear bx0_14
  have bg0_15 := Lib.hid (bg0_14.out.lo l)
  clear bg0_14
  have held_g0_15 := Lib.hid (held_g0_14.out.lo l)
  clear held_g0_14
  obtain ⟨t14a, t14b, t14c, t14d, rfl⟩ := m.row.form
  have X_t14 := Lib.hid m
  clear m l
  go_wp2_with fail
  refine (IM.out HB.out HBD.out _ w15 X_t14.out.row).mono ?_
  rintro e w16 ⟨h0, rfl, m0, l⟩
  clear X_t14
  have N16 := Lib.hid (lo_on N15.out l)
  clear N15
  have hz16 : w15.heap.size ≤ w16.heap.size := l.size
  have bs0_16 := Lib.hid (bs0_15.out.lo l)
  clear bs0_15
  have bx0_16 := Lib.hid (bx0_15.out.lo l)
  clear bx0_15
  have bg0_16 := Lib.hid (bg0_15.out.lo l)
  clear bg0_15
  have held_g0_16 := Lib.hid (held_g0_15.out.lo l)
  clear held_g0_15
  obtain ⟨h0a, h0b, h0c, h0d, rfl⟩ := m0.row.form
  have X_h0 := Lib.hid m0
  clear m0
  clear l
  obtain ⟨_, k10_0, k10_1⟩ := bs0_16.out
  go_wp2_with fail
  clear k10_0 k10_1
  obtain ⟨w17, hb⟩ : ∃ x, w16.alloc (.cells #[.slice h0a ys0.am.length h0c, .slice h0b ys0.hu.length h0d] 27) = x := ⟨_, rfl⟩
  have bx := Lib.hid (show Box2 w17 w16.heap.size (.slice h0a ys0.am.length h0c) (.slice h0b ys0.hu.length h0d) by rw [← hb]; exact box2_new _ _ _  _)
  have l : Below w16.heap.size w16 w17 := by rw [← hb]; exact (Below.refl _ _).alloc (Nat.le_refl _) _
  have hz17 : w16.heap.size + 1 = w17.heap.size := by rw [← hb]; simp
  rw [hb]
  clear hb
  have N17 := Lib.hid (lo_on N16.out l)
  clear N16
  have bs0_17 := Lib.hid (bs0_16.out.lo l)
  clear bs0_16
  have bx0_17 := Lib.hid (bx0_16.out.lo l)
  clear bx0_16
  have bg0_17 := Lib.hid (bg0_16.out.lo l)
  clear bg0_16
  have held_g0_17 := Lib.hid (held_g0_16.out.lo l)
  clear held_g0_16
  have h0_17 := Lib.hid (X_h0.out.lo l)
  clear X_h0
  have X_bh0 := Lib.hid bx.out
  clear bx l
  refine (eqMob_same _ _ ys0 w17 h0_17.out.row (RS0.out.lo N17.out) hy0).mono ?_
  rintro e w18 ⟨rfl, l⟩
  have N18 := Lib.hid (lo_on N17.out l)
  clear N17
  have hz18 : w17.heap.size ≤ w18.heap.size := l.size
  have bs0_18 := Lib.hid (bs0_17.out.lo l)
  clear bs0_17
  have bx0_18 := Lib.hid (bx0_17.out.lo l)
  clear bx0_17
  have bg0_18 := Lib.hid (bg0_17.out.lo l)
  clear bg0_17
  have held_g0_18 := Lib.hid (held_g0_17.out.lo l)
  clear held_g0_17
  have h0_18 := Lib.hid (h0_17.out.lo l)
  clear h0_17
  have bh0_18 := Lib.hid (X_bh0.out.lo l)
  clear X_bh0
  clear l
  obtain ⟨_, k11_0, k11_1⟩ := bg0_18.out
  go_wp2_with fail
  clear k11_0 k11_1
  refine (heldMb_held w6.heap.size w7.heap.size _ ys0 (1) w18 held_g0_18.out hy0 (by omega)).mono ?_
  rintro e w19 ⟨rfl, l⟩
  have N19 := Lib.hid (lo_on N18.out l)
  clear N18
  have hz19 : w18.heap.size ≤ w19.heap.size := l.size
  have bs0_19 := Lib.hid (bs0_18.out.lo l)
  clear bs0_18
  have bx0_19 := Lib.hid (bx0_18.out.lo l)
  clear bx0_18
  have bg0_19 := Lib.hid (bg0_18.out.lo l)
  clear bg0_18
  have held_g0_19 := Lib.hid (held_g0_18.out.lo l)
  clear held_g0_18
  have h0_19 := Lib.hid (h0_18.out.lo l)
  clear h0_18
  have bh0_19 := Lib.hid (bh0_18.out.lo l)
  clear bh0_18
  clear l
  go_wp2
  go_ret
  exact ⟨rfl, lo_on K0.out (lo_on LS.out N19.out)⟩
end Go.Proofs.Ytnadchgekfljkaa
