/- The walk of the law on LevelWeights, from contracts of the two functions that it calls. -/
import Derived.Test.YtnadchgekfljkaaMobLaw
import Derived.Test.YtnadchgekfljkaaIntLaw
namespace Go.Proofs.Ytnadchgekfljkaa
open Go.RowKit
set_option maxRecDepth 100000 in
set_option maxHeartbeats 6400000 in
theorem exLevelWeights_walk (p0 : MobV) (la lb : Option Addr) (ca cb : Nat) (w : World) (hb0 : BndM p0) (hn0 : p0.am.length ≤ maxLen) (hm0 : p0.hu.length ≤ maxLen) (hr0 : MobRow w (.agg #[.slice la p0.am.length ca, .slice lb p0.hu.length cb]) p0) (ys0 : List Int) (hy0 : ys0.length ≤ 2000000) (r1 : Bool)
    (S : SmallM p0 → BndM p0 → ∀ (v0 : Value) (w : World), MobRow w v0 p0 → Calls Try.prog 40 #[v0] w (fun e w' => ∃ u0, e = .returned (.tuple #[u0, .bool r1]) ∧ IntRow w' u0 ys0 ∧ Below w.heap.size w w'))
    (I : SmallM p0 → BndM p0 → ∀ (v0 : Value) (w : World), MobRow w v0 p0 → Calls Try.prog 41 #[v0] w (fun e w' => ∃ u0, e = .returned (.tuple #[u0, .bool r1]) ∧ MineI w' w.heap.size w'.heap.size u0 ys0 ∧ Below w.heap.size w w')) :
    Calls Try.prog 9 #[.agg #[.slice la p0.am.length ca, .slice lb p0.hu.length cb]] w fun e w' => e = .returned (.bool true) ∧ Below w.heap.size w w' := by
  have SP := Lib.hid S
  have IM := Lib.hid I
  clear S I
  have HBD := Lib.hid hb0
  clear hb0
  have H0 := Lib.hid hr0
  clear hr0
  go_enter Try.func9, Try.ntmps9
  go_wp2_with fail
  obtain ⟨w0, hw0⟩ : ∃ x, w.alloc (.cells #[.slice la p0.am.length ca, .slice lb p0.hu.length cb] 24) = x := ⟨_, rfl⟩
  have BA := Lib.hid (show Box2 w0 w.heap.size (.slice la p0.am.length ca) (.slice lb p0.hu.length cb) by rw [← hw0]; exact box2_new _ _ _ _)
  have K0 := Lib.hid (show Below w.heap.size w w0 by rw [← hw0]; exact (Below.refl _ _).alloc (Nat.le_refl _) _)
  have HA := Lib.hid (H0.out.lo K0.out)
  have hz0 : w.heap.size + 1 = w0.heap.size := by rw [← hw0]; simp
  rw [hw0]
  clear hw0 H0
  have L0 := Lib.hid (Below.refl w0.heap.size w0)
  refine (szMob_any la lb ca cb p0 w0 hn0 hm0).mono ?_
  rintro e w1 ⟨z, rfl, l, hneg | ⟨z0, hb⟩⟩
  · go_wp2
    go_ret
    exact ⟨rfl, lo_on K0.out l⟩
  have HB := Lib.hid hb
  clear hb
  have L1 := Lib.hid (lo_on L0.out l)
  clear L0
  have hz1 : w0.heap.size ≤ w1.heap.size := l.size
  clear l
  obtain ⟨_, k1_0, k1_1⟩ := BA.out.lo L1.out
  go_wp2_with fail
  clear k1_0 k1_1
  refine (toMob_any _ p0 w1 (HA.out.lo L1.out) HB.out).mono ?_
  rintro e w2 ⟨t1, rfl, m, l⟩
  have L2 := Lib.hid (lo_on L1.out l)
  clear L1
  have hz2 : w1.heap.size ≤ w2.heap.size := l.size
  obtain ⟨t1a, t1b, t1c, t1d, rfl⟩ := m.row.form
  have X_t1 := Lib.hid m
  clear m l
  go_wp2_with fail
  refine (SP.out HB.out HBD.out _ w2 X_t1.out.row).mono ?_
  rintro e w3 ⟨s0, rfl, m0, l⟩
  clear X_t1
  have L3 := Lib.hid (lo_on L2.out l)
  clear L2
  have hz3 : w2.heap.size ≤ w3.heap.size := l.size
  have RS0 := Lib.hid m0
  clear m0
  clear l
  have LS := L3
  clear L3 SP
  have N3 := Lib.hid (Below.refl w3.heap.size w3)
  obtain ⟨_, k2_0, k2_1⟩ := BA.out.lo (lo_on LS.out N3.out)
  go_wp2_with fail
  clear k2_0 k2_1
  refine (toMob_any _ p0 w3 (HA.out.lo (lo_on LS.out N3.out)) HB.out).mono ?_
  rintro e w4 ⟨x0, rfl, m, l⟩
  have N4 := Lib.hid (lo_on N3.out l)
  clear N3
  have hz4 : w3.heap.size ≤ w4.heap.size := l.size
  obtain ⟨x0a, x0b, x0c, x0d, rfl⟩ := m.row.form
  have X_x0 := Lib.hid m
  clear m l
  go_wp2_with fail
  obtain ⟨w5, hb⟩ : ∃ x, w4.alloc (.cells #[.slice x0a p0.am.length x0c, .slice x0b p0.hu.length x0d] 27) = x := ⟨_, rfl⟩
  have bx := Lib.hid (show Box2 w5 w4.heap.size (.slice x0a p0.am.length x0c) (.slice x0b p0.hu.length x0d) by rw [← hb]; exact box2_new _ _ _  _)
  have l : Below w4.heap.size w4 w5 := by rw [← hb]; exact (Below.refl _ _).alloc (Nat.le_refl _) _
  have hz5 : w4.heap.size + 1 = w5.heap.size := by rw [← hb]; simp
  rw [hb]
  clear hb
  have N5 := Lib.hid (lo_on N4.out l)
  clear N4
  have x0_5 := Lib.hid (X_x0.out.lo l)
  clear X_x0
  have X_bx0 := Lib.hid bx.out
  clear bx l
  refine (IM.out HB.out HBD.out _ w5 x0_5.out.row).mono ?_
  rintro e w6 ⟨g0, rfl, m0, l⟩
  have N6 := Lib.hid (lo_on N5.out l)
  clear N5
  have hz6 : w5.heap.size ≤ w6.heap.size := l.size
  have x0_6 := Lib.hid (x0_5.out.lo l)
  clear x0_5
  have bx0_6 := Lib.hid (X_bx0.out.lo l)
  clear X_bx0
  have X_g0 := Lib.hid m0
  clear m0
  clear l
  go_wp2_with fail
  refine (eqInts_same g0 s0 ys0 w6 X_g0.out.row (RS0.out.lo N6.out) hy0).mono ?_
  rintro e w7 ⟨rfl, l⟩
  have N7 := Lib.hid (lo_on N6.out l)
  clear N6
  have hz7 : w6.heap.size ≤ w7.heap.size := l.size
  have x0_7 := Lib.hid (x0_6.out.lo l)
  clear x0_6
  have bx0_7 := Lib.hid (bx0_6.out.lo l)
  clear bx0_6
  have g0_7 := Lib.hid (X_g0.out.lo l)
  clear X_g0
  clear l
  obtain ⟨bA, ka0, ka1⟩ := BA.out.lo (lo_on LS.out N7.out)
  obtain ⟨bX, kx0, kx1⟩ := bx0_7.out
  have RT := Lib.hid (fun w' (l : Below w7.heap.size w7 w') => toMob_any _ p0 w' (HA.out.lo (lo_on (lo_on LS.out N7.out) l)) HB.out)
  have RE := Lib.hid (fun t w' (l : Below w7.heap.size w7 w') (h : MobRow w' t p0) => eqMob_same _ t p0 w' (x0_7.out.row.lo l) h HB.out)
  go_wp2_with fail
  go_region_held3 (fun w' => w'.cell? ⟨w.heap.size, 0, none⟩ = some (.slice la p0.am.length ca) ∧ w'.cell? ⟨w.heap.size, 1, none⟩ = some (.slice lb p0.hu.length cb) ∧ w'.cell? ⟨w4.heap.size, 0, none⟩ = some (.slice x0a p0.am.length x0c) ∧ w'.cell? ⟨w4.heap.size, 1, none⟩ = some (.slice x0b p0.hu.length x0d))
    (first
      | exact ⟨(hl.cell (p := ⟨w.heap.size, 0, none⟩) bA).trans ka0, (hl.cell (p := ⟨w.heap.size, 1, none⟩) bA).trans ka1, (hl.cell (p := ⟨w4.heap.size, 0, none⟩) bX).trans kx0, (hl.cell (p := ⟨w4.heap.size, 1, none⟩) bX).trans kx1⟩
      | exact ⟨(hl6.cell (p := ⟨w.heap.size, 0, none⟩) (Nat.lt_of_lt_of_le bA hl.size)).trans ((hl.cell (p := ⟨w.heap.size, 0, none⟩) bA).trans ka0), (hl6.cell (p := ⟨w.heap.size, 1, none⟩) (Nat.lt_of_lt_of_le bA hl.size)).trans ((hl.cell (p := ⟨w.heap.size, 1, none⟩) bA).trans ka1), (hl6.cell (p := ⟨w4.heap.size, 0, none⟩) (Nat.lt_of_lt_of_le bX hl.size)).trans ((hl.cell (p := ⟨w4.heap.size, 0, none⟩) bX).trans kx0), (hl6.cell (p := ⟨w4.heap.size, 1, none⟩) (Nat.lt_of_lt_of_le bX hl.size)).trans ((hl.cell (p := ⟨w4.heap.size, 1, none⟩) bX).trans kx1)⟩
      | go_keep)
    (first
      | (go_at_call 21; refine (RT.out _ (drew_below w7)).mono ?_; rintro e v5 ⟨t5, rfl, m5, hl⟩)
      | (go_at_call 23; refine (RE.out _ _ (lo_on (drew_below w7) hl) m5.row).mono ?_; rintro e v6 ⟨rfl, hl6⟩))
  obtain ⟨w8, hw6⟩ : ∃ x, v6 = x := ⟨_, rfl⟩
  have l : Below w7.heap.size w7 w8 := by rw [← hw6]; exact lo_on (lo_on (drew_below w7) hl) hl6
  rw [hw6]
  clear hw6 hl hl6 m5 RT RE bA ka0 ka1 bX kx0 kx1
  have N8 := Lib.hid (lo_on N7.out l)
  clear N7
  have hz8 : w7.heap.size ≤ w8.heap.size := l.size
  have x0_8 := Lib.hid (x0_7.out.lo l)
  clear x0_7
  have bx0_8 := Lib.hid (bx0_7.out.lo l)
  clear bx0_7
  have g0_8 := Lib.hid (g0_7.out.lo l)
  clear g0_7
  clear l
  obtain ⟨_, k3_0, k3_1⟩ := bx0_8.out
  go_wp2_with fail
  clear k3_0 k3_1
  refine (markMb_mine w3.heap.size w4.heap.size _ p0 (1) w8 x0_8.out HB.out (by have := (HB.out).1; have := (HB.out).2; omega) (by omega)).mono ?_
  rintro e w9 ⟨rfl, p, hh⟩
  have N9 := Lib.hid (N8.out.trans ((p.below (by omega)).mono (by omega)))
  clear N8
  have hz9 : w8.heap.size ≤ w9.heap.size := p.size
  have bx0_9 := Lib.hid (bx0_8.out.part p (by omega))
  clear bx0_8
  have g0_9 := Lib.hid (g0_8.out.part p (by omega))
  clear g0_8
  clear x0_8
  clear p hh
  go_wp2_with fail
  refine (eqInts_same g0 s0 ys0 w9 g0_9.out.row (RS0.out.lo N9.out) hy0).mono ?_
  rintro e w10 ⟨rfl, l⟩
  have N10 := Lib.hid (lo_on N9.out l)
  clear N9
  have hz10 : w9.heap.size ≤ w10.heap.size := l.size
  have bx0_10 := Lib.hid (bx0_9.out.lo l)
  clear bx0_9
  have g0_10 := Lib.hid (g0_9.out.lo l)
  clear g0_9
  clear l
  go_wp2_with fail
  refine (markI_mine w5.heap.size w6.heap.size g0 ys0 (1) w10 g0_10.out hy0 (by omega)).mono ?_
  rintro e w11 ⟨rfl, p, hh⟩
  have N11 := Lib.hid (N10.out.trans ((p.below (by omega)).mono (by omega)))
  clear N10
  have hz11 : w10.heap.size ≤ w11.heap.size := p.size
  have bx0_11 := Lib.hid (bx0_10.out.part p (by omega))
  clear bx0_10
  clear g0_10
  have Y_g0 := Lib.hid hh
  clear p hh
  go_wp2_with fail
  refine (heldI_held w5.heap.size w6.heap.size _ ys0.length (1) w11 Y_g0.out hy0 (by omega)).mono ?_
  rintro e w' ⟨rfl, rfl⟩
  obtain ⟨_, k4_0, k4_1⟩ := BA.out.lo (lo_on LS.out N11.out)
  go_wp2_with fail
  clear k4_0 k4_1
  refine (toMob_any _ p0 w11 (HA.out.lo (lo_on LS.out N11.out)) HB.out).mono ?_
  rintro e w12 ⟨t11, rfl, m, l⟩
  have N12 := Lib.hid (lo_on N11.out l)
  clear N11
  have hz12 : w11.heap.size ≤ w12.heap.size := l.size
  have bx0_12 := Lib.hid (bx0_11.out.lo l)
  clear bx0_11
  have held_g0_12 := Lib.hid (Y_g0.out.lo l)
  clear Y_g0
  obtain ⟨t11a, t11b, t11c, t11d, rfl⟩ := m.row.form
  have X_t11 := Lib.hid m
  clear m l
  go_wp2_with fail
  refine (IM.out HB.out HBD.out _ w12 X_t11.out.row).mono ?_
  rintro e w13 ⟨h0, rfl, m0, l⟩
  clear X_t11
  have N13 := Lib.hid (lo_on N12.out l)
  clear N12
  have hz13 : w12.heap.size ≤ w13.heap.size := l.size
  have bx0_13 := Lib.hid (bx0_12.out.lo l)
  clear bx0_12
  have held_g0_13 := Lib.hid (held_g0_12.out.lo l)
  clear held_g0_12
  have X_h0 := Lib.hid m0
  clear m0
  clear l
  go_wp2_with fail
  refine (eqInts_same h0 s0 ys0 w13 X_h0.out.row (RS0.out.lo N13.out) hy0).mono ?_
  rintro e w14 ⟨rfl, l⟩
  have N14 := Lib.hid (lo_on N13.out l)
  clear N13
  have hz14 : w13.heap.size ≤ w14.heap.size := l.size
  have bx0_14 := Lib.hid (bx0_13.out.lo l)
  clear bx0_13
  have held_g0_14 := Lib.hid (held_g0_13.out.lo l)
  clear held_g0_13
  have h0_14 := Lib.hid (X_h0.out.lo l)
  clear X_h0
  clear l
  go_wp2_with fail
  refine (heldI_held w5.heap.size w6.heap.size _ ys0.length (1) w14 held_g0_14.out hy0 (by omega)).mono ?_
  rintro e w' ⟨rfl, rfl⟩
  go_wp2
  go_ret
  exact ⟨rfl, lo_on K0.out (lo_on LS.out N14.out)⟩
end Go.Proofs.Ytnadchgekfljkaa
