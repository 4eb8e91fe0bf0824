/- The walk of the law on ConvoyRow, from contracts of the two functions that it calls. -/
import Derived.Test.YthncgcdnljoakaaBmL
namespace Go.Proofs.Ythncgcdnljoakaa
open Go.RowKit
set_option maxRecDepth 100000 in
set_option maxHeartbeats 3200000 in
theorem exConvoyRow_walk (a0 : BeamV) (a1 : Option Addr) (cap1 : Nat) (xs1 : List (Int × Int)) (a2 : Int) (w : World) (hn1 : xs1.length ≤ maxLen) (hr1 : LoadRow w (.slice a1 xs1.length cap1) xs1) (ys0 : List (Int × Int)) (hy0 : ys0.length ≤ 2000000) (r1 : Bool)
    (S : xs1.length ≤ 1048576 → ∀ (v1 : Value) (w : World), LoadRow w v1 xs1 → Calls Try.prog 48 #[.agg #[.int .i64 a0.l, .int .i64 a0.a, .int .i64 a0.b], v1, .int .i64 a2] w (fun e w' => ∃ u0, e = .returned (.tuple #[u0, .bool r1]) ∧ LoadRow w' u0 ys0 ∧ Below w.heap.size w w'))
    (I : xs1.length ≤ 1048576 → ∀ (v1 : Value) (w : World), LoadRow w v1 xs1 → Calls Try.prog 49 #[.agg #[.int .i64 a0.l, .int .i64 a0.a, .int .i64 a0.b], v1, .int .i64 a2] w (fun e w' => ∃ u0, e = .returned (.tuple #[u0, .bool r1]) ∧ MineL w' w.heap.size w'.heap.size u0 ys0 ∧ Below w.heap.size w w')) :
    Calls Try.prog 13 #[.agg #[.int .i64 a0.l, .int .i64 a0.a, .int .i64 a0.b], .slice a1 xs1.length cap1, .int .i64 a2] w fun e w' => e = .returned (.bool true) ∧ Below w.heap.size w w' := by
  have SP := Lib.hid S
  have IM := Lib.hid I
  clear S I
  have H1 := Lib.hid hr1
  clear hr1
  unfold maxLen at hn1
  obtain ⟨w0, hW⟩ : ∃ w0, w.alloc (.cells #[.int .i64 a0.l, .int .i64 a0.a, .int .i64 a0.b] 23) = w0 := ⟨_, rfl⟩
  have LW := Lib.hid (show Below w.heap.size w w0 by rw [← hW]; exact (Below.refl _ _).alloc (Nat.le_refl _) _)
  have BX := Lib.hid (show Cel3 w0 w.heap.size (.int .i64 a0.l) (.int .i64 a0.a) (.int .i64 a0.b) by rw [← hW]; exact cel3_new _ _ _ _ _)
  have H1 := Lib.hid (H1.out.lo LW.out)
  have L0 := Lib.hid (Below.refl w0.heap.size w0)
  go_enter Try.func13, Try.ntmps13
  go_wp2_with fail
  clear hW
  refine (szLoad_any a1 _ cap1 w0 hn1).mono ?_
  rintro e w' ⟨z, rfl, rfl, hneg | ⟨z0, hb⟩⟩
  · go_wp2
    go_ret
    exact ⟨rfl, LW.out⟩
  obtain ⟨_, k0, k1, k2⟩ := BX.out.lo L0.out
  go_wp2_with fail
  clear k0 k1 k2
  refine (toBeam_any a0 w0).mono ?_
  rintro e w1 ⟨rfl, l⟩
  have L1 := Lib.hid (lo_on L0.out l)
  clear L0
  have hz1 : w0.heap.size ≤ w1.heap.size := l.size
  clear l
  go_wp2_with fail
  refine (toLoads_mine a1 cap1 xs1 w1 (H1.out.lo L1.out) (by omega)).mono ?_
  rintro e w2 ⟨t1, rfl, m, l⟩
  have L2 := Lib.hid (lo_on L1.out l)
  clear L1
  have hz2 : w1.heap.size ≤ w2.heap.size := l.size
  have X_t1 := Lib.hid m
  clear m l
  go_wp2_with fail
  refine (SP.out (by omega) t1 w2 X_t1.out.row).mono ?_
  rintro e w3 ⟨s0, rfl, m0, l⟩
  clear X_t1
  have L3 := Lib.hid (lo_on L2.out l)
  clear L2
  have hz3 : w2.heap.size ≤ w3.heap.size := l.size
  have LS := L3
  clear L3
  have RS0 := Lib.hid m0
  clear m0
  clear l SP
  have N3 := Lib.hid (Below.refl w3.heap.size w3)
  go_wp2_with fail
  refine (toLoads_mine a1 cap1 xs1 w3 (H1.out.lo (lo_on LS.out N3.out)) (by omega)).mono ?_
  rintro e w4 ⟨x1, rfl, m, l⟩
  have N4 := Lib.hid (lo_on N3.out l)
  clear N3
  have hz4 : w3.heap.size ≤ w4.heap.size := l.size
  have X_x1 := Lib.hid m
  clear m l
  obtain ⟨_, k0, k1, k2⟩ := BX.out.lo (lo_on LS.out N4.out)
  go_wp2_with fail
  clear k0 k1 k2
  refine (toBeam_any a0 w4).mono ?_
  rintro e w5 ⟨rfl, l⟩
  have N5 := Lib.hid (lo_on N4.out l)
  clear N4
  have hz5 : w4.heap.size ≤ w5.heap.size := l.size
  have x1_5 := Lib.hid (X_x1.out.lo l)
  clear X_x1
  clear l
  go_wp2_with fail
  refine (IM.out (by omega) x1 w5 x1_5.out.row).mono ?_
  rintro e w6 ⟨g0, rfl, m0, l⟩
  have N6 := Lib.hid (lo_on N5.out l)
  clear N5
  have hz6 : w5.heap.size ≤ w6.heap.size := l.size
  have x1_6 := Lib.hid (x1_5.out.lo l)
  clear x1_5
  have X_g0 := Lib.hid m0
  clear m0
  clear l
  go_wp2_with fail
  refine (eqLoads_same g0 s0 ys0 w6 X_g0.out.row (RS0.out.lo N6.out) hy0).mono ?_
  rintro e w7 ⟨rfl, l⟩
  have N7 := Lib.hid (lo_on N6.out l)
  clear N6
  have hz7 : w6.heap.size ≤ w7.heap.size := l.size
  have x1_7 := Lib.hid (x1_6.out.lo l)
  clear x1_6
  have g0_7 := Lib.hid (X_g0.out.lo l)
  clear X_g0
  clear l
  go_wp2_with fail
  refine (toLoads_mine a1 cap1 xs1 w7 (H1.out.lo (lo_on LS.out N7.out)) (by omega)).mono ?_
  rintro e w8 ⟨t2, rfl, m, l⟩
  have N8 := Lib.hid (lo_on N7.out l)
  clear N7
  have hz8 : w7.heap.size ≤ w8.heap.size := l.size
  have x1_8 := Lib.hid (x1_7.out.lo l)
  clear x1_7
  have g0_8 := Lib.hid (g0_7.out.lo l)
  clear g0_7
  have X_t2 := Lib.hid m
  clear m l
  go_wp2_with fail
  refine (eqLoads_same x1 t2 xs1 w8 x1_8.out.row X_t2.out.row (by omega)).mono ?_
  rintro e w9 ⟨rfl, l⟩
  have N9 := Lib.hid (lo_on N8.out l)
  clear N8
  have hz9 : w8.heap.size ≤ w9.heap.size := l.size
  have x1_9 := Lib.hid (x1_8.out.lo l)
  clear x1_8
  have g0_9 := Lib.hid (g0_8.out.lo l)
  clear g0_8
  have t2_9 := Lib.hid (X_t2.out.lo l)
  clear X_t2
  clear l
  clear t2_9
  go_wp2_with fail
  refine (markL_mine w3.heap.size w4.heap.size x1 xs1 (1) w9 x1_9.out (by omega) (by omega)).mono ?_
  rintro e w10 ⟨rfl, p, hh⟩
  have N10 := Lib.hid (N9.out.trans ((p.below (by omega)).mono (by omega)))
  clear N9
  have hz10 : w9.heap.size ≤ w10.heap.size := p.size
  have g0_10 := Lib.hid (g0_9.out.part p (by omega))
  clear g0_9
  clear x1_9
  clear p hh
  go_wp2_with fail
  refine (eqLoads_same g0 s0 ys0 w10 g0_10.out.row (RS0.out.lo N10.out) hy0).mono ?_
  rintro e w11 ⟨rfl, l⟩
  have N11 := Lib.hid (lo_on N10.out l)
  clear N10
  have hz11 : w10.heap.size ≤ w11.heap.size := l.size
  have g0_11 := Lib.hid (g0_10.out.lo l)
  clear g0_10
  clear l
  go_wp2_with fail
  refine (markL_mine w5.heap.size w6.heap.size g0 ys0 (1) w11 g0_11.out hy0 (by omega)).mono ?_
  rintro e w12 ⟨rfl, p, hh⟩
  have N12 := Lib.hid (N11.out.trans ((p.below (by omega)).mono (by omega)))
  clear N11
  have hz12 : w11.heap.size ≤ w12.heap.size := p.size
  clear g0_11
  have Y_g0 := Lib.hid hh
  clear p hh
  go_wp2_with fail
  refine (heldL_held w5.heap.size w6.heap.size g0 ys0 (1) w12 Y_g0.out hy0 (by omega)).mono ?_
  rintro e w' ⟨rfl, rfl⟩
  obtain ⟨_, k0, k1, k2⟩ := BX.out.lo (lo_on LS.out N12.out)
  go_wp2_with fail
  clear k0 k1 k2
  refine (toBeam_any a0 w12).mono ?_
  rintro e w13 ⟨rfl, l⟩
  have N13 := Lib.hid (lo_on N12.out l)
  clear N12
  have hz13 : w12.heap.size ≤ w13.heap.size := l.size
  have held_g0_13 := Lib.hid (Y_g0.out.lo l)
  clear Y_g0
  clear l
  go_wp2_with fail
  refine (toLoads_mine a1 cap1 xs1 w13 (H1.out.lo (lo_on LS.out N13.out)) (by omega)).mono ?_
  rintro e w14 ⟨t3, rfl, m, l⟩
  have N14 := Lib.hid (lo_on N13.out l)
  clear N13
  have hz14 : w13.heap.size ≤ w14.heap.size := l.size
  have held_g0_14 := Lib.hid (held_g0_13.out.lo l)
  clear held_g0_13
  have X_t3 := Lib.hid m
  clear m l
  go_wp2_with fail
  refine (IM.out (by omega) t3 w14 X_t3.out.row).mono ?_
  rintro e w15 ⟨h0, rfl, m0, l⟩
  clear X_t3
  have N15 := Lib.hid (lo_on N14.out l)
  clear N14
  have hz15 : w14.heap.size ≤ w15.heap.size := l.size
  have held_g0_15 := Lib.hid (held_g0_14.out.lo l)
  clear held_g0_14
  have X_h0 := Lib.hid m0
  clear m0
  clear l
  go_wp2_with fail
  refine (eqLoads_same h0 s0 ys0 w15 X_h0.out.row (RS0.out.lo N15.out) hy0).mono ?_
  rintro e w16 ⟨rfl, l⟩
  have N16 := Lib.hid (lo_on N15.out l)
  clear N15
  have hz16 : w15.heap.size ≤ w16.heap.size := l.size
  have held_g0_16 := Lib.hid (held_g0_15.out.lo l)
  clear held_g0_15
  have h0_16 := Lib.hid (X_h0.out.lo l)
  clear X_h0
  clear l
  go_wp2_with fail
  refine (heldL_held w5.heap.size w6.heap.size g0 ys0 (1) w16 held_g0_16.out hy0 (by omega)).mono ?_
  rintro e w' ⟨rfl, rfl⟩
  go_wp2
  go_ret
  exact ⟨rfl, lo_on LW.out (lo_on LS.out N16.out)⟩
end Go.Proofs.Ythncgcdnljoakaa
