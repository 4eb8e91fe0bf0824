/- The walk of the law on TiltRow, from contracts of the two functions that it calls. -/
import Derived.Test.YtgjchkcjlmklbaaIntLaw
import Derived.Test.YtgjchkcjlmklbaaLoadLaw
import Derived.Test.YtgjchkcjlmklbaaLoadOwn
import Derived.Test.YtgjchkcjlmklbaaLoadTo
import Derived.Test.YtgjchkcjlmklbaaIn
namespace Go.Proofs.Ytgjchkcjlmklbaa
open Go.RowKit
set_option maxRecDepth 100000 in
set_option maxHeartbeats 3200000 in
theorem exTiltRow_walk (a0 : Option Addr) (cap0 : Nat) (xs0 : List Int) (a1 : Option Addr) (cap1 : Nat) (xs1 : List Int) (a2 : Option Addr) (cap2 : Nat) (xs2 : List Int) (w : World) (hn0 : xs0.length ≤ maxLen) (hr0 : IntRow w (.slice a0 xs0.length cap0) xs0) (hn1 : xs1.length ≤ maxLen) (hr1 : IntRow w (.slice a1 xs1.length cap1) xs1) (hn2 : xs2.length ≤ maxLen) (hr2 : IntRow w (.slice a2 xs2.length cap2) xs2) (ys0 : List (Int × Int)) (hy0 : ys0.length ≤ 2000000) (r1 : Bool)
    (S : xs0.length ≤ 1048576 → xs1.length ≤ 1048576 → xs2.length ≤ 1048576 → ∀ (v0 : Value) (v1 : Value) (v2 : Value) (w : World), IntRow w v0 xs0 → IntRow w v1 xs1 → IntRow w v2 xs2 → Calls Try.prog 44 #[v0, v1, v2] w (fun e w' => ∃ u0, e = .returned (.tuple #[u0, .bool r1]) ∧ LoadRow w' u0 ys0 ∧ Below w.heap.size w w'))
    (I : xs0.length ≤ 1048576 → xs1.length ≤ 1048576 → xs2.length ≤ 1048576 → ∀ (v0 : Value) (v1 : Value) (v2 : Value) (w : World), IntRow w v0 xs0 → IntRow w v1 xs1 → IntRow w v2 xs2 → Calls Try.prog 45 #[v0, v1, v2] w (fun e w' => ∃ u0, e = .returned (.tuple #[u0, .bool r1]) ∧ MineL w' w.heap.size w'.heap.size u0 ys0 ∧ Below w.heap.size w w')) :
    Calls Try.prog 9 #[.slice a0 xs0.length cap0, .slice a1 xs1.length cap1, .slice a2 xs2.length cap2] w fun e w' => e = .returned (.bool true) ∧ Below w.heap.size w w' := by
  have SP := Lib.hid S
  have IM := Lib.hid I
  clear S I
  have H0 := Lib.hid hr0
  clear hr0
  unfold maxLen at hn0
  have H1 := Lib.hid hr1
  clear hr1
  unfold maxLen at hn1
  have H2 := Lib.hid hr2
  clear hr2
  unfold maxLen at hn2
  by_cases hg0 : xs0.length ≤ 1048576
  case neg =>
    have hg' : (1048576 : Int) < (xs0.length : Int) := by omega
    go_enter Try.func9, Try.ntmps9
    go_wp2
    go_ret
    exact ⟨rfl, Below.refl _ _⟩
  have hf0 : ¬ (1048576 : Int) < (xs0.length : Int) := by omega
  by_cases hg1 : xs1.length ≤ 1048576
  case neg =>
    have hg' : (1048576 : Int) < (xs1.length : Int) := by omega
    go_enter Try.func9, Try.ntmps9
    go_wp2
    go_ret
    exact ⟨rfl, Below.refl _ _⟩
  have hf1 : ¬ (1048576 : Int) < (xs1.length : Int) := by omega
  by_cases hg2 : xs2.length ≤ 1048576
  case neg =>
    have hg' : (1048576 : Int) < (xs2.length : Int) := by omega
    go_enter Try.func9, Try.ntmps9
    go_wp2
    go_ret
    exact ⟨rfl, Below.refl _ _⟩
  have hf2 : ¬ (1048576 : Int) < (xs2.length : Int) := by omega
  have L0 := Lib.hid (Below.refl w.heap.size w)
  go_enter Try.func9, Try.ntmps9
  go_wp2_with fail
  refine (toInts_any a0 cap0 xs0 w (H0.out.lo L0.out) (by omega)).mono ?_
  rintro e w1 ⟨t1, rfl, m, l⟩
  have L1 := Lib.hid (lo_on L0.out l)
  clear L0
  have hz1 : w.heap.size ≤ w1.heap.size := l.size
  have X_t1 := Lib.hid m
  clear m l
  go_wp2_with fail
  refine (toInts_any a1 cap1 xs1 w1 (H1.out.lo L1.out) (by omega)).mono ?_
  rintro e w2 ⟨t2, rfl, m, l⟩
  have L2 := Lib.hid (lo_on L1.out l)
  clear L1
  have hz2 : w1.heap.size ≤ w2.heap.size := l.size
  have t1_2 := Lib.hid (X_t1.out.lo l)
  clear X_t1
  have X_t2 := Lib.hid m
  clear m l
  go_wp2_with fail
  refine (toInts_any a2 cap2 xs2 w2 (H2.out.lo L2.out) (by omega)).mono ?_
  rintro e w3 ⟨t3, rfl, m, l⟩
  have L3 := Lib.hid (lo_on L2.out l)
  clear L2
  have hz3 : w2.heap.size ≤ w3.heap.size := l.size
  have t1_3 := Lib.hid (t1_2.out.lo l)
  clear t1_2
  have t2_3 := Lib.hid (X_t2.out.lo l)
  clear X_t2
  have X_t3 := Lib.hid m
  clear m l
  go_wp2_with fail
  refine (SP.out (by omega) (by omega) (by omega) t1 t2 t3 w3 t1_3.out.row t2_3.out.row X_t3.out.row).mono ?_
  rintro e w4 ⟨s0, rfl, m0, l⟩
  clear t1_3
  clear t2_3
  clear X_t3
  have L4 := Lib.hid (lo_on L3.out l)
  clear L3
  have hz4 : w3.heap.size ≤ w4.heap.size := l.size
  have LS := L4
  clear L4
  have RS0 := Lib.hid m0
  clear m0
  clear l SP
  have N4 := Lib.hid (Below.refl w4.heap.size w4)
  go_wp2_with fail
  refine (toInts_any a0 cap0 xs0 w4 (H0.out.lo (lo_on LS.out N4.out)) (by omega)).mono ?_
  rintro e w5 ⟨x0, rfl, m, l⟩
  have N5 := Lib.hid (lo_on N4.out l)
  clear N4
  have hz5 : w4.heap.size ≤ w5.heap.size := l.size
  have X_x0 := Lib.hid m
  clear m l
  go_wp2_with fail
  refine (toInts_any a1 cap1 xs1 w5 (H1.out.lo (lo_on LS.out N5.out)) (by omega)).mono ?_
  rintro e w6 ⟨x1, rfl, m, l⟩
  have N6 := Lib.hid (lo_on N5.out l)
  clear N5
  have hz6 : w5.heap.size ≤ w6.heap.size := l.size
  have x0_6 := Lib.hid (X_x0.out.lo l)
  clear X_x0
  have X_x1 := Lib.hid m
  clear m l
  go_wp2_with fail
  refine (toInts_any a2 cap2 xs2 w6 (H2.out.lo (lo_on LS.out N6.out)) (by omega)).mono ?_
  rintro e w7 ⟨x2, rfl, m, l⟩
  have N7 := Lib.hid (lo_on N6.out l)
  clear N6
  have hz7 : w6.heap.size ≤ w7.heap.size := l.size
  have x0_7 := Lib.hid (x0_6.out.lo l)
  clear x0_6
  have x1_7 := Lib.hid (X_x1.out.lo l)
  clear X_x1
  have X_x2 := Lib.hid m
  clear m l
  go_wp2_with fail
  refine (IM.out (by omega) (by omega) (by omega) x0 x1 x2 w7 x0_7.out.row x1_7.out.row X_x2.out.row).mono ?_
  rintro e w8 ⟨g0, rfl, m0, l⟩
  have N8 := Lib.hid (lo_on N7.out l)
  clear N7
  have hz8 : w7.heap.size ≤ w8.heap.size := l.size
  have x0_8 := Lib.hid (x0_7.out.lo l)
  clear x0_7
  have x1_8 := Lib.hid (x1_7.out.lo l)
  clear x1_7
  have x2_8 := Lib.hid (X_x2.out.lo l)
  clear X_x2
  have X_g0 := Lib.hid m0
  clear m0
  clear l
  go_wp2_with fail
  refine (eqLoads_same g0 s0 ys0 w8 X_g0.out.row (RS0.out.lo N8.out) hy0).mono ?_
  rintro e w9 ⟨rfl, l⟩
  have N9 := Lib.hid (lo_on N8.out l)
  clear N8
  have hz9 : w8.heap.size ≤ w9.heap.size := l.size
  have x0_9 := Lib.hid (x0_8.out.lo l)
  clear x0_8
  have x1_9 := Lib.hid (x1_8.out.lo l)
  clear x1_8
  have x2_9 := Lib.hid (x2_8.out.lo l)
  clear x2_8
  have g0_9 := Lib.hid (X_g0.out.lo l)
  clear X_g0
  clear l
  go_wp2_with fail
  refine (toInts_any a0 cap0 xs0 w9 (H0.out.lo (lo_on LS.out N9.out)) (by omega)).mono ?_
  rintro e w10 ⟨t4, rfl, m, l⟩
  have N10 := Lib.hid (lo_on N9.out l)
  clear N9
  have hz10 : w9.heap.size ≤ w10.heap.size := l.size
  have x0_10 := Lib.hid (x0_9.out.lo l)
  clear x0_9
  have x1_10 := Lib.hid (x1_9.out.lo l)
  clear x1_9
  have x2_10 := Lib.hid (x2_9.out.lo l)
  clear x2_9
  have g0_10 := Lib.hid (g0_9.out.lo l)
  clear g0_9
  have X_t4 := Lib.hid m
  clear m l
  go_wp2_with fail
  refine (eqInts_same x0 t4 xs0 w10 x0_10.out.row X_t4.out.row (by omega)).mono ?_
  rintro e w11 ⟨rfl, l⟩
  have N11 := Lib.hid (lo_on N10.out l)
  clear N10
  have hz11 : w10.heap.size ≤ w11.heap.size := l.size
  have x0_11 := Lib.hid (x0_10.out.lo l)
  clear x0_10
  have x1_11 := Lib.hid (x1_10.out.lo l)
  clear x1_10
  have x2_11 := Lib.hid (x2_10.out.lo l)
  clear x2_10
  have g0_11 := Lib.hid (g0_10.out.lo l)
  clear g0_10
  have t4_11 := Lib.hid (X_t4.out.lo l)
  clear X_t4
  clear l
  clear t4_11
  go_wp2_with fail
  refine (toInts_any a1 cap1 xs1 w11 (H1.out.lo (lo_on LS.out N11.out)) (by omega)).mono ?_
  rintro e w12 ⟨t5, rfl, m, l⟩
  have N12 := Lib.hid (lo_on N11.out l)
  clear N11
  have hz12 : w11.heap.size ≤ w12.heap.size := l.size
  have x0_12 := Lib.hid (x0_11.out.lo l)
  clear x0_11
  have x1_12 := Lib.hid (x1_11.out.lo l)
  clear x1_11
  have x2_12 := Lib.hid (x2_11.out.lo l)
  clear x2_11
  have g0_12 := Lib.hid (g0_11.out.lo l)
  clear g0_11
  have X_t5 := Lib.hid m
  clear m l
  go_wp2_with fail
  refine (eqInts_same x1 t5 xs1 w12 x1_12.out.row X_t5.out.row (by omega)).mono ?_
  rintro e w13 ⟨rfl, l⟩
  have N13 := Lib.hid (lo_on N12.out l)
  clear N12
  have hz13 : w12.heap.size ≤ w13.heap.size := l.size
  have x0_13 := Lib.hid (x0_12.out.lo l)
  clear x0_12
  have x1_13 := Lib.hid (x1_12.out.lo l)
  clear x1_12
  have x2_13 := Lib.hid (x2_12.out.lo l)
  clear x2_12
  have g0_13 := Lib.hid (g0_12.out.lo l)
  clear g0_12
  have t5_13 := Lib.hid (X_t5.out.lo l)
  clear X_t5
  clear l
  clear t5_13
  go_wp2_with fail
  refine (toInts_any a2 cap2 xs2 w13 (H2.out.lo (lo_on LS.out N13.out)) (by omega)).mono ?_
  rintro e w14 ⟨t6, rfl, m, l⟩
  have N14 := Lib.hid (lo_on N13.out l)
  clear N13
  have hz14 : w13.heap.size ≤ w14.heap.size := l.size
  have x0_14 := Lib.hid (x0_13.out.lo l)
  clear x0_13
  have x1_14 := Lib.hid (x1_13.out.lo l)
  clear x1_13
  have x2_14 := Lib.hid (x2_13.out.lo l)
  clear x2_13
  have g0_14 := Lib.hid (g0_13.out.lo l)
  clear g0_13
  have X_t6 := Lib.hid m
  clear m l
  go_wp2_with fail
  refine (eqInts_same x2 t6 xs2 w14 x2_14.out.row X_t6.out.row (by omega)).mono ?_
  rintro e w15 ⟨rfl, l⟩
  have N15 := Lib.hid (lo_on N14.out l)
  clear N14
  have hz15 : w14.heap.size ≤ w15.heap.size := l.size
  have x0_15 := Lib.hid (x0_14.out.lo l)
  clear x0_14
  have x1_15 := Lib.hid (x1_14.out.lo l)
  clear x1_14
  have x2_15 := Lib.hid (x2_14.out.lo l)
  clear x2_14
  have g0_15 := Lib.hid (g0_14.out.lo l)
  clear g0_14
  have t6_15 := Lib.hid (X_t6.out.lo l)
  clear X_t6
  clear l
  clear t6_15
  go_wp2_with fail
  refine (markI_mine w4.heap.size w5.heap.size x0 xs0 (1) w15 x0_15.out (by omega) (by omega)).mono ?_
  rintro e w16 ⟨rfl, p, hh⟩
  have N16 := Lib.hid (N15.out.trans ((p.below (by omega)).mono (by omega)))
  clear N15
  have hz16 : w15.heap.size ≤ w16.heap.size := p.size
  have x1_16 := Lib.hid (x1_15.out.part p (by omega))
  clear x1_15
  have x2_16 := Lib.hid (x2_15.out.part p (by omega))
  clear x2_15
  have g0_16 := Lib.hid (g0_15.out.part p (by omega))
  clear g0_15
  clear x0_15
  clear p hh
  go_wp2_with fail
  refine (markI_mine w5.heap.size w6.heap.size x1 xs1 (1 + xs0.length) w16 x1_16.out (by omega) (by omega)).mono ?_
  rintro e w17 ⟨rfl, p, hh⟩
  have N17 := Lib.hid (N16.out.trans ((p.below (by omega)).mono (by omega)))
  clear N16
  have hz17 : w16.heap.size ≤ w17.heap.size := p.size
  have x2_17 := Lib.hid (x2_16.out.part p (by omega))
  clear x2_16
  have g0_17 := Lib.hid (g0_16.out.part p (by omega))
  clear g0_16
  clear x1_16
  clear p hh
  go_wp2_with fail
  refine (markI_mine w6.heap.size w7.heap.size x2 xs2 (1 + xs0.length + xs1.length) w17 x2_17.out (by omega) (by omega)).mono ?_
  rintro e w18 ⟨rfl, p, hh⟩
  have N18 := Lib.hid (N17.out.trans ((p.below (by omega)).mono (by omega)))
  clear N17
  have hz18 : w17.heap.size ≤ w18.heap.size := p.size
  have g0_18 := Lib.hid (g0_17.out.part p (by omega))
  clear g0_17
  clear x2_17
  clear p hh
  go_wp2_with fail
  refine (eqLoads_same g0 s0 ys0 w18 g0_18.out.row (RS0.out.lo N18.out) hy0).mono ?_
  rintro e w19 ⟨rfl, l⟩
  have N19 := Lib.hid (lo_on N18.out l)
  clear N18
  have hz19 : w18.heap.size ≤ w19.heap.size := l.size
  have g0_19 := Lib.hid (g0_18.out.lo l)
  clear g0_18
  clear l
  go_wp2_with fail
  refine (markL_mine w7.heap.size w8.heap.size g0 ys0 (1) w19 g0_19.out hy0 (by omega)).mono ?_
  rintro e w20 ⟨rfl, p, hh⟩
  have N20 := Lib.hid (N19.out.trans ((p.below (by omega)).mono (by omega)))
  clear N19
  have hz20 : w19.heap.size ≤ w20.heap.size := p.size
  clear g0_19
  have Y_g0 := Lib.hid hh
  clear p hh
  go_wp2_with fail
  refine (heldL_held w7.heap.size w8.heap.size g0 ys0 (1) w20 Y_g0.out hy0 (by omega)).mono ?_
  rintro e w' ⟨rfl, rfl⟩
  go_wp2_with fail
  refine (toInts_any a0 cap0 xs0 w20 (H0.out.lo (lo_on LS.out N20.out)) (by omega)).mono ?_
  rintro e w21 ⟨t7, rfl, m, l⟩
  have N21 := Lib.hid (lo_on N20.out l)
  clear N20
  have hz21 : w20.heap.size ≤ w21.heap.size := l.size
  have held_g0_21 := Lib.hid (Y_g0.out.lo l)
  clear Y_g0
  have X_t7 := Lib.hid m
  clear m l
  go_wp2_with fail
  refine (toInts_any a1 cap1 xs1 w21 (H1.out.lo (lo_on LS.out N21.out)) (by omega)).mono ?_
  rintro e w22 ⟨t8, rfl, m, l⟩
  have N22 := Lib.hid (lo_on N21.out l)
  clear N21
  have hz22 : w21.heap.size ≤ w22.heap.size := l.size
  have held_g0_22 := Lib.hid (held_g0_21.out.lo l)
  clear held_g0_21
  have t7_22 := Lib.hid (X_t7.out.lo l)
  clear X_t7
  have X_t8 := Lib.hid m
  clear m l
  go_wp2_with fail
  refine (toInts_any a2 cap2 xs2 w22 (H2.out.lo (lo_on LS.out N22.out)) (by omega)).mono ?_
  rintro e w23 ⟨t9, rfl, m, l⟩
  have N23 := Lib.hid (lo_on N22.out l)
  clear N22
  have hz23 : w22.heap.size ≤ w23.heap.size := l.size
  have held_g0_23 := Lib.hid (held_g0_22.out.lo l)
  clear held_g0_22
  have t7_23 := Lib.hid (t7_22.out.lo l)
  clear t7_22
  have t8_23 := Lib.hid (X_t8.out.lo l)
  clear X_t8
  have X_t9 := Lib.hid m
  clear m l
  go_wp2_with fail
  refine (IM.out (by omega) (by omega) (by omega) t7 t8 t9 w23 t7_23.out.row t8_23.out.row X_t9.out.row).mono ?_
  rintro e w24 ⟨h0, rfl, m0, l⟩
  clear t7_23
  clear t8_23
  clear X_t9
  have N24 := Lib.hid (lo_on N23.out l)
  clear N23
  have hz24 : w23.heap.size ≤ w24.heap.size := l.size
  have held_g0_24 := Lib.hid (held_g0_23.out.lo l)
  clear held_g0_23
  have X_h0 := Lib.hid m0
  clear m0
  clear l
  go_wp2_with fail
  refine (eqLoads_same h0 s0 ys0 w24 X_h0.out.row (RS0.out.lo N24.out) hy0).mono ?_
  rintro e w25 ⟨rfl, l⟩
  have N25 := Lib.hid (lo_on N24.out l)
  clear N24
  have hz25 : w24.heap.size ≤ w25.heap.size := l.size
  have held_g0_25 := Lib.hid (held_g0_24.out.lo l)
  clear held_g0_24
  have h0_25 := Lib.hid (X_h0.out.lo l)
  clear X_h0
  clear l
  go_wp2_with fail
  refine (heldL_held w7.heap.size w8.heap.size g0 ys0 (1) w25 held_g0_25.out hy0 (by omega)).mono ?_
  rintro e w' ⟨rfl, rfl⟩
  go_wp2
  go_ret
  exact ⟨rfl, lo_on LS.out N25.out⟩
end Go.Proofs.Ytgjchkcjlmklbaa
