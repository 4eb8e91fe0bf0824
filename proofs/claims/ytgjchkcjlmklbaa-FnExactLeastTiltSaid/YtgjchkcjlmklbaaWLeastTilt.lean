/- The walk of the law on LeastTilt, from contracts of the two functions that it calls. -/
import Derived.Test.YtgjchkcjlmklbaaIntLaw
import Derived.Test.YtgjchkcjlmklbaaIn
namespace Go.Proofs.Ytgjchkcjlmklbaa
open Go.RowKit
set_option maxRecDepth 100000 in
set_option maxHeartbeats 3200000 in
theorem exLeastTilt_walk (a0 : Option Addr) (cap0 : Nat) (xs0 : List Int) (a1 : Option Addr) (cap1 : Nat) (xs1 : List Int) (w : World) (hn0 : xs0.length ≤ maxLen) (hr0 : IntRow w (.slice a0 xs0.length cap0) xs0) (hn1 : xs1.length ≤ maxLen) (hr1 : IntRow w (.slice a1 xs1.length cap1) xs1) (ys0 : List Int) (hy0 : ys0.length ≤ 2000000) (r1 : Int) (r2 : Bool)
    (S : xs0.length ≤ 1048576 → xs1.length ≤ 1048576 → ∀ (v0 : Value) (v1 : Value) (w : World), IntRow w v0 xs0 → IntRow w v1 xs1 → Calls Try.prog 40 #[v0, v1] w (fun e w' => ∃ u0, e = .returned (.tuple #[u0, .int .i64 r1, .bool r2]) ∧ IntRow w' u0 ys0 ∧ Below w.heap.size w w'))
    (I : xs0.length ≤ 1048576 → xs1.length ≤ 1048576 → ∀ (v0 : Value) (v1 : Value) (w : World), IntRow w v0 xs0 → IntRow w v1 xs1 → Calls Try.prog 41 #[v0, v1] w (fun e w' => ∃ u0, e = .returned (.tuple #[u0, .int .i64 r1, .bool r2]) ∧ MineI w' w.heap.size w'.heap.size u0 ys0 ∧ Below w.heap.size w w')) :
    Calls Try.prog 7 #[.slice a0 xs0.length cap0, .slice a1 xs1.length cap1] w fun e w' => e = .returned (.bool true) ∧ Below w.heap.size w w' := by
  have SP := Lib.hid S
  have IM := Lib.hid I
  clear S I
  have H0 := Lib.hid hr0
  clear hr0
  unfold maxLen at hn0
  have H1 := Lib.hid hr1
  clear hr1
  unfold maxLen at hn1
  by_cases hg0 : xs0.length ≤ 1048576
  case neg =>
    have hg' : (1048576 : Int) < (xs0.length : Int) := by omega
    go_enter Try.func7, Try.ntmps7
    go_wp2
    go_ret
    exact ⟨rfl, Below.refl _ _⟩
  have hf0 : ¬ (1048576 : Int) < (xs0.length : Int) := by omega
  by_cases hg1 : xs1.length ≤ 1048576
  case neg =>
    have hg' : (1048576 : Int) < (xs1.length : Int) := by omega
    go_enter Try.func7, Try.ntmps7
    go_wp2
    go_ret
    exact ⟨rfl, Below.refl _ _⟩
  have hf1 : ¬ (1048576 : Int) < (xs1.length : Int) := by omega
  have L0 := Lib.hid (Below.refl w.heap.size w)
  go_enter Try.func7, Try.ntmps7
  go_wp2_with fail
  refine (toInts_any a0 cap0 xs0 w (H0.out.lo L0.out) (by omega)).mono ?_
  rintro e w1 ⟨t1, rfl, m, l⟩
  have L1 := Lib.hid (lo_on L0.out l)
  clear L0
  have hz1 : w.heap.size ≤ w1.heap.size := l.size
  have X_t1 := Lib.hid m
  clear m l
  go_wp2_with fail
  refine (toInts_any a1 cap1 xs1 w1 (H1.out.lo L1.out) (by omega)).mono ?_
  rintro e w2 ⟨t2, rfl, m, l⟩
  have L2 := Lib.hid (lo_on L1.out l)
  clear L1
  have hz2 : w1.heap.size ≤ w2.heap.size := l.size
  have t1_2 := Lib.hid (X_t1.out.lo l)
  clear X_t1
  have X_t2 := Lib.hid m
  clear m l
  go_wp2_with fail
  refine (SP.out (by omega) (by omega) t1 t2 w2 t1_2.out.row X_t2.out.row).mono ?_
  rintro e w3 ⟨s0, rfl, m0, l⟩
  clear t1_2
  clear X_t2
  have L3 := Lib.hid (lo_on L2.out l)
  clear L2
  have hz3 : w2.heap.size ≤ w3.heap.size := l.size
  have LS := L3
  clear L3
  have RS0 := Lib.hid m0
  clear m0
  clear l SP
  have N3 := Lib.hid (Below.refl w3.heap.size w3)
  go_wp2_with fail
  refine (toInts_any a0 cap0 xs0 w3 (H0.out.lo (lo_on LS.out N3.out)) (by omega)).mono ?_
  rintro e w4 ⟨x0, rfl, m, l⟩
  have N4 := Lib.hid (lo_on N3.out l)
  clear N3
  have hz4 : w3.heap.size ≤ w4.heap.size := l.size
  have X_x0 := Lib.hid m
  clear m l
  go_wp2_with fail
  refine (toInts_any a1 cap1 xs1 w4 (H1.out.lo (lo_on LS.out N4.out)) (by omega)).mono ?_
  rintro e w5 ⟨x1, rfl, m, l⟩
  have N5 := Lib.hid (lo_on N4.out l)
  clear N4
  have hz5 : w4.heap.size ≤ w5.heap.size := l.size
  have x0_5 := Lib.hid (X_x0.out.lo l)
  clear X_x0
  have X_x1 := Lib.hid m
  clear m l
  go_wp2_with fail
  refine (IM.out (by omega) (by omega) x0 x1 w5 x0_5.out.row X_x1.out.row).mono ?_
  rintro e w6 ⟨g0, rfl, m0, l⟩
  have N6 := Lib.hid (lo_on N5.out l)
  clear N5
  have hz6 : w5.heap.size ≤ w6.heap.size := l.size
  have x0_6 := Lib.hid (x0_5.out.lo l)
  clear x0_5
  have x1_6 := Lib.hid (X_x1.out.lo l)
  clear X_x1
  have X_g0 := Lib.hid m0
  clear m0
  clear l
  go_wp2_with fail
  refine (eqInts_same g0 s0 ys0 w6 X_g0.out.row (RS0.out.lo N6.out) hy0).mono ?_
  rintro e w7 ⟨rfl, l⟩
  have N7 := Lib.hid (lo_on N6.out l)
  clear N6
  have hz7 : w6.heap.size ≤ w7.heap.size := l.size
  have x0_7 := Lib.hid (x0_6.out.lo l)
  clear x0_6
  have x1_7 := Lib.hid (x1_6.out.lo l)
  clear x1_6
  have g0_7 := Lib.hid (X_g0.out.lo l)
  clear X_g0
  clear l
  go_wp2_with fail
  refine (toInts_any a0 cap0 xs0 w7 (H0.out.lo (lo_on LS.out N7.out)) (by omega)).mono ?_
  rintro e w8 ⟨t3, rfl, m, l⟩
  have N8 := Lib.hid (lo_on N7.out l)
  clear N7
  have hz8 : w7.heap.size ≤ w8.heap.size := l.size
  have x0_8 := Lib.hid (x0_7.out.lo l)
  clear x0_7
  have x1_8 := Lib.hid (x1_7.out.lo l)
  clear x1_7
  have g0_8 := Lib.hid (g0_7.out.lo l)
  clear g0_7
  have X_t3 := Lib.hid m
  clear m l
  go_wp2_with fail
  refine (eqInts_same x0 t3 xs0 w8 x0_8.out.row X_t3.out.row (by omega)).mono ?_
  rintro e w9 ⟨rfl, l⟩
  have N9 := Lib.hid (lo_on N8.out l)
  clear N8
  have hz9 : w8.heap.size ≤ w9.heap.size := l.size
  have x0_9 := Lib.hid (x0_8.out.lo l)
  clear x0_8
  have x1_9 := Lib.hid (x1_8.out.lo l)
  clear x1_8
  have g0_9 := Lib.hid (g0_8.out.lo l)
  clear g0_8
  have t3_9 := Lib.hid (X_t3.out.lo l)
  clear X_t3
  clear l
  clear t3_9
  go_wp2_with fail
  refine (toInts_any a1 cap1 xs1 w9 (H1.out.lo (lo_on LS.out N9.out)) (by omega)).mono ?_
  rintro e w10 ⟨t4, rfl, m, l⟩
  have N10 := Lib.hid (lo_on N9.out l)
  clear N9
  have hz10 : w9.heap.size ≤ w10.heap.size := l.size
  have x0_10 := Lib.hid (x0_9.out.lo l)
  clear x0_9
  have x1_10 := Lib.hid (x1_9.out.lo l)
  clear x1_9
  have g0_10 := Lib.hid (g0_9.out.lo l)
  clear g0_9
  have X_t4 := Lib.hid m
  clear m l
  go_wp2_with fail
  refine (eqInts_same x1 t4 xs1 w10 x1_10.out.row X_t4.out.row (by omega)).mono ?_
  rintro e w11 ⟨rfl, l⟩
  have N11 := Lib.hid (lo_on N10.out l)
  clear N10
  have hz11 : w10.heap.size ≤ w11.heap.size := l.size
  have x0_11 := Lib.hid (x0_10.out.lo l)
  clear x0_10
  have x1_11 := Lib.hid (x1_10.out.lo l)
  clear x1_10
  have g0_11 := Lib.hid (g0_10.out.lo l)
  clear g0_10
  have t4_11 := Lib.hid (X_t4.out.lo l)
  clear X_t4
  clear l
  clear t4_11
  go_wp2_with fail
  refine (markI_mine w3.heap.size w4.heap.size x0 xs0 (1) w11 x0_11.out (by omega) (by omega)).mono ?_
  rintro e w12 ⟨rfl, p, hh⟩
  have N12 := Lib.hid (N11.out.trans ((p.below (by omega)).mono (by omega)))
  clear N11
  have hz12 : w11.heap.size ≤ w12.heap.size := p.size
  have x1_12 := Lib.hid (x1_11.out.part p (by omega))
  clear x1_11
  have g0_12 := Lib.hid (g0_11.out.part p (by omega))
  clear g0_11
  clear x0_11
  clear p hh
  go_wp2_with fail
  refine (markI_mine w4.heap.size w5.heap.size x1 xs1 (1 + xs0.length) w12 x1_12.out (by omega) (by omega)).mono ?_
  rintro e w13 ⟨rfl, p, hh⟩
  have N13 := Lib.hid (N12.out.trans ((p.below (by omega)).mono (by omega)))
  clear N12
  have hz13 : w12.heap.size ≤ w13.heap.size := p.size
  have g0_13 := Lib.hid (g0_12.out.part p (by omega))
  clear g0_12
  clear x1_12
  clear p hh
  go_wp2_with fail
  refine (eqInts_same g0 s0 ys0 w13 g0_13.out.row (RS0.out.lo N13.out) hy0).mono ?_
  rintro e w14 ⟨rfl, l⟩
  have N14 := Lib.hid (lo_on N13.out l)
  clear N13
  have hz14 : w13.heap.size ≤ w14.heap.size := l.size
  have g0_14 := Lib.hid (g0_13.out.lo l)
  clear g0_13
  clear l
  go_wp2_with fail
  refine (markI_mine w5.heap.size w6.heap.size g0 ys0 (1) w14 g0_14.out hy0 (by omega)).mono ?_
  rintro e w15 ⟨rfl, p, hh⟩
  have N15 := Lib.hid (N14.out.trans ((p.below (by omega)).mono (by omega)))
  clear N14
  have hz15 : w14.heap.size ≤ w15.heap.size := p.size
  clear g0_14
  have Y_g0 := Lib.hid hh
  clear p hh
  go_wp2_with fail
  refine (heldI_held w5.heap.size w6.heap.size g0 (ys0.length) (1) w15 Y_g0.out (by omega) (by omega)).mono ?_
  rintro e w' ⟨rfl, rfl⟩
  go_wp2_with fail
  refine (toInts_any a0 cap0 xs0 w15 (H0.out.lo (lo_on LS.out N15.out)) (by omega)).mono ?_
  rintro e w16 ⟨t5, rfl, m, l⟩
  have N16 := Lib.hid (lo_on N15.out l)
  clear N15
  have hz16 : w15.heap.size ≤ w16.heap.size := l.size
  have held_g0_16 := Lib.hid (Y_g0.out.lo l)
  clear Y_g0
  have X_t5 := Lib.hid m
  clear m l
  go_wp2_with fail
  refine (toInts_any a1 cap1 xs1 w16 (H1.out.lo (lo_on LS.out N16.out)) (by omega)).mono ?_
  rintro e w17 ⟨t6, rfl, m, l⟩
  have N17 := Lib.hid (lo_on N16.out l)
  clear N16
  have hz17 : w16.heap.size ≤ w17.heap.size := l.size
  have held_g0_17 := Lib.hid (held_g0_16.out.lo l)
  clear held_g0_16
  have t5_17 := Lib.hid (X_t5.out.lo l)
  clear X_t5
  have X_t6 := Lib.hid m
  clear m l
  go_wp2_with fail
  refine (IM.out (by omega) (by omega) t5 t6 w17 t5_17.out.row X_t6.out.row).mono ?_
  rintro e w18 ⟨h0, rfl, m0, l⟩
  clear t5_17
  clear X_t6
  have N18 := Lib.hid (lo_on N17.out l)
  clear N17
  have hz18 : w17.heap.size ≤ w18.heap.size := l.size
  have held_g0_18 := Lib.hid (held_g0_17.out.lo l)
  clear held_g0_17
  have X_h0 := Lib.hid m0
  clear m0
  clear l
  go_wp2_with fail
  refine (eqInts_same h0 s0 ys0 w18 X_h0.out.row (RS0.out.lo N18.out) hy0).mono ?_
  rintro e w19 ⟨rfl, l⟩
  have N19 := Lib.hid (lo_on N18.out l)
  clear N18
  have hz19 : w18.heap.size ≤ w19.heap.size := l.size
  have held_g0_19 := Lib.hid (held_g0_18.out.lo l)
  clear held_g0_18
  have h0_19 := Lib.hid (X_h0.out.lo l)
  clear X_h0
  clear l
  go_wp2_with fail
  refine (heldI_held w5.heap.size w6.heap.size g0 (ys0.length) (1) w19 held_g0_19.out (by omega) (by omega)).mono ?_
  rintro e w' ⟨rfl, rfl⟩
  go_wp2
  go_ret
  exact ⟨rfl, lo_on LS.out N19.out⟩
end Go.Proofs.Ytgjchkcjlmklbaa
