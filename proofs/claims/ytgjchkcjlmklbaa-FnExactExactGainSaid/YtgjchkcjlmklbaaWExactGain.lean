/- The walk of the law on ExactGain, from contracts of the two functions that it calls. -/
import Derived.Test.YtgjchkcjlmklbaaChs
namespace Go.Proofs.Ytgjchkcjlmklbaa
open Go.RowKit
set_option maxRecDepth 100000 in
set_option maxHeartbeats 3200000 in
theorem exExactGain_walk (a0 : Option Addr) (cap0 : Nat) (xs0 : List StageV) (a1 : Int) (w : World) (hn0 : xs0.length ≤ maxLen) (hr0 : StgRow w (.slice a0 xs0.length cap0) xs0) (ys0 : List Int) (hy0 : ys0.length ≤ 2000000) (r1 : Bool)
    (S : xs0.length ≤ 1048576 → ∀ (v0 : Value) (w : World), StgRow w v0 xs0 → Calls Try.prog 67 #[v0, .int .i64 a1] w (fun e w' => ∃ u0, e = .returned (.tuple #[u0, .bool r1]) ∧ IntRow w' u0 ys0 ∧ Below w.heap.size w w'))
    (I : xs0.length ≤ 1048576 → ∀ (v0 : Value) (w : World), StgRow w v0 xs0 → Calls Try.prog 68 #[v0, .int .i64 a1] w (fun e w' => ∃ u0, e = .returned (.tuple #[u0, .bool r1]) ∧ MineI w' w.heap.size w'.heap.size u0 ys0 ∧ Below w.heap.size w w')) :
    Calls Try.prog 16 #[.slice a0 xs0.length cap0, .int .i64 a1] w fun e w' => e = .returned (.bool true) ∧ Below w.heap.size w w' := by
  have SP := Lib.hid S
  have IM := Lib.hid I
  clear S I
  have H0 := Lib.hid hr0
  clear hr0
  unfold maxLen at hn0
  have L0 := Lib.hid (Below.refl w.heap.size w)
  go_enter Try.func16, Try.ntmps16
  go_wp2_with fail
  refine (szStg_any a0 _ cap0 w hn0).mono ?_
  rintro e w' ⟨z, rfl, rfl, hneg | ⟨z0, hb⟩⟩
  · go_wp2
    go_ret
    exact ⟨rfl, Below.refl _ _⟩
  go_wp2_with fail
  refine (toStgs_mine a0 cap0 xs0 w (H0.out.lo L0.out) (by omega)).mono ?_
  rintro e w1 ⟨t1, rfl, m, l⟩
  have L1 := Lib.hid (lo_on L0.out l)
  clear L0
  have hz1 : w.heap.size ≤ w1.heap.size := l.size
  have X_t1 := Lib.hid m
  clear m l
  go_wp2_with fail
  refine (SP.out (by omega) t1 w1 X_t1.out.row).mono ?_
  rintro e w2 ⟨s0, rfl, m0, l⟩
  clear X_t1
  have L2 := Lib.hid (lo_on L1.out l)
  clear L1
  have hz2 : w1.heap.size ≤ w2.heap.size := l.size
  have LS := L2
  clear L2
  have RS0 := Lib.hid m0
  clear m0
  clear l SP
  have N2 := Lib.hid (Below.refl w2.heap.size w2)
  go_wp2_with fail
  refine (toStgs_mine a0 cap0 xs0 w2 (H0.out.lo (lo_on LS.out N2.out)) (by omega)).mono ?_
  rintro e w3 ⟨x0, rfl, m, l⟩
  have N3 := Lib.hid (lo_on N2.out l)
  clear N2
  have hz3 : w2.heap.size ≤ w3.heap.size := l.size
  have X_x0 := Lib.hid m
  clear m l
  go_wp2_with fail
  refine (IM.out (by omega) x0 w3 X_x0.out.row).mono ?_
  rintro e w4 ⟨g0, rfl, m0, l⟩
  have N4 := Lib.hid (lo_on N3.out l)
  clear N3
  have hz4 : w3.heap.size ≤ w4.heap.size := l.size
  have x0_4 := Lib.hid (X_x0.out.lo l)
  clear X_x0
  have X_g0 := Lib.hid m0
  clear m0
  clear l
  go_wp2_with fail
  refine (eqInts_same g0 s0 ys0 w4 X_g0.out.row (RS0.out.lo N4.out) hy0).mono ?_
  rintro e w5 ⟨rfl, l⟩
  have N5 := Lib.hid (lo_on N4.out l)
  clear N4
  have hz5 : w4.heap.size ≤ w5.heap.size := l.size
  have x0_5 := Lib.hid (x0_4.out.lo l)
  clear x0_4
  have g0_5 := Lib.hid (X_g0.out.lo l)
  clear X_g0
  clear l
  go_wp2_with fail
  refine (toStgs_mine a0 cap0 xs0 w5 (H0.out.lo (lo_on LS.out N5.out)) (by omega)).mono ?_
  rintro e w6 ⟨t2, rfl, m, l⟩
  have N6 := Lib.hid (lo_on N5.out l)
  clear N5
  have hz6 : w5.heap.size ≤ w6.heap.size := l.size
  have x0_6 := Lib.hid (x0_5.out.lo l)
  clear x0_5
  have g0_6 := Lib.hid (g0_5.out.lo l)
  clear g0_5
  have X_t2 := Lib.hid m
  clear m l
  go_wp2_with fail
  refine (eqStgs_same x0 t2 xs0 w6 x0_6.out.row X_t2.out.row (by omega)).mono ?_
  rintro e w7 ⟨rfl, l⟩
  have N7 := Lib.hid (lo_on N6.out l)
  clear N6
  have hz7 : w6.heap.size ≤ w7.heap.size := l.size
  have x0_7 := Lib.hid (x0_6.out.lo l)
  clear x0_6
  have g0_7 := Lib.hid (g0_6.out.lo l)
  clear g0_6
  have t2_7 := Lib.hid (X_t2.out.lo l)
  clear X_t2
  clear l
  clear t2_7
  go_wp2_with fail
  refine (markS_mine w2.heap.size w3.heap.size x0 xs0 (1) w7 x0_7.out (by omega) (by omega)).mono ?_
  rintro e w8 ⟨rfl, p, hh⟩
  have N8 := Lib.hid (N7.out.trans ((p.below (by omega)).mono (by omega)))
  clear N7
  have hz8 : w7.heap.size ≤ w8.heap.size := p.size
  have g0_8 := Lib.hid (g0_7.out.part p (by omega))
  clear g0_7
  clear x0_7
  clear p hh
  go_wp2_with fail
  refine (eqInts_same g0 s0 ys0 w8 g0_8.out.row (RS0.out.lo N8.out) hy0).mono ?_
  rintro e w9 ⟨rfl, l⟩
  have N9 := Lib.hid (lo_on N8.out l)
  clear N8
  have hz9 : w8.heap.size ≤ w9.heap.size := l.size
  have g0_9 := Lib.hid (g0_8.out.lo l)
  clear g0_8
  clear l
  go_wp2_with fail
  refine (markI_mine w3.heap.size w4.heap.size g0 ys0 (1) w9 g0_9.out hy0 (by omega)).mono ?_
  rintro e w10 ⟨rfl, p, hh⟩
  have N10 := Lib.hid (N9.out.trans ((p.below (by omega)).mono (by omega)))
  clear N9
  have hz10 : w9.heap.size ≤ w10.heap.size := p.size
  clear g0_9
  have Y_g0 := Lib.hid hh
  clear p hh
  go_wp2_with fail
  refine (heldI_held w3.heap.size w4.heap.size g0 (ys0.length) (1) w10 Y_g0.out (by omega) (by omega)).mono ?_
  rintro e w' ⟨rfl, rfl⟩
  go_wp2_with fail
  refine (toStgs_mine a0 cap0 xs0 w10 (H0.out.lo (lo_on LS.out N10.out)) (by omega)).mono ?_
  rintro e w11 ⟨t3, rfl, m, l⟩
  have N11 := Lib.hid (lo_on N10.out l)
  clear N10
  have hz11 : w10.heap.size ≤ w11.heap.size := l.size
  have held_g0_11 := Lib.hid (Y_g0.out.lo l)
  clear Y_g0
  have X_t3 := Lib.hid m
  clear m l
  go_wp2_with fail
  refine (IM.out (by omega) t3 w11 X_t3.out.row).mono ?_
  rintro e w12 ⟨h0, rfl, m0, l⟩
  clear X_t3
  have N12 := Lib.hid (lo_on N11.out l)
  clear N11
  have hz12 : w11.heap.size ≤ w12.heap.size := l.size
  have held_g0_12 := Lib.hid (held_g0_11.out.lo l)
  clear held_g0_11
  have X_h0 := Lib.hid m0
  clear m0
  clear l
  go_wp2_with fail
  refine (eqInts_same h0 s0 ys0 w12 X_h0.out.row (RS0.out.lo N12.out) hy0).mono ?_
  rintro e w13 ⟨rfl, l⟩
  have N13 := Lib.hid (lo_on N12.out l)
  clear N12
  have hz13 : w12.heap.size ≤ w13.heap.size := l.size
  have held_g0_13 := Lib.hid (held_g0_12.out.lo l)
  clear held_g0_12
  have h0_13 := Lib.hid (X_h0.out.lo l)
  clear X_h0
  clear l
  go_wp2_with fail
  refine (heldI_held w3.heap.size w4.heap.size g0 (ys0.length) (1) w13 held_g0_13.out (by omega) (by omega)).mono ?_
  rintro e w' ⟨rfl, rfl⟩
  go_wp2
  go_ret
  exact ⟨rfl, lo_on LS.out N13.out⟩
end Go.Proofs.Ytgjchkcjlmklbaa
