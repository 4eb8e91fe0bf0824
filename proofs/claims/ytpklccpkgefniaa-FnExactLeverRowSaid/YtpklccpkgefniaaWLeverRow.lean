/- The walk of the law on LeverRow, from contracts of the two functions that it calls. -/
import Derived.Test.YtpklccpkgefniaaChs
import Derived.Test.YtpklccpkgefniaaLoadOwn
namespace Go.Proofs.Ytpklccpkgefniaa
open Go.RowKit
set_option maxRecDepth 100000 in
set_option maxHeartbeats 3200000 in
theorem exLeverRow_walk (a0 : StageV) (a1 : Int) (a2 : Int) (w : World)  (ys0 : List (Int × Int)) (hy0 : ys0.length ≤ 2000000) (r1 : Bool)
    (S : ∀ (w : World), Calls Try.prog 40 #[.agg #[.int .i64 a0.k, .int .i64 a0.a, .int .i64 a0.b], .int .i64 a1, .int .i64 a2] w (fun e w' => ∃ u0, e = .returned (.tuple #[u0, .bool r1]) ∧ LoadRow w' u0 ys0 ∧ Below w.heap.size w w'))
    (I : ∀ (w : World), Calls Try.prog 41 #[.agg #[.int .i64 a0.k, .int .i64 a0.a, .int .i64 a0.b], .int .i64 a1, .int .i64 a2] w (fun e w' => ∃ u0, e = .returned (.tuple #[u0, .bool r1]) ∧ MineL w' w.heap.size w'.heap.size u0 ys0 ∧ Below w.heap.size w w')) :
    Calls Try.prog 10 #[.agg #[.int .i64 a0.k, .int .i64 a0.a, .int .i64 a0.b], .int .i64 a1, .int .i64 a2] w fun e w' => e = .returned (.bool true) ∧ Below w.heap.size w w' := by
  have SP := Lib.hid S
  have IM := Lib.hid I
  clear S I
  obtain ⟨w0, hW⟩ : ∃ w0, w.alloc (.cells #[.int .i64 a0.k, .int .i64 a0.a, .int .i64 a0.b] 23) = w0 := ⟨_, rfl⟩
  have LW := Lib.hid (show Below w.heap.size w w0 by rw [← hW]; exact (Below.refl _ _).alloc (Nat.le_refl _) _)
  have BX := Lib.hid (show Cel3 w0 w.heap.size (.int .i64 a0.k) (.int .i64 a0.a) (.int .i64 a0.b) by rw [← hW]; exact cel3_new _ _ _ _ _)
  have L0 := Lib.hid (Below.refl w0.heap.size w0)
  go_enter Try.func10, Try.ntmps10
  obtain ⟨_, k0, k1, k2⟩ := BX.out.lo L0.out
  go_wp2_with fail
  clear hW
  clear k0 k1 k2
  refine (toStage_any a0 w0).mono ?_
  rintro e w1 ⟨rfl, l⟩
  have L1 := Lib.hid (lo_on L0.out l)
  clear L0
  have hz1 : w0.heap.size ≤ w1.heap.size := l.size
  clear l
  go_wp2_with fail
  refine (SP.out   w1 ).mono ?_
  rintro e w2 ⟨s0, rfl, m0, l⟩
  have L2 := Lib.hid (lo_on L1.out l)
  clear L1
  have hz2 : w1.heap.size ≤ w2.heap.size := l.size
  have LS := L2
  clear L2
  have RS0 := Lib.hid m0
  clear m0
  clear l SP
  have N2 := Lib.hid (Below.refl w2.heap.size w2)
  obtain ⟨_, k0, k1, k2⟩ := BX.out.lo (lo_on LS.out N2.out)
  go_wp2_with fail
  clear k0 k1 k2
  refine (toStage_any a0 w2).mono ?_
  rintro e w3 ⟨rfl, l⟩
  have N3 := Lib.hid (lo_on N2.out l)
  clear N2
  have hz3 : w2.heap.size ≤ w3.heap.size := l.size
  clear l
  go_wp2_with fail
  refine (IM.out   w3 ).mono ?_
  rintro e w4 ⟨g0, rfl, m0, l⟩
  have N4 := Lib.hid (lo_on N3.out l)
  clear N3
  have hz4 : w3.heap.size ≤ w4.heap.size := l.size
  have X_g0 := Lib.hid m0
  clear m0
  clear l
  go_wp2_with fail
  refine (eqLoads_same g0 s0 ys0 w4 X_g0.out.row (RS0.out.lo N4.out) hy0).mono ?_
  rintro e w5 ⟨rfl, l⟩
  have N5 := Lib.hid (lo_on N4.out l)
  clear N4
  have hz5 : w4.heap.size ≤ w5.heap.size := l.size
  have g0_5 := Lib.hid (X_g0.out.lo l)
  clear X_g0
  clear l
  go_wp2_with fail
  refine (markL_mine w3.heap.size w4.heap.size g0 ys0 (1) w5 g0_5.out hy0 (by omega)).mono ?_
  rintro e w6 ⟨rfl, p, hh⟩
  have N6 := Lib.hid (N5.out.trans ((p.below (by omega)).mono (by omega)))
  clear N5
  have hz6 : w5.heap.size ≤ w6.heap.size := p.size
  clear g0_5
  have Y_g0 := Lib.hid hh
  clear p hh
  go_wp2_with fail
  refine (heldL_held w3.heap.size w4.heap.size g0 ys0 (1) w6 Y_g0.out hy0 (by omega)).mono ?_
  rintro e w' ⟨rfl, rfl⟩
  obtain ⟨_, k0, k1, k2⟩ := BX.out.lo (lo_on LS.out N6.out)
  go_wp2_with fail
  clear k0 k1 k2
  refine (toStage_any a0 w6).mono ?_
  rintro e w7 ⟨rfl, l⟩
  have N7 := Lib.hid (lo_on N6.out l)
  clear N6
  have hz7 : w6.heap.size ≤ w7.heap.size := l.size
  have held_g0_7 := Lib.hid (Y_g0.out.lo l)
  clear Y_g0
  clear l
  go_wp2_with fail
  refine (IM.out   w7 ).mono ?_
  rintro e w8 ⟨h0, rfl, m0, l⟩
  have N8 := Lib.hid (lo_on N7.out l)
  clear N7
  have hz8 : w7.heap.size ≤ w8.heap.size := l.size
  have held_g0_8 := Lib.hid (held_g0_7.out.lo l)
  clear held_g0_7
  have X_h0 := Lib.hid m0
  clear m0
  clear l
  go_wp2_with fail
  refine (eqLoads_same h0 s0 ys0 w8 X_h0.out.row (RS0.out.lo N8.out) hy0).mono ?_
  rintro e w9 ⟨rfl, l⟩
  have N9 := Lib.hid (lo_on N8.out l)
  clear N8
  have hz9 : w8.heap.size ≤ w9.heap.size := l.size
  have held_g0_9 := Lib.hid (held_g0_8.out.lo l)
  clear held_g0_8
  have h0_9 := Lib.hid (X_h0.out.lo l)
  clear X_h0
  clear l
  go_wp2_with fail
  refine (heldL_held w3.heap.size w4.heap.size g0 ys0 (1) w9 held_g0_9.out hy0 (by omega)).mono ?_
  rintro e w' ⟨rfl, rfl⟩
  go_wp2
  go_ret
  exact ⟨rfl, lo_on LW.out (lo_on LS.out N9.out)⟩
end Go.Proofs.Ytpklccpkgefniaa
