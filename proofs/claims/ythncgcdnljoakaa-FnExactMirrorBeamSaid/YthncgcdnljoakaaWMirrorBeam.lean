/- The walk of the law on MirrorBeam, from contracts of the two functions that it calls. -/
import Derived.Test.YthncgcdnljoakaaBmL
namespace Go.Proofs.Ythncgcdnljoakaa
open Go.RowKit
set_option maxRecDepth 100000 in
set_option maxHeartbeats 3200000 in
theorem exMirrorBeam_walk (a0 : BeamV) (w : World) (r0 : BeamV) (r1 : Bool)
    (S : ∀ (w : World), Calls Try.prog 55 #[.agg #[.int .i64 a0.l, .int .i64 a0.a, .int .i64 a0.b]] w (fun e w' => e = .returned (.tuple #[.agg #[.int .i64 r0.l, .int .i64 r0.a, .int .i64 r0.b], .bool r1]) ∧ Below w.heap.size w w'))
    (I : ∀ (w : World), Calls Try.prog 56 #[.agg #[.int .i64 a0.l, .int .i64 a0.a, .int .i64 a0.b]] w (fun e w' => e = .returned (.tuple #[.agg #[.int .i64 r0.l, .int .i64 r0.a, .int .i64 r0.b], .bool r1]) ∧ Below w.heap.size w w')) :
    Calls Try.prog 16 #[.agg #[.int .i64 a0.l, .int .i64 a0.a, .int .i64 a0.b]] w fun e w' => e = .returned (.bool true) ∧ Below w.heap.size w w' := by
  have SP := Lib.hid S
  have IM := Lib.hid I
  clear S I
  obtain ⟨w0, hW⟩ : ∃ w0, w.alloc (.cells #[.int .i64 a0.l, .int .i64 a0.a, .int .i64 a0.b] 23) = w0 := ⟨_, rfl⟩
  have LW := Lib.hid (show Below w.heap.size w w0 by rw [← hW]; exact (Below.refl _ _).alloc (Nat.le_refl _) _)
  have BX := Lib.hid (show Cel3 w0 w.heap.size (.int .i64 a0.l) (.int .i64 a0.a) (.int .i64 a0.b) by rw [← hW]; exact cel3_new _ _ _ _ _)
  obtain ⟨_, k0, k1, k2⟩ := BX.out
  go_enter Try.func16, Try.ntmps16
  go_wp2_with fail
  clear hW k0 k1 k2
  refine (toBeam_any a0 w0).mono ?_
  rintro e w1 ⟨rfl, l1⟩
  have L1 := Lib.hid l1
  clear l1
  go_wp2_with fail
  refine (SP.out w1).mono ?_
  rintro e w2 ⟨rfl, l⟩
  have L2 := Lib.hid (lo_on L1.out l)
  clear l L1 SP
  obtain ⟨V, hV⟩ : ∃ V, w2.alloc (.cells #[.int .i64 r0.l, .int .i64 r0.a, .int .i64 r0.b] 25) = V := ⟨_, rfl⟩
  have L3 := Lib.hid (show Below w0.heap.size w0 V by rw [← hV]; exact lo_on L2.out ((Below.refl _ _).alloc (Nat.le_refl _) _))
  have BR := Lib.hid (show Cel3 V w2.heap.size (.int .i64 r0.l) (.int .i64 r0.a) (.int .i64 r0.b) by rw [← hV]; exact cel3_new _ _ _ _ _)
  obtain ⟨_, k0, k1, k2⟩ := BX.out.lo L3.out
  go_wp2_with fail
  clear hV k0 k1 k2 L2
  refine (toBeam_any a0 V).mono ?_
  rintro e w3 ⟨rfl, l⟩
  have N3 := Lib.hid l
  clear l
  go_wp2_with fail
  refine (IM.out w3).mono ?_
  rintro e w4 ⟨rfl, l⟩
  have N4 := Lib.hid (lo_on N3.out l)
  clear l N3 IM
  obtain ⟨U, hU⟩ : ∃ U, w4.alloc (.cells #[.int .i64 r0.l, .int .i64 r0.a, .int .i64 r0.b] 25) = U := ⟨_, rfl⟩
  have N5 := Lib.hid (show Below V.heap.size V U by rw [← hU]; exact lo_on N4.out ((Below.refl _ _).alloc (Nat.le_refl _) _))
  have BG := Lib.hid (show Cel3 U w4.heap.size (.int .i64 r0.l) (.int .i64 r0.a) (.int .i64 r0.b) by rw [← hU]; exact cel3_new _ _ _ _ _)
  obtain ⟨_, k0, k1, k2⟩ := BR.out.lo N5.out
  obtain ⟨_, j0, j1, j2⟩ := BG.out
  go_wp2_with fail
  clear hU k0 k1 k2 j0 j1 j2
  refine (eqBeam_any r0 U).mono ?_
  rintro e w5 ⟨rfl, l⟩
  have N6 := Lib.hid (lo_on N5.out l)
  clear l
  go_wp2
  go_ret
  exact ⟨rfl, lo_on LW.out (lo_on L3.out N6.out)⟩
end Go.Proofs.Ythncgcdnljoakaa
