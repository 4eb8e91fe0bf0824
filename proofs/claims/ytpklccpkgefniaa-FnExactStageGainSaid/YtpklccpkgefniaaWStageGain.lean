/- The walk of the law on StageGain, from contracts of the two functions that it calls. -/
import Derived.Test.YtpklccpkgefniaaChs
import Derived.Test.YtpklccpkgefniaaA2
import Derived.Test.YtpklccpkgefniaaCh3
namespace Go.Proofs.Ytpklccpkgefniaa
open Go.RowKit
set_option maxRecDepth 100000 in
set_option maxHeartbeats 3200000 in
theorem exStageGain_walk (a0 : StageV) (w : World)  (r0 : Int × Int) (r1 : Bool)
    (S : ∀ (w : World), Calls Try.prog 24 #[.agg #[.int .i64 a0.k, .int .i64 a0.a, .int .i64 a0.b]] w (fun e w' => e = .returned (.tuple #[.agg #[.int .i64 r0.1, .int .i64 r0.2], .bool r1]) ∧ Below w.heap.size w w'))
    (I : ∀ (w : World), Calls Try.prog 25 #[.agg #[.int .i64 a0.k, .int .i64 a0.a, .int .i64 a0.b]] w (fun e w' => e = .returned (.tuple #[.agg #[.int .i64 r0.1, .int .i64 r0.2], .bool r1]) ∧ Below w.heap.size w w')) :
    Calls Try.prog 4 #[.agg #[.int .i64 a0.k, .int .i64 a0.a, .int .i64 a0.b]] w fun e w' => e = .returned (.bool true) ∧ Below w.heap.size w w' := by
  have SP := Lib.hid S
  have IM := Lib.hid I
  clear S I
  obtain ⟨w0, hW⟩ : ∃ w0, w.alloc (.cells #[.int .i64 a0.k, .int .i64 a0.a, .int .i64 a0.b] 23) = w0 := ⟨_, rfl⟩
  have LW := Lib.hid (show Below w.heap.size w w0 by rw [← hW]; exact (Below.refl _ _).alloc (Nat.le_refl _) _)
  have BX := Lib.hid (show Cel3 w0 w.heap.size (.int .i64 a0.k) (.int .i64 a0.a) (.int .i64 a0.b) by rw [← hW]; exact cel3_new _ _ _ _ _)
  have L0 := Lib.hid (Below.refl w0.heap.size w0)
  go_enter Try.func4, Try.ntmps4
  obtain ⟨_, k0, k1, k2⟩ := BX.out.lo L0.out
  go_wp2_with fail
  clear hW
  clear k0 k1 k2
  refine (toStage_any a0 w0).mono ?_
  rintro e w1 ⟨rfl, l⟩
  have L1 := Lib.hid (lo_on L0.out l)
  clear L0
  have hz1 : w0.heap.size ≤ w1.heap.size := l.size
  clear l
  go_wp2_with fail
  refine (SP.out   w1 ).mono ?_
  rintro e w2 ⟨rfl, l⟩
  have L2 := Lib.hid (lo_on L1.out l)
  clear L1
  have hz2 : w1.heap.size ≤ w2.heap.size := l.size
  have LS := L2
  clear L2
  clear l SP
  have N2 := Lib.hid (Below.refl w2.heap.size w2)
  obtain ⟨w3, hb⟩ : ∃ x, w2.alloc (.cells #[.int .i64 r0.1, .int .i64 r0.2] 28) = x := ⟨_, rfl⟩
  have bx := Lib.hid (show Cel2 w3 w2.heap.size (r0.1, r0.2) by rw [← hb]; exact cel2_new _ _ _ _)
  have l : Below w2.heap.size w2 w3 := by rw [← hb]; exact (Below.refl _ _).alloc (Nat.le_refl _) _
  have N3 := Lib.hid (lo_on N2.out l)
  clear N2
  have hz3 : w2.heap.size ≤ w3.heap.size := l.size
  have X_s0 := Lib.hid bx.out
  clear bx l
  obtain ⟨_, k0, k1, k2⟩ := BX.out.lo (lo_on LS.out N3.out)
  go_wp2_with fail
  clear hb
  clear k0 k1 k2
  refine (toStage_any a0 w3).mono ?_
  rintro e w4 ⟨rfl, l⟩
  have N4 := Lib.hid (lo_on N3.out l)
  clear N3
  have hz4 : w3.heap.size ≤ w4.heap.size := l.size
  have box_s0_4 := Lib.hid (X_s0.out.lo l)
  clear X_s0
  clear l
  go_wp2_with fail
  refine (IM.out   w4 ).mono ?_
  rintro e w5 ⟨rfl, l⟩
  have N5 := Lib.hid (lo_on N4.out l)
  clear N4
  have hz5 : w4.heap.size ≤ w5.heap.size := l.size
  have box_s0_5 := Lib.hid (box_s0_4.out.lo l)
  clear box_s0_4
  clear l
  obtain ⟨w6, hb⟩ : ∃ x, w5.alloc (.cells #[.int .i64 r0.1, .int .i64 r0.2] 28) = x := ⟨_, rfl⟩
  have bx := Lib.hid (show Cel2 w6 w5.heap.size (r0.1, r0.2) by rw [← hb]; exact cel2_new _ _ _ _)
  have l : Below w5.heap.size w5 w6 := by rw [← hb]; exact (Below.refl _ _).alloc (Nat.le_refl _) _
  have N6 := Lib.hid (lo_on N5.out l)
  clear N5
  have hz6 : w5.heap.size ≤ w6.heap.size := l.size
  have box_s0_6 := Lib.hid (box_s0_5.out.lo l)
  clear box_s0_5
  have X_g0 := Lib.hid bx.out
  clear bx l
  obtain ⟨_, s0a, s0b, _, _⟩ := box_s0_6.out
  obtain ⟨_, g0a, g0b, _, _⟩ := X_g0.out
  go_wp2_with fail
  clear hb
  clear s0a s0b g0a g0b
  refine (eqA2_same r0.1 r0.2 w6).mono ?_
  rintro e w7 ⟨rfl, l⟩
  have N7 := Lib.hid (lo_on N6.out l)
  clear N6
  have hz7 : w6.heap.size ≤ w7.heap.size := l.size
  have box_s0_7 := Lib.hid (box_s0_6.out.lo l)
  clear box_s0_6
  have box_g0_7 := Lib.hid (X_g0.out.lo l)
  clear X_g0
  clear l
  go_wp2
  go_ret
  exact ⟨rfl, lo_on LW.out (lo_on LS.out N7.out)⟩
end Go.Proofs.Ytpklccpkgefniaa
