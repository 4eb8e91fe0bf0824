/- The walk of the law on HaulFor, from contracts of the two functions that it calls. -/
import Derived.Test.YtpklccpkgefniaaChs
import Derived.Test.YtpklccpkgefniaaA2
import Derived.Test.YtpklccpkgefniaaCh3
namespace Go.Proofs.Ytpklccpkgefniaa
open Go.RowKit
set_option maxRecDepth 100000 in
set_option maxHeartbeats 3200000 in
theorem exHaulFor_walk (a0 : Option Addr) (cap0 : Nat) (xs0 : List StageV) (a1 : Int) (w : World) (hn0 : xs0.length ≤ maxLen) (hr0 : StgRow w (.slice a0 xs0.length cap0) xs0) (r0 : Int × Int) (r1 : Bool)
    (S : xs0.length ≤ 1048576 → ∀ (v0 : Value) (w : World), StgRow w v0 xs0 → Calls Try.prog 38 #[v0, .int .i64 a1] w (fun e w' => e = .returned (.tuple #[.agg #[.int .i64 r0.1, .int .i64 r0.2], .bool r1]) ∧ Below w.heap.size w w'))
    (I : xs0.length ≤ 1048576 → ∀ (v0 : Value) (w : World), StgRow w v0 xs0 → Calls Try.prog 39 #[v0, .int .i64 a1] w (fun e w' => e = .returned (.tuple #[.agg #[.int .i64 r0.1, .int .i64 r0.2], .bool r1]) ∧ Below w.heap.size w w')) :
    Calls Try.prog 9 #[.slice a0 xs0.length cap0, .int .i64 a1] w fun e w' => e = .returned (.bool true) ∧ Below w.heap.size w w' := by
  have SP := Lib.hid S
  have IM := Lib.hid I
  clear S I
  have H0 := Lib.hid hr0
  clear hr0
  unfold maxLen at hn0
  have L0 := Lib.hid (Below.refl w.heap.size w)
  go_enter Try.func9, Try.ntmps9
  go_wp2_with fail
  refine (szStg_any a0 _ cap0 w hn0).mono ?_
  rintro e w' ⟨z, rfl, rfl, hneg | ⟨z0, hb⟩⟩
  · go_wp2
    go_ret
    exact ⟨rfl, Below.refl _ _⟩
  go_wp2_with fail
  refine (toStgs_mine a0 cap0 xs0 w (H0.out.lo L0.out) (by omega)).mono ?_
  rintro e w1 ⟨t1, rfl, m, l⟩
  have L1 := Lib.hid (lo_on L0.out l)
  clear L0
  have hz1 : w.heap.size ≤ w1.heap.size := l.size
  have X_t1 := Lib.hid m
  clear m l
  go_wp2_with fail
  refine (SP.out (by omega) t1 w1 X_t1.out.row).mono ?_
  rintro e w2 ⟨rfl, l⟩
  clear X_t1
  have L2 := Lib.hid (lo_on L1.out l)
  clear L1
  have hz2 : w1.heap.size ≤ w2.heap.size := l.size
  have LS := L2
  clear L2
  clear l SP
  have N2 := Lib.hid (Below.refl w2.heap.size w2)
  obtain ⟨w3, hb⟩ : ∃ x, w2.alloc (.cells #[.int .i64 r0.1, .int .i64 r0.2] 28) = x := ⟨_, rfl⟩
  have bx := Lib.hid (show Cel2 w3 w2.heap.size (r0.1, r0.2) by rw [← hb]; exact cel2_new _ _ _ _)
  have l : Below w2.heap.size w2 w3 := by rw [← hb]; exact (Below.refl _ _).alloc (Nat.le_refl _) _
  have N3 := Lib.hid (lo_on N2.out l)
  clear N2
  have hz3 : w2.heap.size ≤ w3.heap.size := l.size
  have X_s0 := Lib.hid bx.out
  clear bx l
  go_wp2_with fail
  clear hb
  refine (toStgs_mine a0 cap0 xs0 w3 (H0.out.lo (lo_on LS.out N3.out)) (by omega)).mono ?_
  rintro e w4 ⟨x0, rfl, m, l⟩
  have N4 := Lib.hid (lo_on N3.out l)
  clear N3
  have hz4 : w3.heap.size ≤ w4.heap.size := l.size
  have box_s0_4 := Lib.hid (X_s0.out.lo l)
  clear X_s0
  have X_x0 := Lib.hid m
  clear m l
  go_wp2_with fail
  refine (IM.out (by omega) x0 w4 X_x0.out.row).mono ?_
  rintro e w5 ⟨rfl, l⟩
  have N5 := Lib.hid (lo_on N4.out l)
  clear N4
  have hz5 : w4.heap.size ≤ w5.heap.size := l.size
  have box_s0_5 := Lib.hid (box_s0_4.out.lo l)
  clear box_s0_4
  have x0_5 := Lib.hid (X_x0.out.lo l)
  clear X_x0
  clear l
  obtain ⟨w6, hb⟩ : ∃ x, w5.alloc (.cells #[.int .i64 r0.1, .int .i64 r0.2] 28) = x := ⟨_, rfl⟩
  have bx := Lib.hid (show Cel2 w6 w5.heap.size (r0.1, r0.2) by rw [← hb]; exact cel2_new _ _ _ _)
  have l : Below w5.heap.size w5 w6 := by rw [← hb]; exact (Below.refl _ _).alloc (Nat.le_refl _) _
  have N6 := Lib.hid (lo_on N5.out l)
  clear N5
  have hz6 : w5.heap.size ≤ w6.heap.size := l.size
  have box_s0_6 := Lib.hid (box_s0_5.out.lo l)
  clear box_s0_5
  have x0_6 := Lib.hid (x0_5.out.lo l)
  clear x0_5
  have X_g0 := Lib.hid bx.out
  clear bx l
  obtain ⟨_, s0a, s0b, _, _⟩ := box_s0_6.out
  obtain ⟨_, g0a, g0b, _, _⟩ := X_g0.out
  go_wp2_with fail
  clear hb
  clear s0a s0b g0a g0b
  refine (eqA2_same r0.1 r0.2 w6).mono ?_
  rintro e w7 ⟨rfl, l⟩
  have N7 := Lib.hid (lo_on N6.out l)
  clear N6
  have hz7 : w6.heap.size ≤ w7.heap.size := l.size
  have box_s0_7 := Lib.hid (box_s0_6.out.lo l)
  clear box_s0_6
  have x0_7 := Lib.hid (x0_6.out.lo l)
  clear x0_6
  have box_g0_7 := Lib.hid (X_g0.out.lo l)
  clear X_g0
  clear l
  go_wp2_with fail
  refine (toStgs_mine a0 cap0 xs0 w7 (H0.out.lo (lo_on LS.out N7.out)) (by omega)).mono ?_
  rintro e w8 ⟨t2, rfl, m, l⟩
  have N8 := Lib.hid (lo_on N7.out l)
  clear N7
  have hz8 : w7.heap.size ≤ w8.heap.size := l.size
  have box_s0_8 := Lib.hid (box_s0_7.out.lo l)
  clear box_s0_7
  have x0_8 := Lib.hid (x0_7.out.lo l)
  clear x0_7
  have box_g0_8 := Lib.hid (box_g0_7.out.lo l)
  clear box_g0_7
  have X_t2 := Lib.hid m
  clear m l
  go_wp2_with fail
  refine (eqStgs_same x0 t2 xs0 w8 x0_8.out.row X_t2.out.row (by omega)).mono ?_
  rintro e w9 ⟨rfl, l⟩
  have N9 := Lib.hid (lo_on N8.out l)
  clear N8
  have hz9 : w8.heap.size ≤ w9.heap.size := l.size
  have box_s0_9 := Lib.hid (box_s0_8.out.lo l)
  clear box_s0_8
  have x0_9 := Lib.hid (x0_8.out.lo l)
  clear x0_8
  have box_g0_9 := Lib.hid (box_g0_8.out.lo l)
  clear box_g0_8
  have t2_9 := Lib.hid (X_t2.out.lo l)
  clear X_t2
  clear l
  clear t2_9
  go_wp2
  go_ret
  exact ⟨rfl, lo_on LS.out N9.out⟩
end Go.Proofs.Ytpklccpkgefniaa
