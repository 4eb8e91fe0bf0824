/- The walk of the law on SafeSets, from contracts of the two functions that it calls. -/
import Derived.Test.YtcfbnadefdcjaaaRfB
import Derived.Test.YtcfbnadefdcjaaaLoadLaw
import Derived.Test.YtcfbnadefdcjaaaLoadOwn
import Derived.Test.YtcfbnadefdcjaaaLoadM
import Derived.Test.YtcfbnadefdcjaaaIn
import Derived.Test.YtcfbnadefdcjaaaIntLaw
namespace Go.Proofs.Ytcfbnadefdcjaaa
open Go.RowKit
set_option maxRecDepth 100000 in
set_option maxHeartbeats 3200000 in
theorem exSafeSets_walk (a0 : RaftV) (a1 : Option Addr) (cap1 : Nat) (xs1 : List (Int × Int)) (w : World) (hn1 : xs1.length ≤ maxLen) (hr1 : LoadRow w (.slice a1 xs1.length cap1) xs1) (r0 : Int) (r1 : Bool)
    (S : xs1.length ≤ 1048576 → ∀ (v1 : Value) (w : World), LoadRow w v1 xs1 → Calls Try.prog 33 #[.agg #[.int .i64 a0.a, .int .i64 a0.b, .int .i64 a0.o], v1] w (fun e w' => e = .returned (.tuple #[.int .i64 r0, .bool r1]) ∧ Below w.heap.size w w'))
    (I : xs1.length ≤ 1048576 → ∀ (v1 : Value) (w : World), LoadRow w v1 xs1 → Calls Try.prog 34 #[.agg #[.int .i64 a0.a, .int .i64 a0.b, .int .i64 a0.o], v1] w (fun e w' => e = .returned (.tuple #[.int .i64 r0, .bool r1]) ∧ Below w.heap.size w w')) :
    Calls Try.prog 6 #[.agg #[.int .i64 a0.a, .int .i64 a0.b, .int .i64 a0.o], .slice a1 xs1.length cap1] w fun e w' => e = .returned (.bool true) ∧ Below w.heap.size w w' := by
  have SP := Lib.hid S
  have IM := Lib.hid I
  clear S I
  have H1 := Lib.hid hr1
  clear hr1
  unfold maxLen at hn1
  obtain ⟨w0, hW⟩ : ∃ w0, w.alloc (.cells #[.int .i64 a0.a, .int .i64 a0.b, .int .i64 a0.o] 23) = w0 := ⟨_, rfl⟩
  have LW := Lib.hid (show Below w.heap.size w w0 by rw [← hW]; exact (Below.refl _ _).alloc (Nat.le_refl _) _)
  have BX := Lib.hid (show Cel3R w0 w.heap.size (.int .i64 a0.a) (.int .i64 a0.b) (.int .i64 a0.o) by rw [← hW]; exact cel3R_new _ _ _ _ _)
  have H1 := Lib.hid (H1.out.lo LW.out)
  have L0 := Lib.hid (Below.refl w0.heap.size w0)
  go_enter Try.func6, Try.ntmps6
  go_wp2_with fail
  clear hW
  refine (szLoad_any a1 _ cap1 w0 hn1).mono ?_
  rintro e w' ⟨z, rfl, rfl, hneg | ⟨z0, hb⟩⟩
  · go_wp2
    go_ret
    exact ⟨rfl, LW.out⟩
  obtain ⟨_, k0, k1, k2⟩ := BX.out.lo L0.out
  go_wp2_with fail
  clear k0 k1 k2
  refine (toRaft_any a0 w0).mono ?_
  rintro e w1 ⟨rfl, l⟩
  have L1 := Lib.hid (lo_on L0.out l)
  clear L0
  have hz1 : w0.heap.size ≤ w1.heap.size := l.size
  clear l
  go_wp2_with fail
  refine (toLoads_mine a1 cap1 xs1 w1 (H1.out.lo L1.out) (by omega)).mono ?_
  rintro e w2 ⟨t1, rfl, m, l⟩
  have L2 := Lib.hid (lo_on L1.out l)
  clear L1
  have hz2 : w1.heap.size ≤ w2.heap.size := l.size
  have X_t1 := Lib.hid m
  clear m l
  go_wp2_with fail
  refine (SP.out (by omega) t1 w2 X_t1.out.row).mono ?_
  rintro e w3 ⟨rfl, l⟩
  clear X_t1
  have L3 := Lib.hid (lo_on L2.out l)
  clear L2
  have hz3 : w2.heap.size ≤ w3.heap.size := l.size
  have LS := L3
  clear L3
  clear l SP
  have N3 := Lib.hid (Below.refl w3.heap.size w3)
  go_wp2_with fail
  refine (toLoads_mine a1 cap1 xs1 w3 (H1.out.lo (lo_on LS.out N3.out)) (by omega)).mono ?_
  rintro e w4 ⟨x1, rfl, m, l⟩
  have N4 := Lib.hid (lo_on N3.out l)
  clear N3
  have hz4 : w3.heap.size ≤ w4.heap.size := l.size
  have X_x1 := Lib.hid m
  clear m l
  obtain ⟨_, k0, k1, k2⟩ := BX.out.lo (lo_on LS.out N4.out)
  go_wp2_with fail
  clear k0 k1 k2
  refine (toRaft_any a0 w4).mono ?_
  rintro e w5 ⟨rfl, l⟩
  have N5 := Lib.hid (lo_on N4.out l)
  clear N4
  have hz5 : w4.heap.size ≤ w5.heap.size := l.size
  have x1_5 := Lib.hid (X_x1.out.lo l)
  clear X_x1
  clear l
  go_wp2_with fail
  refine (IM.out (by omega) x1 w5 x1_5.out.row).mono ?_
  rintro e w6 ⟨rfl, l⟩
  have N6 := Lib.hid (lo_on N5.out l)
  clear N5
  have hz6 : w5.heap.size ≤ w6.heap.size := l.size
  have x1_6 := Lib.hid (x1_5.out.lo l)
  clear x1_5
  clear l
  go_wp2_with fail
  refine (toLoads_mine a1 cap1 xs1 w6 (H1.out.lo (lo_on LS.out N6.out)) (by omega)).mono ?_
  rintro e w7 ⟨t2, rfl, m, l⟩
  have N7 := Lib.hid (lo_on N6.out l)
  clear N6
  have hz7 : w6.heap.size ≤ w7.heap.size := l.size
  have x1_7 := Lib.hid (x1_6.out.lo l)
  clear x1_6
  have X_t2 := Lib.hid m
  clear m l
  go_wp2_with fail
  refine (eqLoads_same x1 t2 xs1 w7 x1_7.out.row X_t2.out.row (by omega)).mono ?_
  rintro e w8 ⟨rfl, l⟩
  have N8 := Lib.hid (lo_on N7.out l)
  clear N7
  have hz8 : w7.heap.size ≤ w8.heap.size := l.size
  have x1_8 := Lib.hid (x1_7.out.lo l)
  clear x1_7
  have t2_8 := Lib.hid (X_t2.out.lo l)
  clear X_t2
  clear l
  clear t2_8
  go_wp2
  go_ret
  exact ⟨rfl, lo_on LW.out (lo_on LS.out N8.out)⟩
end Go.Proofs.Ytcfbnadefdcjaaa
