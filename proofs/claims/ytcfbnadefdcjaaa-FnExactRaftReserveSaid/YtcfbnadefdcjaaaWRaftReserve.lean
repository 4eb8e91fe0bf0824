/- The walk of the law on RaftReserve, from contracts of the two functions that it calls. -/
import Derived.Test.YtcfbnadefdcjaaaRfB
import Derived.Test.YtcfbnadefdcjaaaLoadLaw
import Derived.Test.YtcfbnadefdcjaaaLoadOwn
import Derived.Test.YtcfbnadefdcjaaaLoadM
import Derived.Test.YtcfbnadefdcjaaaIn
import Derived.Test.YtcfbnadefdcjaaaIntLaw
namespace Go.Proofs.Ytcfbnadefdcjaaa
open Go.RowKit
set_option maxRecDepth 100000 in
set_option maxHeartbeats 3200000 in
theorem exRaftReserve_walk (a0 : RaftV) (a1 : Option Addr) (cap1 : Nat) (xs1 : List (Int × Int)) (a2 : Option Addr) (cap2 : Nat) (xs2 : List Int) (w : World) (hn1 : xs1.length ≤ maxLen) (hr1 : LoadRow w (.slice a1 xs1.length cap1) xs1) (hn2 : xs2.length ≤ maxLen) (hr2 : IntRow w (.slice a2 xs2.length cap2) xs2) (r0 : Int) (r1 : Int) (r2 : Bool)
    (S : xs1.length ≤ 1048576 → xs2.length ≤ 1048576 → ∀ (v1 : Value) (v2 : Value) (w : World), LoadRow w v1 xs1 → IntRow w v2 xs2 → Calls Try.prog 31 #[.agg #[.int .i64 a0.a, .int .i64 a0.b, .int .i64 a0.o], v1, v2] w (fun e w' => e = .returned (.tuple #[.int .i64 r0, .int .i64 r1, .bool r2]) ∧ Below w.heap.size w w'))
    (I : xs1.length ≤ 1048576 → xs2.length ≤ 1048576 → ∀ (v1 : Value) (v2 : Value) (w : World), LoadRow w v1 xs1 → IntRow w v2 xs2 → Calls Try.prog 32 #[.agg #[.int .i64 a0.a, .int .i64 a0.b, .int .i64 a0.o], v1, v2] w (fun e w' => e = .returned (.tuple #[.int .i64 r0, .int .i64 r1, .bool r2]) ∧ Below w.heap.size w w')) :
    Calls Try.prog 5 #[.agg #[.int .i64 a0.a, .int .i64 a0.b, .int .i64 a0.o], .slice a1 xs1.length cap1, .slice a2 xs2.length cap2] w fun e w' => e = .returned (.bool true) ∧ Below w.heap.size w w' := by
  have SP := Lib.hid S
  have IM := Lib.hid I
  clear S I
  have H1 := Lib.hid hr1
  clear hr1
  unfold maxLen at hn1
  have H2 := Lib.hid hr2
  clear hr2
  unfold maxLen at hn2
  by_cases hg2 : xs2.length ≤ 1048576
  case neg =>
    have hg' : (1048576 : Int) < (xs2.length : Int) := by omega
    go_enter Try.func5, Try.ntmps5
    go_wp2
    go_ret
    exact ⟨rfl, by first | exact Below.refl _ _ | exact (Below.refl _ _).alloc (Nat.le_refl _) _⟩
  have hf2 : ¬ (1048576 : Int) < (xs2.length : Int) := by omega
  obtain ⟨w0, hW⟩ : ∃ w0, w.alloc (.cells #[.int .i64 a0.a, .int .i64 a0.b, .int .i64 a0.o] 23) = w0 := ⟨_, rfl⟩
  have LW := Lib.hid (show Below w.heap.size w w0 by rw [← hW]; exact (Below.refl _ _).alloc (Nat.le_refl _) _)
  have BX := Lib.hid (show Cel3R w0 w.heap.size (.int .i64 a0.a) (.int .i64 a0.b) (.int .i64 a0.o) by rw [← hW]; exact cel3R_new _ _ _ _ _)
  have H1 := Lib.hid (H1.out.lo LW.out)
  have H2 := Lib.hid (H2.out.lo LW.out)
  have L0 := Lib.hid (Below.refl w0.heap.size w0)
  go_enter Try.func5, Try.ntmps5
  go_wp2_with fail
  clear hW
  refine (szLoad_any a1 _ cap1 w0 hn1).mono ?_
  rintro e w' ⟨z, rfl, rfl, hneg | ⟨z0, hb⟩⟩
  · go_wp2
    go_ret
    exact ⟨rfl, LW.out⟩
  obtain ⟨_, k0, k1, k2⟩ := BX.out.lo L0.out
  go_wp2_with fail
  clear k0 k1 k2
  refine (toRaft_any a0 w0).mono ?_
  rintro e w1 ⟨rfl, l⟩
  have L1 := Lib.hid (lo_on L0.out l)
  clear L0
  have hz1 : w0.heap.size ≤ w1.heap.size := l.size
  clear l
  go_wp2_with fail
  refine (toLoads_mine a1 cap1 xs1 w1 (H1.out.lo L1.out) (by omega)).mono ?_
  rintro e w2 ⟨t1, rfl, m, l⟩
  have L2 := Lib.hid (lo_on L1.out l)
  clear L1
  have hz2 : w1.heap.size ≤ w2.heap.size := l.size
  have X_t1 := Lib.hid m
  clear m l
  go_wp2_with fail
  refine (toInts_any a2 cap2 xs2 w2 (H2.out.lo L2.out) (by omega)).mono ?_
  rintro e w3 ⟨t2, rfl, m, l⟩
  have L3 := Lib.hid (lo_on L2.out l)
  clear L2
  have hz3 : w2.heap.size ≤ w3.heap.size := l.size
  have t1_3 := Lib.hid (X_t1.out.lo l)
  clear X_t1
  have X_t2 := Lib.hid m
  clear m l
  go_wp2_with fail
  refine (SP.out (by omega) (by omega) t1 t2 w3 t1_3.out.row X_t2.out.row).mono ?_
  rintro e w4 ⟨rfl, l⟩
  clear t1_3
  clear X_t2
  have L4 := Lib.hid (lo_on L3.out l)
  clear L3
  have hz4 : w3.heap.size ≤ w4.heap.size := l.size
  have LS := L4
  clear L4
  clear l SP
  have N4 := Lib.hid (Below.refl w4.heap.size w4)
  go_wp2_with fail
  refine (toLoads_mine a1 cap1 xs1 w4 (H1.out.lo (lo_on LS.out N4.out)) (by omega)).mono ?_
  rintro e w5 ⟨x1, rfl, m, l⟩
  have N5 := Lib.hid (lo_on N4.out l)
  clear N4
  have hz5 : w4.heap.size ≤ w5.heap.size := l.size
  have X_x1 := Lib.hid m
  clear m l
  go_wp2_with fail
  refine (toInts_any a2 cap2 xs2 w5 (H2.out.lo (lo_on LS.out N5.out)) (by omega)).mono ?_
  rintro e w6 ⟨x2, rfl, m, l⟩
  have N6 := Lib.hid (lo_on N5.out l)
  clear N5
  have hz6 : w5.heap.size ≤ w6.heap.size := l.size
  have x1_6 := Lib.hid (X_x1.out.lo l)
  clear X_x1
  have X_x2 := Lib.hid m
  clear m l
  obtain ⟨_, k0, k1, k2⟩ := BX.out.lo (lo_on LS.out N6.out)
  go_wp2_with fail
  clear k0 k1 k2
  refine (toRaft_any a0 w6).mono ?_
  rintro e w7 ⟨rfl, l⟩
  have N7 := Lib.hid (lo_on N6.out l)
  clear N6
  have hz7 : w6.heap.size ≤ w7.heap.size := l.size
  have x1_7 := Lib.hid (x1_6.out.lo l)
  clear x1_6
  have x2_7 := Lib.hid (X_x2.out.lo l)
  clear X_x2
  clear l
  go_wp2_with fail
  refine (IM.out (by omega) (by omega) x1 x2 w7 x1_7.out.row x2_7.out.row).mono ?_
  rintro e w8 ⟨rfl, l⟩
  have N8 := Lib.hid (lo_on N7.out l)
  clear N7
  have hz8 : w7.heap.size ≤ w8.heap.size := l.size
  have x1_8 := Lib.hid (x1_7.out.lo l)
  clear x1_7
  have x2_8 := Lib.hid (x2_7.out.lo l)
  clear x2_7
  clear l
  go_wp2_with fail
  refine (toLoads_mine a1 cap1 xs1 w8 (H1.out.lo (lo_on LS.out N8.out)) (by omega)).mono ?_
  rintro e w9 ⟨t3, rfl, m, l⟩
  have N9 := Lib.hid (lo_on N8.out l)
  clear N8
  have hz9 : w8.heap.size ≤ w9.heap.size := l.size
  have x1_9 := Lib.hid (x1_8.out.lo l)
  clear x1_8
  have x2_9 := Lib.hid (x2_8.out.lo l)
  clear x2_8
  have X_t3 := Lib.hid m
  clear m l
  go_wp2_with fail
  refine (eqLoads_same x1 t3 xs1 w9 x1_9.out.row X_t3.out.row (by omega)).mono ?_
  rintro e w10 ⟨rfl, l⟩
  have N10 := Lib.hid (lo_on N9.out l)
  clear N9
  have hz10 : w9.heap.size ≤ w10.heap.size := l.size
  have x1_10 := Lib.hid (x1_9.out.lo l)
  clear x1_9
  have x2_10 := Lib.hid (x2_9.out.lo l)
  clear x2_9
  have t3_10 := Lib.hid (X_t3.out.lo l)
  clear X_t3
  clear l
  clear t3_10
  go_wp2_with fail
  refine (toInts_any a2 cap2 xs2 w10 (H2.out.lo (lo_on LS.out N10.out)) (by omega)).mono ?_
  rintro e w11 ⟨t4, rfl, m, l⟩
  have N11 := Lib.hid (lo_on N10.out l)
  clear N10
  have hz11 : w10.heap.size ≤ w11.heap.size := l.size
  have x1_11 := Lib.hid (x1_10.out.lo l)
  clear x1_10
  have x2_11 := Lib.hid (x2_10.out.lo l)
  clear x2_10
  have X_t4 := Lib.hid m
  clear m l
  go_wp2_with fail
  refine (eqInts_same x2 t4 xs2 w11 x2_11.out.row X_t4.out.row (by omega)).mono ?_
  rintro e w12 ⟨rfl, l⟩
  have N12 := Lib.hid (lo_on N11.out l)
  clear N11
  have hz12 : w11.heap.size ≤ w12.heap.size := l.size
  have x1_12 := Lib.hid (x1_11.out.lo l)
  clear x1_11
  have x2_12 := Lib.hid (x2_11.out.lo l)
  clear x2_11
  have t4_12 := Lib.hid (X_t4.out.lo l)
  clear X_t4
  clear l
  clear t4_12
  go_wp2
  go_ret
  exact ⟨rfl, lo_on LW.out (lo_on LS.out N12.out)⟩
end Go.Proofs.Ytcfbnadefdcjaaa
