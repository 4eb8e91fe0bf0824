/- The walk of the law on CountTilts, from contracts of the two functions that it calls. -/
import Derived.Test.YtgjchkcjlmklbaaIntLaw
import Derived.Test.YtgjchkcjlmklbaaIn
namespace Go.Proofs.Ytgjchkcjlmklbaa
open Go.RowKit
set_option maxRecDepth 100000 in
set_option maxHeartbeats 3200000 in
theorem exCountTilts_walk (a0 : Option Addr) (cap0 : Nat) (xs0 : List Int) (a1 : Option Addr) (cap1 : Nat) (xs1 : List Int) (a2 : Int) (w : World) (hn0 : xs0.length ≤ maxLen) (hr0 : IntRow w (.slice a0 xs0.length cap0) xs0) (hn1 : xs1.length ≤ maxLen) (hr1 : IntRow w (.slice a1 xs1.length cap1) xs1) (r0 : Int) (r1 : Bool)
    (S : xs0.length ≤ 1048576 → xs1.length ≤ 1048576 → ∀ (v0 : Value) (v1 : Value) (w : World), IntRow w v0 xs0 → IntRow w v1 xs1 → Calls Try.prog 42 #[v0, v1, .int .i64 a2] w (fun e w' => e = .returned (.tuple #[.int .i64 r0, .bool r1]) ∧ Below w.heap.size w w'))
    (I : xs0.length ≤ 1048576 → xs1.length ≤ 1048576 → ∀ (v0 : Value) (v1 : Value) (w : World), IntRow w v0 xs0 → IntRow w v1 xs1 → Calls Try.prog 43 #[v0, v1, .int .i64 a2] w (fun e w' => e = .returned (.tuple #[.int .i64 r0, .bool r1]) ∧ Below w.heap.size w w')) :
    Calls Try.prog 8 #[.slice a0 xs0.length cap0, .slice a1 xs1.length cap1, .int .i64 a2] w fun e w' => e = .returned (.bool true) ∧ Below w.heap.size w w' := by
  have SP := Lib.hid S
  have IM := Lib.hid I
  clear S I
  have H0 := Lib.hid hr0
  clear hr0
  unfold maxLen at hn0
  have H1 := Lib.hid hr1
  clear hr1
  unfold maxLen at hn1
  by_cases hg0 : xs0.length ≤ 1048576
  case neg =>
    have hg' : (1048576 : Int) < (xs0.length : Int) := by omega
    go_enter Try.func8, Try.ntmps8
    go_wp2
    go_ret
    exact ⟨rfl, Below.refl _ _⟩
  have hf0 : ¬ (1048576 : Int) < (xs0.length : Int) := by omega
  by_cases hg1 : xs1.length ≤ 1048576
  case neg =>
    have hg' : (1048576 : Int) < (xs1.length : Int) := by omega
    go_enter Try.func8, Try.ntmps8
    go_wp2
    go_ret
    exact ⟨rfl, Below.refl _ _⟩
  have hf1 : ¬ (1048576 : Int) < (xs1.length : Int) := by omega
  have L0 := Lib.hid (Below.refl w.heap.size w)
  go_enter Try.func8, Try.ntmps8
  go_wp2_with fail
  refine (toInts_any a0 cap0 xs0 w (H0.out.lo L0.out) (by omega)).mono ?_
  rintro e w1 ⟨t1, rfl, m, l⟩
  have L1 := Lib.hid (lo_on L0.out l)
  clear L0
  have hz1 : w.heap.size ≤ w1.heap.size := l.size
  have X_t1 := Lib.hid m
  clear m l
  go_wp2_with fail
  refine (toInts_any a1 cap1 xs1 w1 (H1.out.lo L1.out) (by omega)).mono ?_
  rintro e w2 ⟨t2, rfl, m, l⟩
  have L2 := Lib.hid (lo_on L1.out l)
  clear L1
  have hz2 : w1.heap.size ≤ w2.heap.size := l.size
  have t1_2 := Lib.hid (X_t1.out.lo l)
  clear X_t1
  have X_t2 := Lib.hid m
  clear m l
  go_wp2_with fail
  refine (SP.out (by omega) (by omega) t1 t2 w2 t1_2.out.row X_t2.out.row).mono ?_
  rintro e w3 ⟨rfl, l⟩
  clear t1_2
  clear X_t2
  have L3 := Lib.hid (lo_on L2.out l)
  clear L2
  have hz3 : w2.heap.size ≤ w3.heap.size := l.size
  have LS := L3
  clear L3
  clear l SP
  have N3 := Lib.hid (Below.refl w3.heap.size w3)
  go_wp2_with fail
  refine (toInts_any a0 cap0 xs0 w3 (H0.out.lo (lo_on LS.out N3.out)) (by omega)).mono ?_
  rintro e w4 ⟨x0, rfl, m, l⟩
  have N4 := Lib.hid (lo_on N3.out l)
  clear N3
  have hz4 : w3.heap.size ≤ w4.heap.size := l.size
  have X_x0 := Lib.hid m
  clear m l
  go_wp2_with fail
  refine (toInts_any a1 cap1 xs1 w4 (H1.out.lo (lo_on LS.out N4.out)) (by omega)).mono ?_
  rintro e w5 ⟨x1, rfl, m, l⟩
  have N5 := Lib.hid (lo_on N4.out l)
  clear N4
  have hz5 : w4.heap.size ≤ w5.heap.size := l.size
  have x0_5 := Lib.hid (X_x0.out.lo l)
  clear X_x0
  have X_x1 := Lib.hid m
  clear m l
  go_wp2_with fail
  refine (IM.out (by omega) (by omega) x0 x1 w5 x0_5.out.row X_x1.out.row).mono ?_
  rintro e w6 ⟨rfl, l⟩
  have N6 := Lib.hid (lo_on N5.out l)
  clear N5
  have hz6 : w5.heap.size ≤ w6.heap.size := l.size
  have x0_6 := Lib.hid (x0_5.out.lo l)
  clear x0_5
  have x1_6 := Lib.hid (X_x1.out.lo l)
  clear X_x1
  clear l
  go_wp2_with fail
  refine (toInts_any a0 cap0 xs0 w6 (H0.out.lo (lo_on LS.out N6.out)) (by omega)).mono ?_
  rintro e w7 ⟨t3, rfl, m, l⟩
  have N7 := Lib.hid (lo_on N6.out l)
  clear N6
  have hz7 : w6.heap.size ≤ w7.heap.size := l.size
  have x0_7 := Lib.hid (x0_6.out.lo l)
  clear x0_6
  have x1_7 := Lib.hid (x1_6.out.lo l)
  clear x1_6
  have X_t3 := Lib.hid m
  clear m l
  go_wp2_with fail
  refine (eqInts_same x0 t3 xs0 w7 x0_7.out.row X_t3.out.row (by omega)).mono ?_
  rintro e w8 ⟨rfl, l⟩
  have N8 := Lib.hid (lo_on N7.out l)
  clear N7
  have hz8 : w7.heap.size ≤ w8.heap.size := l.size
  have x0_8 := Lib.hid (x0_7.out.lo l)
  clear x0_7
  have x1_8 := Lib.hid (x1_7.out.lo l)
  clear x1_7
  have t3_8 := Lib.hid (X_t3.out.lo l)
  clear X_t3
  clear l
  clear t3_8
  go_wp2_with fail
  refine (toInts_any a1 cap1 xs1 w8 (H1.out.lo (lo_on LS.out N8.out)) (by omega)).mono ?_
  rintro e w9 ⟨t4, rfl, m, l⟩
  have N9 := Lib.hid (lo_on N8.out l)
  clear N8
  have hz9 : w8.heap.size ≤ w9.heap.size := l.size
  have x0_9 := Lib.hid (x0_8.out.lo l)
  clear x0_8
  have x1_9 := Lib.hid (x1_8.out.lo l)
  clear x1_8
  have X_t4 := Lib.hid m
  clear m l
  go_wp2_with fail
  refine (eqInts_same x1 t4 xs1 w9 x1_9.out.row X_t4.out.row (by omega)).mono ?_
  rintro e w10 ⟨rfl, l⟩
  have N10 := Lib.hid (lo_on N9.out l)
  clear N9
  have hz10 : w9.heap.size ≤ w10.heap.size := l.size
  have x0_10 := Lib.hid (x0_9.out.lo l)
  clear x0_9
  have x1_10 := Lib.hid (x1_9.out.lo l)
  clear x1_9
  have t4_10 := Lib.hid (X_t4.out.lo l)
  clear X_t4
  clear l
  clear t4_10
  go_wp2
  go_ret
  exact ⟨rfl, lo_on LS.out N10.out⟩
end Go.Proofs.Ytgjchkcjlmklbaa
