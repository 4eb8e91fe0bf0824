/- The walk of the law on CountZero, from contracts of the two functions that it calls. -/
import Derived.Test.YtgjchkcjlmklbaaLoadLaw
import Derived.Test.YtgjchkcjlmklbaaLoadOwn
import Derived.Test.YtgjchkcjlmklbaaLoadM
import Derived.Test.YtgjchkcjlmklbaaIn
namespace Go.Proofs.Ytgjchkcjlmklbaa
open Go.RowKit
set_option maxRecDepth 100000 in
set_option maxHeartbeats 3200000 in
theorem exCountZero_walk (a0 : Option Addr) (cap0 : Nat) (xs0 : List (Int × Int)) (a1 : Int) (w : World) (hn0 : xs0.length ≤ maxLen) (hr0 : LoadRow w (.slice a0 xs0.length cap0) xs0) (r0 : Int) (r1 : Bool)
    (S : xs0.length ≤ 1048576 → ∀ (v0 : Value) (w : World), LoadRow w v0 xs0 → Calls Try.prog 53 #[v0, .int .i64 a1] w (fun e w' => e = .returned (.tuple #[.int .i64 r0, .bool r1]) ∧ Below w.heap.size w w'))
    (I : xs0.length ≤ 1048576 → ∀ (v0 : Value) (w : World), LoadRow w v0 xs0 → Calls Try.prog 54 #[v0, .int .i64 a1] w (fun e w' => e = .returned (.tuple #[.int .i64 r0, .bool r1]) ∧ Below w.heap.size w w')) :
    Calls Try.prog 11 #[.slice a0 xs0.length cap0, .int .i64 a1] w fun e w' => e = .returned (.bool true) ∧ Below w.heap.size w w' := by
  have SP := Lib.hid S
  have IM := Lib.hid I
  clear S I
  have H0 := Lib.hid hr0
  clear hr0
  unfold maxLen at hn0
  have L0 := Lib.hid (Below.refl w.heap.size w)
  go_enter Try.func11, Try.ntmps11
  go_wp2_with fail
  refine (szLoad_any a0 _ cap0 w hn0).mono ?_
  rintro e w' ⟨z, rfl, rfl, hneg | ⟨z0, hb⟩⟩
  · go_wp2
    go_ret
    exact ⟨rfl, Below.refl _ _⟩
  go_wp2_with fail
  refine (toLoads_mine a0 cap0 xs0 w (H0.out.lo L0.out) (by omega)).mono ?_
  rintro e w1 ⟨t1, rfl, m, l⟩
  have L1 := Lib.hid (lo_on L0.out l)
  clear L0
  have hz1 : w.heap.size ≤ w1.heap.size := l.size
  have X_t1 := Lib.hid m
  clear m l
  go_wp2_with fail
  refine (SP.out (by omega) t1 w1 X_t1.out.row).mono ?_
  rintro e w2 ⟨rfl, l⟩
  clear X_t1
  have L2 := Lib.hid (lo_on L1.out l)
  clear L1
  have hz2 : w1.heap.size ≤ w2.heap.size := l.size
  have LS := L2
  clear L2
  clear l SP
  have N2 := Lib.hid (Below.refl w2.heap.size w2)
  go_wp2_with fail
  refine (toLoads_mine a0 cap0 xs0 w2 (H0.out.lo (lo_on LS.out N2.out)) (by omega)).mono ?_
  rintro e w3 ⟨x0, rfl, m, l⟩
  have N3 := Lib.hid (lo_on N2.out l)
  clear N2
  have hz3 : w2.heap.size ≤ w3.heap.size := l.size
  have X_x0 := Lib.hid m
  clear m l
  go_wp2_with fail
  refine (IM.out (by omega) x0 w3 X_x0.out.row).mono ?_
  rintro e w4 ⟨rfl, l⟩
  have N4 := Lib.hid (lo_on N3.out l)
  clear N3
  have hz4 : w3.heap.size ≤ w4.heap.size := l.size
  have x0_4 := Lib.hid (X_x0.out.lo l)
  clear X_x0
  clear l
  go_wp2_with fail
  refine (toLoads_mine a0 cap0 xs0 w4 (H0.out.lo (lo_on LS.out N4.out)) (by omega)).mono ?_
  rintro e w5 ⟨t2, rfl, m, l⟩
  have N5 := Lib.hid (lo_on N4.out l)
  clear N4
  have hz5 : w4.heap.size ≤ w5.heap.size := l.size
  have x0_5 := Lib.hid (x0_4.out.lo l)
  clear x0_4
  have X_t2 := Lib.hid m
  clear m l
  go_wp2_with fail
  refine (eqLoads_same x0 t2 xs0 w5 x0_5.out.row X_t2.out.row (by omega)).mono ?_
  rintro e w6 ⟨rfl, l⟩
  have N6 := Lib.hid (lo_on N5.out l)
  clear N5
  have hz6 : w5.heap.size ≤ w6.heap.size := l.size
  have x0_6 := Lib.hid (x0_5.out.lo l)
  clear x0_5
  have t2_6 := Lib.hid (X_t2.out.lo l)
  clear X_t2
  clear l
  clear t2_6
  go_wp2
  go_ret
  exact ⟨rfl, lo_on LS.out N6.out⟩
end Go.Proofs.Ytgjchkcjlmklbaa
