/- The walk of the law on IsRaft, from contracts of the two functions that it calls. -/
import Derived.Test.YtcfbnadefdcjaaaRfB
import Derived.Test.YtcfbnadefdcjaaaLoadLaw
import Derived.Test.YtcfbnadefdcjaaaLoadOwn
import Derived.Test.YtcfbnadefdcjaaaLoadM
import Derived.Test.YtcfbnadefdcjaaaIn
import Derived.Test.YtcfbnadefdcjaaaIntLaw
namespace Go.Proofs.Ytcfbnadefdcjaaa
open Go.RowKit
set_option maxRecDepth 100000 in
set_option maxHeartbeats 3200000 in
theorem exIsRaft_walk (a0 : RaftV) (w : World)  (r0 : Bool)
    (S : ∀ (w : World), Calls Try.prog 21 #[.agg #[.int .i64 a0.a, .int .i64 a0.b, .int .i64 a0.o]] w (fun e w' => e = .returned (.bool r0) ∧ Below w.heap.size w w'))
    (I : ∀ (w : World), Calls Try.prog 23 #[.agg #[.int .i64 a0.a, .int .i64 a0.b, .int .i64 a0.o]] w (fun e w' => e = .returned (.bool r0) ∧ Below w.heap.size w w')) :
    Calls Try.prog 3 #[.agg #[.int .i64 a0.a, .int .i64 a0.b, .int .i64 a0.o]] w fun e w' => e = .returned (.bool true) ∧ Below w.heap.size w w' := by
  have SP := Lib.hid S
  have IM := Lib.hid I
  clear S I
  obtain ⟨w0, hW⟩ : ∃ w0, w.alloc (.cells #[.int .i64 a0.a, .int .i64 a0.b, .int .i64 a0.o] 23) = w0 := ⟨_, rfl⟩
  have LW := Lib.hid (show Below w.heap.size w w0 by rw [← hW]; exact (Below.refl _ _).alloc (Nat.le_refl _) _)
  have BX := Lib.hid (show Cel3R w0 w.heap.size (.int .i64 a0.a) (.int .i64 a0.b) (.int .i64 a0.o) by rw [← hW]; exact cel3R_new _ _ _ _ _)
  have L0 := Lib.hid (Below.refl w0.heap.size w0)
  go_enter Try.func3, Try.ntmps3
  obtain ⟨_, k0, k1, k2⟩ := BX.out.lo L0.out
  go_wp2_with fail
  clear hW
  clear k0 k1 k2
  refine (toRaft_any a0 w0).mono ?_
  rintro e w1 ⟨rfl, l⟩
  have L1 := Lib.hid (lo_on L0.out l)
  clear L0
  have hz1 : w0.heap.size ≤ w1.heap.size := l.size
  clear l
  go_wp2_with fail
  refine (SP.out   w1 ).mono ?_
  rintro e w2 ⟨rfl, l⟩
  have L2 := Lib.hid (lo_on L1.out l)
  clear L1
  have hz2 : w1.heap.size ≤ w2.heap.size := l.size
  have LS := L2
  clear L2
  clear l SP
  have N2 := Lib.hid (Below.refl w2.heap.size w2)
  obtain ⟨_, k0, k1, k2⟩ := BX.out.lo (lo_on LS.out N2.out)
  go_wp2_with fail
  clear k0 k1 k2
  refine (toRaft_any a0 w2).mono ?_
  rintro e w3 ⟨rfl, l⟩
  have N3 := Lib.hid (lo_on N2.out l)
  clear N2
  have hz3 : w2.heap.size ≤ w3.heap.size := l.size
  clear l
  go_wp2_with fail
  refine (IM.out   w3 ).mono ?_
  rintro e w4 ⟨rfl, l⟩
  have N4 := Lib.hid (lo_on N3.out l)
  clear N3
  have hz4 : w3.heap.size ≤ w4.heap.size := l.size
  clear l
  go_wp2
  go_ret
  exact ⟨rfl, lo_on LW.out (lo_on LS.out N4.out)⟩
end Go.Proofs.Ytcfbnadefdcjaaa
