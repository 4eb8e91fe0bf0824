/- The walk of the law on WeighingsNeeded, from contracts of the two functions that it calls. -/
import Derived.Test.YtghpacgbkknhbaaIntLaw
import Derived.Test.YtghpacgbkknhbaaIn
namespace Go.Proofs.Ytghpacgbkknhbaa
open Go.RowKit
set_option maxRecDepth 100000 in
set_option maxHeartbeats 3200000 in
theorem exWeighingsNeeded_walk (a0 : Int) (w : World)  (r0 : Int) (r1 : Bool)
    (S : ∀ (w : World), Calls Try.prog 63 #[.int .i64 a0] w (fun e w' => e = .returned (.tuple #[.int .i64 r0, .bool r1]) ∧ Below w.heap.size w w'))
    (I : ∀ (w : World), Calls Try.prog 62 #[.int .i64 a0] w (fun e w' => e = .returned (.tuple #[.int .i64 r0, .bool r1]) ∧ Below w.heap.size w w')) :
    Calls Try.prog 20 #[.int .i64 a0] w fun e w' => e = .returned (.bool true) ∧ Below w.heap.size w w' := by
  have SP := Lib.hid S
  have IM := Lib.hid I
  clear S I
  have L0 := Lib.hid (Below.refl w.heap.size w)
  go_enter Try.func20, Try.ntmps20
  go_wp2_with fail
  refine (SP.out   w ).mono ?_
  rintro e w1 ⟨rfl, l⟩
  have L1 := Lib.hid (lo_on L0.out l)
  clear L0
  have hz1 : w.heap.size ≤ w1.heap.size := l.size
  have LS := L1
  clear L1
  clear l SP
  have N1 := Lib.hid (Below.refl w1.heap.size w1)
  go_wp2_with fail
  refine (IM.out   w1 ).mono ?_
  rintro e w2 ⟨rfl, l⟩
  have N2 := Lib.hid (lo_on N1.out l)
  clear N1
  have hz2 : w1.heap.size ≤ w2.heap.size := l.size
  clear l
  go_wp2
  go_ret
  exact ⟨rfl, lo_on LS.out N2.out⟩
end Go.Proofs.Ytghpacgbkknhbaa
