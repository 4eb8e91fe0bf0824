/- The walk of the law on HeavyPlan, from contracts of the two functions that it calls. -/
import Derived.Test.YtgdgiecajflmaabTabLaw
import Derived.Test.YtgdgiecajflmaabIn
namespace Go.Proofs.Ytgdgiecajflmaab
open Go.RowKit
set_option maxRecDepth 100000 in
set_option maxHeartbeats 3200000 in
theorem exHeavyPlan_walk (a0 : Int) (w : World)  (ys0 : List (List Int)) (hy0 : SmallT ys0) (r1 : Bool)
    (S : ∀ (w : World), Calls Try.prog 6 #[.int .i64 a0] w (fun e w' => ∃ u0, e = .returned (.tuple #[u0, .bool r1]) ∧ TabRow w' u0 ys0 ∧ Below w.heap.size w w'))
    (I : ∀ (w : World), Calls Try.prog 7 #[.int .i64 a0] w (fun e w' => ∃ u0, e = .returned (.tuple #[u0, .bool r1]) ∧ MineT w' w.heap.size w'.heap.size u0 ys0 ∧ Below w.heap.size w w')) :
    Calls Try.prog 3 #[.int .i64 a0] w fun e w' => e = .returned (.bool true) ∧ Below w.heap.size w w' := by
  have SP := Lib.hid S
  have IM := Lib.hid I
  clear S I
  have L0 := Lib.hid (Below.refl w.heap.size w)
  go_enter Try.func3, Try.ntmps3
  go_wp2_with fail
  refine (SP.out   w ).mono ?_
  rintro e w1 ⟨s0, rfl, m0, l⟩
  have L1 := Lib.hid (lo_on L0.out l)
  clear L0
  have hz1 : w.heap.size ≤ w1.heap.size := l.size
  have LS := L1
  clear L1
  have RS0 := Lib.hid m0
  clear m0
  clear l SP
  have N1 := Lib.hid (Below.refl w1.heap.size w1)
  go_wp2_with fail
  refine (IM.out   w1 ).mono ?_
  rintro e w2 ⟨g0, rfl, m0, l⟩
  have N2 := Lib.hid (lo_on N1.out l)
  clear N1
  have hz2 : w1.heap.size ≤ w2.heap.size := l.size
  have X_g0 := Lib.hid m0
  clear m0
  clear l
  go_wp2_with fail
  refine (eqTab_same g0 s0 ys0 w2 X_g0.out.row (RS0.out.lo N2.out) hy0).mono ?_
  rintro e w3 ⟨rfl, l⟩
  have N3 := Lib.hid (lo_on N2.out l)
  clear N2
  have hz3 : w2.heap.size ≤ w3.heap.size := l.size
  have g0_3 := Lib.hid (X_g0.out.lo l)
  clear X_g0
  clear l
  go_wp2_with fail
  refine (markT_mine w1.heap.size w2.heap.size g0 ys0 (1) w3 g0_3.out hy0 (by omega)).mono ?_
  rintro e w4 ⟨rfl, p, hh⟩
  have N4 := Lib.hid (N3.out.trans ((p.below (by omega)).mono (by omega)))
  clear N3
  have hz4 : w3.heap.size ≤ w4.heap.size := p.size
  clear g0_3
  have Y_g0 := Lib.hid hh
  clear p hh
  go_wp2_with fail
  refine (heldT_held w1.heap.size w2.heap.size g0 ys0 (1) w4 Y_g0.out hy0 (by omega)).mono ?_
  rintro e w' ⟨rfl, rfl⟩
  go_wp2_with fail
  refine (IM.out   w4 ).mono ?_
  rintro e w5 ⟨h0, rfl, m0, l⟩
  have N5 := Lib.hid (lo_on N4.out l)
  clear N4
  have hz5 : w4.heap.size ≤ w5.heap.size := l.size
  have held_g0_5 := Lib.hid (Y_g0.out.lo l)
  clear Y_g0
  have X_h0 := Lib.hid m0
  clear m0
  clear l
  go_wp2_with fail
  refine (eqTab_same h0 s0 ys0 w5 X_h0.out.row (RS0.out.lo N5.out) hy0).mono ?_
  rintro e w6 ⟨rfl, l⟩
  have N6 := Lib.hid (lo_on N5.out l)
  clear N5
  have hz6 : w5.heap.size ≤ w6.heap.size := l.size
  have held_g0_6 := Lib.hid (held_g0_5.out.lo l)
  clear held_g0_5
  have h0_6 := Lib.hid (X_h0.out.lo l)
  clear X_h0
  clear l
  go_wp2_with fail
  refine (heldT_held w1.heap.size w2.heap.size g0 ys0 (1) w6 held_g0_6.out hy0 (by omega)).mono ?_
  rintro e w' ⟨rfl, rfl⟩
  go_wp2
  go_ret
  exact ⟨rfl, lo_on LS.out N6.out⟩
end Go.Proofs.Ytgdgiecajflmaab
