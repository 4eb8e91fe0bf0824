/- The walk of the law on TellsHeavy, from contracts of the two functions that it calls. -/
import Derived.Test.YtghpacgbkknhbaaTabLaw
import Derived.Test.YtghpacgbkknhbaaIn
namespace Go.Proofs.Ytghpacgbkknhbaa
open Go.RowKit
set_option maxRecDepth 100000 in
set_option maxHeartbeats 3200000 in
theorem exTellsHeavy_walk (a0 : Int) (a1 : Option Addr) (cap1 : Nat) (xs1 : List (List Int)) (w : World) (hn1 : xs1.length ≤ maxLen) (hr1 : TabRow w (.slice a1 xs1.length cap1) xs1) (hin1 : ∀ r ∈ xs1, r.length ≤ maxLen) (r0 : Bool) (r1 : Bool)
    (S : SmallT xs1 → ∀ (v1 : Value) (w : World), TabRow w v1 xs1 → Calls Try.prog 52 #[.int .i64 a0, v1] w (fun e w' => e = .returned (.tuple #[.bool r0, .bool r1]) ∧ Below w.heap.size w w'))
    (I : SmallT xs1 → ∀ (v1 : Value) (w : World), TabRow w v1 xs1 → Calls Try.prog 51 #[.int .i64 a0, v1] w (fun e w' => e = .returned (.tuple #[.bool r0, .bool r1]) ∧ Below w.heap.size w w')) :
    Calls Try.prog 17 #[.int .i64 a0, .slice a1 xs1.length cap1] w fun e w' => e = .returned (.bool true) ∧ Below w.heap.size w w' := by
  have SP := Lib.hid S
  have IM := Lib.hid I
  clear S I
  have H1 := Lib.hid hr1
  clear hr1
  unfold maxLen at hn1
  have HI1 := Lib.hid hin1
  clear hin1
  have L0 := Lib.hid (Below.refl w.heap.size w)
  go_enter Try.func17, Try.ntmps17
  go_wp2_with fail
  refine (szTab_any a1 cap1 xs1 w H1.out hn1 HI1.out).mono ?_
  rintro e w' ⟨z, rfl, rfl, hneg | ⟨z0, hb⟩⟩
  · go_wp2
    go_ret
    exact ⟨rfl, Below.refl _ _⟩
  have HB1 := Lib.hid hb
  clear hb
  go_wp2_with fail
  refine (toTab_any a1 cap1 xs1 w (H1.out.lo L0.out) HB1.out).mono ?_
  rintro e w1 ⟨t1, rfl, m, l⟩
  have L1 := Lib.hid (lo_on L0.out l)
  clear L0
  have hz1 : w.heap.size ≤ w1.heap.size := l.size
  have X_t1 := Lib.hid m
  clear m l
  go_wp2_with fail
  refine (SP.out HB1.out t1 w1 X_t1.out.row).mono ?_
  rintro e w2 ⟨rfl, l⟩
  clear X_t1
  have L2 := Lib.hid (lo_on L1.out l)
  clear L1
  have hz2 : w1.heap.size ≤ w2.heap.size := l.size
  have LS := L2
  clear L2
  clear l SP
  have N2 := Lib.hid (Below.refl w2.heap.size w2)
  go_wp2_with fail
  refine (toTab_any a1 cap1 xs1 w2 (H1.out.lo (lo_on LS.out N2.out)) HB1.out).mono ?_
  rintro e w3 ⟨x1, rfl, m, l⟩
  have N3 := Lib.hid (lo_on N2.out l)
  clear N2
  have hz3 : w2.heap.size ≤ w3.heap.size := l.size
  have X_x1 := Lib.hid m
  clear m l
  go_wp2_with fail
  refine (IM.out HB1.out x1 w3 X_x1.out.row).mono ?_
  rintro e w4 ⟨rfl, l⟩
  have N4 := Lib.hid (lo_on N3.out l)
  clear N3
  have hz4 : w3.heap.size ≤ w4.heap.size := l.size
  have x1_4 := Lib.hid (X_x1.out.lo l)
  clear X_x1
  clear l
  go_wp2_with fail
  refine (toTab_any a1 cap1 xs1 w4 (H1.out.lo (lo_on LS.out N4.out)) HB1.out).mono ?_
  rintro e w5 ⟨t2, rfl, m, l⟩
  have N5 := Lib.hid (lo_on N4.out l)
  clear N4
  have hz5 : w4.heap.size ≤ w5.heap.size := l.size
  have x1_5 := Lib.hid (x1_4.out.lo l)
  clear x1_4
  have X_t2 := Lib.hid m
  clear m l
  go_wp2_with fail
  refine (eqTab_same x1 t2 xs1 w5 x1_5.out.row X_t2.out.row HB1.out).mono ?_
  rintro e w6 ⟨rfl, l⟩
  have N6 := Lib.hid (lo_on N5.out l)
  clear N5
  have hz6 : w5.heap.size ≤ w6.heap.size := l.size
  have x1_6 := Lib.hid (x1_5.out.lo l)
  clear x1_5
  have t2_6 := Lib.hid (X_t2.out.lo l)
  clear X_t2
  clear l
  clear t2_6
  go_wp2
  go_ret
  exact ⟨rfl, lo_on LS.out N6.out⟩
end Go.Proofs.Ytghpacgbkknhbaa
