/- Walks of the laws on counters. -/
import Derived.Test.YtjchmjbgboeolaaCount6
import Derived.Test.YtjchmjbgboeolaaExRow
namespace Go.Proofs.Ytjchmjbgboeolaa
open Go.RowKit
theorem exStandPlaces_walk (a : Option Addr) (len cap : Nat) (zs : List (Int × Int)) (m0 : Int) (m1 : Int) (m2 : Int) (w : World) (h : IsPairs .i64 w a len cap zs)
    (B : ∃ (x0 x1 : Int) (r : Bool), (∀ v w, SRow w v zs → Calls Try.prog 24 #[v, .int .i64 m0, .int .i64 m1, .int .i64 m2] w fun e w' => e = .returned (.tuple #[.int .i64 x0, .int .i64 x1, .bool r]) ∧ Below w.heap.size w w') ∧
      (∀ v w, SRow w v zs → Calls Try.prog 25 #[v, .int .i64 m0, .int .i64 m1, .int .i64 m2] w fun e w' => e = .returned (.tuple #[.int .i64 x0, .int .i64 x1, .bool r]) ∧ Below w.heap.size w w')) :
    Calls Try.prog 7 #[.slice a len cap, .int .i64 m0, .int .i64 m1, .int .i64 m2] w fun e w' => e = .returned (.bool true) ∧ Below w.heap.size w w' := by
  obtain ⟨rfl, hn, hr⟩ := pairs_row h
  obtain ⟨x0, x1, r, S, I⟩ := B
  have HR := Lib.hid hr
  have SP := Lib.hid S
  have IM := Lib.hid I
  clear h hr S I
  go_enter Try.func7, Try.ntmps7
  go_wp2_with fail
  refine (szLoad_any a _ cap w hn).mono ?_
  rintro e w' ⟨z, rfl, rfl, hneg | ⟨z0, hn2⟩⟩
  · go_wp2
    go_ret
    exact ⟨rfl, Below.refl _ _⟩
  · go_wp2_with fail
    refine (toLoads_any a cap zs w HR.out (by omega)).mono ?_
    rintro e w1 ⟨rfl, t1, l1⟩
    have S1 := Lib.hid (SP.out _ w1 (sRow_to t1))
    go_wp2_with fail
    refine S1.out.mono ?_
    rintro e w1' ⟨rfl, l1'⟩
    have L1 := lo_on l1 l1'
    clear S1
    go_wp2_with fail
    refine (toLoads_any a cap zs w1' (HR.out.lo L1) (by omega)).mono ?_
    rintro e w2 ⟨rfl, t2, l2⟩
    have L2 := lo_on L1 l2
    have I2 := Lib.hid (IM.out _ w2 (sRow_to t2))
    go_wp2_with fail
    refine I2.out.mono ?_
    rintro e w3 ⟨rfl, l3⟩
    have L3 := lo_on L2 l3
    clear I2
    go_wp2_with fail
    refine (toLoads_any a cap zs w3 (HR.out.lo L3) (by omega)).mono ?_
    rintro e w4 ⟨rfl, t4, l4⟩
    have L4 := lo_on L3 l4
    go_wp2_with fail
    refine (eqLoads_same _ _ zs w4 ((t2.lo l3).lo l4) t4 (by omega)).mono ?_
    rintro e w5 ⟨rfl, l5⟩
    go_wp2
    go_ret
    exact ⟨rfl, lo_on L4 l5⟩
theorem exLeastCounter_walk (a : Option Addr) (len cap : Nat) (zs : List (Int × Int)) (m0 : Int) (m1 : Int) (m2 : Int) (w : World) (h : IsPairs .i64 w a len cap zs)
    (B : ∃ (x0 : Int) (r : Bool), (∀ v w, SRow w v zs → Calls Try.prog 26 #[v, .int .i64 m0, .int .i64 m1, .int .i64 m2] w fun e w' => e = .returned (.tuple #[.int .i64 x0, .bool r]) ∧ Below w.heap.size w w') ∧
      (∀ v w, SRow w v zs → Calls Try.prog 27 #[v, .int .i64 m0, .int .i64 m1, .int .i64 m2] w fun e w' => e = .returned (.tuple #[.int .i64 x0, .bool r]) ∧ Below w.heap.size w w')) :
    Calls Try.prog 8 #[.slice a len cap, .int .i64 m0, .int .i64 m1, .int .i64 m2] w fun e w' => e = .returned (.bool true) ∧ Below w.heap.size w w' := by
  obtain ⟨rfl, hn, hr⟩ := pairs_row h
  obtain ⟨x0, r, S, I⟩ := B
  have HR := Lib.hid hr
  have SP := Lib.hid S
  have IM := Lib.hid I
  clear h hr S I
  go_enter Try.func8, Try.ntmps8
  go_wp2_with fail
  refine (szLoad_any a _ cap w hn).mono ?_
  rintro e w' ⟨z, rfl, rfl, hneg | ⟨z0, hn2⟩⟩
  · go_wp2
    go_ret
    exact ⟨rfl, Below.refl _ _⟩
  · go_wp2_with fail
    refine (toLoads_any a cap zs w HR.out (by omega)).mono ?_
    rintro e w1 ⟨rfl, t1, l1⟩
    have S1 := Lib.hid (SP.out _ w1 (sRow_to t1))
    go_wp2_with fail
    refine S1.out.mono ?_
    rintro e w1' ⟨rfl, l1'⟩
    have L1 := lo_on l1 l1'
    clear S1
    go_wp2_with fail
    refine (toLoads_any a cap zs w1' (HR.out.lo L1) (by omega)).mono ?_
    rintro e w2 ⟨rfl, t2, l2⟩
    have L2 := lo_on L1 l2
    have I2 := Lib.hid (IM.out _ w2 (sRow_to t2))
    go_wp2_with fail
    refine I2.out.mono ?_
    rintro e w3 ⟨rfl, l3⟩
    have L3 := lo_on L2 l3
    clear I2
    go_wp2_with fail
    refine (toLoads_any a cap zs w3 (HR.out.lo L3) (by omega)).mono ?_
    rintro e w4 ⟨rfl, t4, l4⟩
    have L4 := lo_on L3 l4
    go_wp2_with fail
    refine (eqLoads_same _ _ zs w4 ((t2.lo l3).lo l4) t4 (by omega)).mono ?_
    rintro e w5 ⟨rfl, l5⟩
    go_wp2
    go_ret
    exact ⟨rfl, lo_on L4 l5⟩
theorem exMostExtra_walk (a : Option Addr) (len cap : Nat) (zs : List (Int × Int)) (m0 : Int) (m1 : Int) (m2 : Int) (w : World) (h : IsPairs .i64 w a len cap zs)
    (B : ∃ (x0 : Int) (r : Bool), (∀ v w, SRow w v zs → Calls Try.prog 28 #[v, .int .i64 m0, .int .i64 m1, .int .i64 m2] w fun e w' => e = .returned (.tuple #[.int .i64 x0, .bool r]) ∧ Below w.heap.size w w') ∧
      (∀ v w, SRow w v zs → Calls Try.prog 29 #[v, .int .i64 m0, .int .i64 m1, .int .i64 m2] w fun e w' => e = .returned (.tuple #[.int .i64 x0, .bool r]) ∧ Below w.heap.size w w')) :
    Calls Try.prog 9 #[.slice a len cap, .int .i64 m0, .int .i64 m1, .int .i64 m2] w fun e w' => e = .returned (.bool true) ∧ Below w.heap.size w w' := by
  obtain ⟨rfl, hn, hr⟩ := pairs_row h
  obtain ⟨x0, r, S, I⟩ := B
  have HR := Lib.hid hr
  have SP := Lib.hid S
  have IM := Lib.hid I
  clear h hr S I
  go_enter Try.func9, Try.ntmps9
  go_wp2_with fail
  refine (szLoad_any a _ cap w hn).mono ?_
  rintro e w' ⟨z, rfl, rfl, hneg | ⟨z0, hn2⟩⟩
  · go_wp2
    go_ret
    exact ⟨rfl, Below.refl _ _⟩
  · go_wp2_with fail
    refine (toLoads_any a cap zs w HR.out (by omega)).mono ?_
    rintro e w1 ⟨rfl, t1, l1⟩
    have S1 := Lib.hid (SP.out _ w1 (sRow_to t1))
    go_wp2_with fail
    refine S1.out.mono ?_
    rintro e w1' ⟨rfl, l1'⟩
    have L1 := lo_on l1 l1'
    clear S1
    go_wp2_with fail
    refine (toLoads_any a cap zs w1' (HR.out.lo L1) (by omega)).mono ?_
    rintro e w2 ⟨rfl, t2, l2⟩
    have L2 := lo_on L1 l2
    have I2 := Lib.hid (IM.out _ w2 (sRow_to t2))
    go_wp2_with fail
    refine I2.out.mono ?_
    rintro e w3 ⟨rfl, l3⟩
    have L3 := lo_on L2 l3
    clear I2
    go_wp2_with fail
    refine (toLoads_any a cap zs w3 (HR.out.lo L3) (by omega)).mono ?_
    rintro e w4 ⟨rfl, t4, l4⟩
    have L4 := lo_on L3 l4
    go_wp2_with fail
    refine (eqLoads_same _ _ zs w4 ((t2.lo l3).lo l4) t4 (by omega)).mono ?_
    rintro e w5 ⟨rfl, l5⟩
    go_wp2
    go_ret
    exact ⟨rfl, lo_on L4 l5⟩
end Go.Proofs.Ytjchmjbgboeolaa
