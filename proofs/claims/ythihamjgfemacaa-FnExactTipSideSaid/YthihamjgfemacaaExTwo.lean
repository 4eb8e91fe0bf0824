/- Walks of the laws on functions of one row that give integers and a bool. -/
import Derived.Test.YthihamjgfemacaaSpec2
import Derived.Test.YthihamjgfemacaaExRow
namespace Go.Proofs.Ythihamjgfemacaa
open Go.RowKit
theorem exWeightOf_walk (a : Option Addr) (len cap : Nat) (zs : List (Int × Int)) (w : World) (h : IsPairs .i64 w a len cap zs)
    (B : ∃ (x0 : Int) (r : Bool), (∀ v w, LoadRow w v zs → Calls Try.prog 39 #[v] w fun e w' => e = .returned (.tuple #[.int .i64 x0, .bool r]) ∧ Below w.heap.size w w') ∧
      (∀ v w, LoadRow w v zs → Calls Try.prog 40 #[v] w fun e w' => e = .returned (.tuple #[.int .i64 x0, .bool r]) ∧ Below w.heap.size w w')) :
    Calls Try.prog 5 #[.slice a len cap] w fun e w' => e = .returned (.bool true) ∧ Below w.heap.size w w' := by
  obtain ⟨rfl, hn, hr⟩ := pairs_row h
  obtain ⟨x0, r, S, I⟩ := B
  have HR := Lib.hid hr
  have SP := Lib.hid S
  have IM := Lib.hid I
  clear h hr S I
  go_enter Try.func5, Try.ntmps5
  go_wp2_with fail
  refine (szLoad_any a _ cap w hn).mono ?_
  rintro e w' ⟨z, rfl, rfl, hneg | ⟨z0, hn2⟩⟩
  · go_wp2
    go_ret
    exact ⟨rfl, Below.refl _ _⟩
  · go_wp2_with fail
    refine (toLoads_any a cap zs w HR.out (by omega)).mono ?_
    rintro e w1 ⟨rfl, t1, l1⟩
    go_wp2_with fail
    refine (SP.out _ w1 t1).mono ?_
    rintro e w1' ⟨rfl, l1'⟩
    have L1 := lo_on l1 l1'
    go_wp2_with fail
    refine (toLoads_any a cap zs w1' (HR.out.lo L1) (by omega)).mono ?_
    rintro e w2 ⟨rfl, t2, l2⟩
    have L2 := lo_on L1 l2
    go_wp2_with fail
    refine (IM.out _ w2 t2).mono ?_
    rintro e w3 ⟨rfl, l3⟩
    have L3 := lo_on L2 l3
    go_wp2_with fail
    refine (toLoads_any a cap zs w3 (HR.out.lo L3) (by omega)).mono ?_
    rintro e w4 ⟨rfl, t4, l4⟩
    have L4 := lo_on L3 l4
    go_wp2_with fail
    refine (eqLoads_same _ _ zs w4 ((t2.lo l3).lo l4) t4 (by omega)).mono ?_
    rintro e w5 ⟨rfl, l5⟩
    go_wp2
    go_ret
    exact ⟨rfl, lo_on L4 l5⟩
theorem exMomentAbout_walk (a : Option Addr) (len cap : Nat) (zs : List (Int × Int)) (m0 : Int) (w : World) (h : IsPairs .i64 w a len cap zs)
    (B : ∃ (x0 : Int) (r : Bool), (∀ v w, LoadRow w v zs → Calls Try.prog 41 #[v, .int .i64 m0] w fun e w' => e = .returned (.tuple #[.int .i64 x0, .bool r]) ∧ Below w.heap.size w w') ∧
      (∀ v w, LoadRow w v zs → Calls Try.prog 42 #[v, .int .i64 m0] w fun e w' => e = .returned (.tuple #[.int .i64 x0, .bool r]) ∧ Below w.heap.size w w')) :
    Calls Try.prog 6 #[.slice a len cap, .int .i64 m0] w fun e w' => e = .returned (.bool true) ∧ Below w.heap.size w w' := by
  obtain ⟨rfl, hn, hr⟩ := pairs_row h
  obtain ⟨x0, r, S, I⟩ := B
  have HR := Lib.hid hr
  have SP := Lib.hid S
  have IM := Lib.hid I
  clear h hr S I
  go_enter Try.func6, Try.ntmps6
  go_wp2_with fail
  refine (szLoad_any a _ cap w hn).mono ?_
  rintro e w' ⟨z, rfl, rfl, hneg | ⟨z0, hn2⟩⟩
  · go_wp2
    go_ret
    exact ⟨rfl, Below.refl _ _⟩
  · go_wp2_with fail
    refine (toLoads_any a cap zs w HR.out (by omega)).mono ?_
    rintro e w1 ⟨rfl, t1, l1⟩
    go_wp2_with fail
    refine (SP.out _ w1 t1).mono ?_
    rintro e w1' ⟨rfl, l1'⟩
    have L1 := lo_on l1 l1'
    go_wp2_with fail
    refine (toLoads_any a cap zs w1' (HR.out.lo L1) (by omega)).mono ?_
    rintro e w2 ⟨rfl, t2, l2⟩
    have L2 := lo_on L1 l2
    go_wp2_with fail
    refine (IM.out _ w2 t2).mono ?_
    rintro e w3 ⟨rfl, l3⟩
    have L3 := lo_on L2 l3
    go_wp2_with fail
    refine (toLoads_any a cap zs w3 (HR.out.lo L3) (by omega)).mono ?_
    rintro e w4 ⟨rfl, t4, l4⟩
    have L4 := lo_on L3 l4
    go_wp2_with fail
    refine (eqLoads_same _ _ zs w4 ((t2.lo l3).lo l4) t4 (by omega)).mono ?_
    rintro e w5 ⟨rfl, l5⟩
    go_wp2
    go_ret
    exact ⟨rfl, lo_on L4 l5⟩
theorem exTipSide_walk (a : Option Addr) (len cap : Nat) (zs : List (Int × Int)) (m0 : Int) (m1 : Int) (w : World) (h : IsPairs .i64 w a len cap zs)
    (B : ∃ (x0 : Int) (r : Bool), (∀ v w, LoadRow w v zs → Calls Try.prog 46 #[v, .int .i64 m0, .int .i64 m1] w fun e w' => e = .returned (.tuple #[.int .i64 x0, .bool r]) ∧ Below w.heap.size w w') ∧
      (∀ v w, LoadRow w v zs → Calls Try.prog 33 #[v, .int .i64 m0, .int .i64 m1] w fun e w' => e = .returned (.tuple #[.int .i64 x0, .bool r]) ∧ Below w.heap.size w w')) :
    Calls Try.prog 8 #[.slice a len cap, .int .i64 m0, .int .i64 m1] w fun e w' => e = .returned (.bool true) ∧ Below w.heap.size w w' := by
  obtain ⟨rfl, hn, hr⟩ := pairs_row h
  obtain ⟨x0, r, S, I⟩ := B
  have HR := Lib.hid hr
  have SP := Lib.hid S
  have IM := Lib.hid I
  clear h hr S I
  go_enter Try.func8, Try.ntmps8
  go_wp2_with fail
  refine (szLoad_any a _ cap w hn).mono ?_
  rintro e w' ⟨z, rfl, rfl, hneg | ⟨z0, hn2⟩⟩
  · go_wp2
    go_ret
    exact ⟨rfl, Below.refl _ _⟩
  · go_wp2_with fail
    refine (toLoads_any a cap zs w HR.out (by omega)).mono ?_
    rintro e w1 ⟨rfl, t1, l1⟩
    go_wp2_with fail
    refine (SP.out _ w1 t1).mono ?_
    rintro e w1' ⟨rfl, l1'⟩
    have L1 := lo_on l1 l1'
    go_wp2_with fail
    refine (toLoads_any a cap zs w1' (HR.out.lo L1) (by omega)).mono ?_
    rintro e w2 ⟨rfl, t2, l2⟩
    have L2 := lo_on L1 l2
    go_wp2_with fail
    refine (IM.out _ w2 t2).mono ?_
    rintro e w3 ⟨rfl, l3⟩
    have L3 := lo_on L2 l3
    go_wp2_with fail
    refine (toLoads_any a cap zs w3 (HR.out.lo L3) (by omega)).mono ?_
    rintro e w4 ⟨rfl, t4, l4⟩
    have L4 := lo_on L3 l4
    go_wp2_with fail
    refine (eqLoads_same _ _ zs w4 ((t2.lo l3).lo l4) t4 (by omega)).mono ?_
    rintro e w5 ⟨rfl, l5⟩
    go_wp2
    go_ret
    exact ⟨rfl, lo_on L4 l5⟩
theorem weight_both (zs : List (Int × Int)) : ∃ (x0 : Int) (r : Bool), (∀ v w, LoadRow w v zs → Calls Try.prog 39 #[v] w fun e w' => e = .returned (.tuple #[.int .i64 x0, .bool r]) ∧ Below w.heap.size w w') ∧
      (∀ v w, LoadRow w v zs → Calls Try.prog 40 #[v] w fun e w' => e = .returned (.tuple #[.int .i64 x0, .bool r]) ∧ Below w.heap.size w w') := by
  cases h : rowB zs with
  | false => exact ⟨0, false, fun v w hr => specWeight_no v zs w hr h, fun v w hr => weightOf_no v zs w hr h⟩
  | true => exact ⟨wtF zs, true, fun v w hr => specWeight_yes v zs w hr ((rowB_iff zs).1 h), fun v w hr => weightOf_yes v zs w hr ((rowB_iff zs).1 h)⟩
theorem moment_both (zs : List (Int × Int)) (m : Int) : ∃ (x0 : Int) (r : Bool), (∀ v w, LoadRow w v zs → Calls Try.prog 41 #[v, .int .i64 m] w fun e w' => e = .returned (.tuple #[.int .i64 x0, .bool r]) ∧ Below w.heap.size w w') ∧
      (∀ v w, LoadRow w v zs → Calls Try.prog 42 #[v, .int .i64 m] w fun e w' => e = .returned (.tuple #[.int .i64 x0, .bool r]) ∧ Below w.heap.size w w') := by
  cases h : (rowB zs && (decide (0 ≤ m) && decide (m ≤ 60))) with
  | false => exact ⟨0, false, fun v w hr => specMoment_no v zs m w hr h, fun v w hr => momentAbout_no v zs m w hr h⟩
  | true =>
    simp only [Bool.and_eq_true, decide_eq_true_eq] at h
    exact ⟨momF m zs, true, fun v w hr => specMoment_yes v zs m w hr ((rowB_iff zs).1 h.1) h.2.1 h.2.2, fun v w hr => momentAbout_yes v zs m w hr ((rowB_iff zs).1 h.1) h.2.1 h.2.2⟩
theorem tip_both (zs : List (Int × Int)) (a b : Int) : ∃ (x0 : Int) (r : Bool), (∀ v w, LoadRow w v zs → Calls Try.prog 46 #[v, .int .i64 a, .int .i64 b] w fun e w' => e = .returned (.tuple #[.int .i64 x0, .bool r]) ∧ Below w.heap.size w w') ∧
      (∀ v w, LoadRow w v zs → Calls Try.prog 33 #[v, .int .i64 a, .int .i64 b] w fun e w' => e = .returned (.tuple #[.int .i64 x0, .bool r]) ∧ Below w.heap.size w w') := by
  cases h : (rowB zs && baseB a b) with
  | false => exact ⟨0, false, fun v w hr => specTip_no v zs a b w hr h, fun v w hr => tipSide_no v zs a b w hr h⟩
  | true =>
    rw [Bool.and_eq_true] at h
    exact ⟨sideF a b zs, true, fun v w hr => specTip_yes v zs a b w hr ((rowB_iff zs).1 h.1) h.2, fun v w hr => tipSide_yes v zs a b w hr ((rowB_iff zs).1 h.1) h.2⟩
end Go.Proofs.Ythihamjgfemacaa
