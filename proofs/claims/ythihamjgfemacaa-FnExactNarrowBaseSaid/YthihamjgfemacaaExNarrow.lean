/- The walk of the law on NarrowBase. -/
import Derived.Test.YthihamjgfemacaaNarrow2
namespace Go.Proofs.Ythihamjgfemacaa
open Go.RowKit
theorem exNarrowBase_walk (a : Option Addr) (len cap : Nat) (zs : List (Int × Int)) (w : World) (h : IsPairs .i64 w a len cap zs)
    (B : ∃ (x0 x1 : Int) (r : Bool), (∀ v w, LoadRow w v zs → Calls Try.prog 59 #[v] w fun e w' => e = .returned (.tuple #[.int .i64 x0, .int .i64 x1, .bool r]) ∧ Below w.heap.size w w') ∧
      (∀ v w, LoadRow w v zs → Calls Try.prog 60 #[v] w fun e w' => e = .returned (.tuple #[.int .i64 x0, .int .i64 x1, .bool r]) ∧ Below w.heap.size w w')) :
    Calls Try.prog 17 #[.slice a len cap] w fun e w' => e = .returned (.bool true) ∧ Below w.heap.size w w' := by
  obtain ⟨rfl, hn, hr⟩ := pairs_row h
  obtain ⟨x0, x1, r, S, I⟩ := B
  have HR := Lib.hid hr
  have SP := Lib.hid S
  have IM := Lib.hid I
  clear h hr S I
  go_enter Try.func17, Try.ntmps17
  go_wp2_with fail
  refine (szLoad_any a _ cap w hn).mono ?_
  rintro e w' ⟨z, rfl, rfl, hneg | ⟨z0, hn2⟩⟩
  · go_wp2
    go_ret
    exact ⟨rfl, Below.refl _ _⟩
  · go_wp2_with fail
    refine (toLoads_any a cap zs w HR.out (by omega)).mono ?_
    rintro e w1 ⟨rfl, t1, l1⟩
    go_wp2_with fail
    refine (SP.out _ w1 t1).mono ?_
    rintro e w1' ⟨rfl, l1'⟩
    have L1 := lo_on l1 l1'
    go_wp2_with fail
    refine (toLoads_any a cap zs w1' (HR.out.lo L1) (by omega)).mono ?_
    rintro e w2 ⟨rfl, t2, l2⟩
    have L2 := lo_on L1 l2
    go_wp2_with fail
    refine (IM.out _ w2 t2).mono ?_
    rintro e w3 ⟨rfl, l3⟩
    have L3 := lo_on L2 l3
    go_wp2_with fail
    refine (toLoads_any a cap zs w3 (HR.out.lo L3) (by omega)).mono ?_
    rintro e w4 ⟨rfl, t4, l4⟩
    have L4 := lo_on L3 l4
    go_wp2_with fail
    refine (eqLoads_same _ _ zs w4 ((t2.lo l3).lo l4) t4 (by omega)).mono ?_
    rintro e w5 ⟨rfl, l5⟩
    go_wp2
    go_ret
    exact ⟨rfl, lo_on L4 l5⟩
end Go.Proofs.Ythihamjgfemacaa
