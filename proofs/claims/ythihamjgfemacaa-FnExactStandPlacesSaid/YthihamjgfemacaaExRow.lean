/- Walks of the laws on functions of one row, from a contract of the program's function. -/
import Derived.Test.YthihamjgfemacaaPairRow
import Derived.Test.YthihamjgfemacaaLoadTo
import Derived.Test.YthihamjgfemacaaImpl1
namespace Go.Proofs.Ythihamjgfemacaa
open Go.RowKit
theorem specIsRow_any (v : Value) (zs : List (Int × Int)) (w : World) (hr : LoadRow w v zs) : Calls Try.prog 35 #[v] w fun e w' => e = .returned (.bool (rowB zs)) ∧ w = w' := by
  have C := Lib.hid (l2Row_any v zs w hr)
  clear hr
  go_enter Try.func35, Try.ntmps35
  go_wp2_with fail
  refine C.out.mono ?_
  rintro e w' ⟨rfl, rfl⟩
  go_wp2
  go_ret
  exact ⟨rfl, rfl⟩
theorem exIsRow_walk (a : Option Addr) (len cap : Nat) (zs : List (Int × Int)) (w : World) (h : IsPairs .i64 w a len cap zs)
    (IM : Hid (∀ v w, LoadRow w v zs → Calls Try.prog 37 #[v] w fun e w' => e = .returned (.bool (rowB zs)) ∧ Below w.heap.size w w')) :
    Calls Try.prog 4 #[.slice a len cap] w fun e w' => e = .returned (.bool true) ∧ Below w.heap.size w w' := by
  obtain ⟨rfl, hn, hr⟩ := pairs_row h
  have HR := Lib.hid hr
  have SP := Lib.hid (fun v w => specIsRow_any v zs w)
  clear h hr
  go_enter Try.func4, Try.ntmps4
  go_wp2_with fail
  refine (szLoad_any a _ cap w hn).mono ?_
  rintro e w' ⟨z, rfl, rfl, hneg | ⟨z0, hn2⟩⟩
  · go_wp2
    go_ret
    exact ⟨rfl, Below.refl _ _⟩
  · go_wp2_with fail
    refine (toLoads_any a cap zs w HR.out (by omega)).mono ?_
    rintro e w1 ⟨rfl, t1, l1⟩
    go_wp2_with fail
    refine (SP.out _ w1 t1).mono ?_
    rintro e w' ⟨rfl, rfl⟩
    go_wp2_with fail
    refine (toLoads_any a cap zs w1 (HR.out.lo l1) (by omega)).mono ?_
    rintro e w2 ⟨rfl, t2, l2⟩
    have L2 := lo_on l1 l2
    go_wp2_with fail
    refine (IM.out _ w2 t2).mono ?_
    rintro e w3 ⟨rfl, l3⟩
    have L3 := lo_on L2 l3
    go_wp2_with fail
    refine (toLoads_any a cap zs w3 (HR.out.lo L3) (by omega)).mono ?_
    rintro e w4 ⟨rfl, t4, l4⟩
    have L4 := lo_on L3 l4
    go_wp2_with fail
    refine (eqLoads_same _ _ zs w4 ((t2.lo l3).lo l4) t4 (by omega)).mono ?_
    rintro e w5 ⟨rfl, l5⟩
    go_wp2
    go_ret
    exact ⟨rfl, lo_on L4 l5⟩
end Go.Proofs.Ythihamjgfemacaa
