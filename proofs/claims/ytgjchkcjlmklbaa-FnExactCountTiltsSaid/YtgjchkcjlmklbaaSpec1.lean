/- The contracts of the model's functions on one row and a base. -/
import Derived.Test.YtgjchkcjlmklbaaImpl5
namespace Go.Proofs.Ytgjchkcjlmklbaa
open Go.RowKit
theorem l2In_is (a : Int) (r : Bool) (h : (decide (0 ≤ a) && decide (a ≤ 60)) = r) (w : World) : Calls Try.prog 133 #[.int .i64 a] w fun e w' => e = .returned (.bool r) ∧ w = w' := by
  subst h
  exact l2In_any a w
theorem l2Row_is (v : Value) (xs : List (Int × Int)) (r : Bool) (h : rowB xs = r) (w : World) (hr : LoadRow w v xs) : Calls Try.prog 132 #[v] w fun e w' => e = .returned (.bool r) ∧ w = w' := by
  subst h
  exact l2Row_any v xs w hr
end Go.Proofs.Ytgjchkcjlmklbaa
