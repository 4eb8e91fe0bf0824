/- The contracts of the model's functions on one row and a base. -/
import Derived.Test.YtnadchgekfljkaaImpl5
namespace Go.Proofs.Ytnadchgekfljkaa
open Go.RowKit
theorem l2In_is (a : Int) (r : Bool) (h : (decide (0 ≤ a) && decide (a ≤ 60)) = r) (w : World) : Calls Try.prog 114 #[.int .i64 a] w fun e w' => e = .returned (.bool r) ∧ w = w' := by
  subst h
  exact l2In_any a w
end Go.Proofs.Ytnadchgekfljkaa
