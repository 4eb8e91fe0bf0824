/- The model's fractions. -/
import Derived.Test.YtjchmjbgboeolaaLoadTo
import Derived.StillTailTactics
namespace Go.Proofs.Ytjchmjbgboeolaa
open Go.RowKit
theorem tdiv_small (a : Int) (g : Nat) : (Int.tdiv a (g : Int)).natAbs ≤ a.natAbs := by
  rw [Int.natAbs_tdiv]
  exact Nat.div_le_self _ _
end Go.Proofs.Ytjchmjbgboeolaa
