/- The contract of the program's greatest common divisor. -/
import Derived.Test.YtjchmjbgboeolaaImpl2
namespace Go.Proofs.Ytjchmjbgboeolaa
open Go.RowKit
theorem tmod_gcd (x y : Int) : Nat.gcd y.natAbs (x.tmod y).natAbs = Nat.gcd x.natAbs y.natAbs := by rw [Int.natAbs_tmod]; exact gc_step _ _
end Go.Proofs.Ytjchmjbgboeolaa
