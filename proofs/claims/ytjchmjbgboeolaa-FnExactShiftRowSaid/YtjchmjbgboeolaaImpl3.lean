/- The contracts of the program's own functions on one row and a base: fractions, centre, sides, reactions. -/
import Derived.Test.YtjchmjbgboeolaaGcd
namespace Go.Proofs.Ytjchmjbgboeolaa
open Go.RowKit
end Go.Proofs.Ytjchmjbgboeolaa
