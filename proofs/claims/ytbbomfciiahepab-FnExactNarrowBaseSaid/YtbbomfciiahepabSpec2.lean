/- The contracts of the model's centre, reactions and narrow base, and of the law's own comparison of two fractions. -/
import Derived.Test.YtbbomfciiahepabSpec1
namespace Go.Proofs.Ytbbomfciiahepab
open Go.RowKit
end Go.Proofs.Ytbbomfciiahepab
