/- The contracts of the model's centre, reactions and narrow base, and of the law's own comparison of two fractions. -/
import Derived.Test.YtpklccpkgefniaaA2
import Derived.Test.YtpklccpkgefniaaSpec1
namespace Go.Proofs.Ytpklccpkgefniaa
open Go.RowKit
end Go.Proofs.Ytpklccpkgefniaa
