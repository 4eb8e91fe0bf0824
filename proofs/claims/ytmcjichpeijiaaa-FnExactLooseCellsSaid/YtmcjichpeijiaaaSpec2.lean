/- The contracts of the model's centre, reactions and narrow base, and of the law's own comparison of two fractions. -/
import Derived.Test.YtmcjichpeijiaaaA2
import Derived.Test.YtmcjichpeijiaaaSpec1
namespace Go.Proofs.Ytmcjichpeijiaaa
open Go.RowKit
end Go.Proofs.Ytmcjichpeijiaaa
