/- The contracts of the model's functions on one row and a base. -/
import Derived.Test.YtmcjichpeijiaaaImpl5
namespace Go.Proofs.Ytmcjichpeijiaaa
open Go.RowKit
end Go.Proofs.Ytmcjichpeijiaaa
