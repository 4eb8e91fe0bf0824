/- The contracts of the model's functions on one row and a base. -/
import Derived.Test.YtgdgiecajflmaabImpl5
namespace Go.Proofs.Ytgdgiecajflmaab
open Go.RowKit
end Go.Proofs.Ytgdgiecajflmaab
