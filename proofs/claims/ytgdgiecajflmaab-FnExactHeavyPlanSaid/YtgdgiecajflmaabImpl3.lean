/- The contracts of the program's own functions on one row and a base: fractions, centre, sides, reactions. -/
import Derived.Test.YtgdgiecajflmaabImpl2
namespace Go.Proofs.Ytgdgiecajflmaab
open Go.RowKit
end Go.Proofs.Ytgdgiecajflmaab
