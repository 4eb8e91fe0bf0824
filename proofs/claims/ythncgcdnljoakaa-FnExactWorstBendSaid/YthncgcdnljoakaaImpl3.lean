/- The contracts of the program's own functions on one row and a base: fractions, centre, sides, reactions. -/
import Derived.Test.YthncgcdnljoakaaGcd
namespace Go.Proofs.Ythncgcdnljoakaa
open Go.RowKit
end Go.Proofs.Ythncgcdnljoakaa
