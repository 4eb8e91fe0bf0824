/- Walks of the laws on functions of one row, from a contract of the program's function. -/
import Derived.Test.YtbbomfciiahepabPairRow
import Derived.Test.YtbbomfciiahepabLoadTo
import Derived.Test.YtbbomfciiahepabImpl1
namespace Go.Proofs.Ytbbomfciiahepab
open Go.RowKit
end Go.Proofs.Ytbbomfciiahepab
