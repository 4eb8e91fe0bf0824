/- Walks of the laws on functions of one row, from a contract of the program's function. -/
import Derived.Test.YtjchmjbgboeolaaPairRow
import Derived.Test.YtjchmjbgboeolaaLoadTo
import Derived.Test.YtjchmjbgboeolaaImpl1
namespace Go.Proofs.Ytjchmjbgboeolaa
open Go.RowKit
end Go.Proofs.Ytjchmjbgboeolaa
