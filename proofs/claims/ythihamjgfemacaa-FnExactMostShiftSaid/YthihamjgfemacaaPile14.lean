/- A pile without its highest brick: the model's. -/
import Derived.Test.YthihamjgfemacaaOwn5
import Derived.Test.YthihamjgfemacaaPile13
namespace Go.Proofs.Ythihamjgfemacaa
open Go.RowKit
/-- What a function of the model that makes a pile answers. -/
def MadeS (w : World) (ok : Bool) (q : PileV) (e : Ending) (w' : World) : Prop := ∃ u, e = .returned (.tuple #[u, .bool (ok && pileB q)]) ∧ PileRow w' u (keptP ok q) ∧ Below w.heap.size w w'
end Go.Proofs.Ythihamjgfemacaa
