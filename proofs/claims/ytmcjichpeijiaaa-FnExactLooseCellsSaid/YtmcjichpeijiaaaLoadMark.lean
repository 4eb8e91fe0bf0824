/- The contracts of the law's own functions that mark a row of loads and look at the marks again. -/
import Derived.Test.YtmcjichpeijiaaaLoadTo
import Derived.Test.YtmcjichpeijiaaaOnly
namespace Go.Proofs.Ytmcjichpeijiaaa
open Go.RowKit
/-- The marks that are written into n loads, from count m on. -/
def MarkedL (w : World) (g m n : Nat) : Prop := ∀ j, j < n → w.cell? ⟨g, j * 2, none⟩ = some (.int .i64 (m + j * 2 : Nat)) ∧ w.cell? ⟨g, j * 2 + 1, none⟩ = some (.int .i64 (m + j * 2 + 1 : Nat))
end Go.Proofs.Ytmcjichpeijiaaa
