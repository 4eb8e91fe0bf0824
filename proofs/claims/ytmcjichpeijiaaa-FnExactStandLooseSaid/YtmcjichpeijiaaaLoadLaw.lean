/- The contracts of the law's own functions on rows of loads. -/
import Derived.Test.YtmcjichpeijiaaaLoads
import Derived.Maps.AppendAt
import Derived.Deep.RegionHeld3
import Derived.Lib.LaidTab
namespace Go.Proofs.Ytmcjichpeijiaaa
open Go.RowKit
def SzLoad (n : Nat) (w : World) (e : Ending) (w' : World) : Prop := ∃ z : Int, e = .returned (.int .i64 z) ∧ w = w' ∧ (z < 0 ∨ (0 ≤ z ∧ n ≤ 1048576))
theorem alloc_two (w : World) (o o' : Obj) : Below w.heap.size w ((w.alloc o).alloc o') := (((Below.refl _ _).alloc (Nat.le_refl _) o).alloc (by simp) o')
theorem alloc_three (w : World) (o o' o'' : Obj) : Below w.heap.size w (((w.alloc o).alloc o').alloc o'') := (alloc_two w o o').alloc (by simp; omega) o''
end Go.Proofs.Ytmcjichpeijiaaa
