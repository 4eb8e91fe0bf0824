/- What the library's own variables hold, and that it stays so behind calls that only make memory. -/
import Derived.Test.YtpklccpkgefniaaRows
import Derived.WalkKit
import Derived.Lib.Hide
import Derived.Lib.AppendIntMem
import Derived.WalkSmall
namespace Go.Proofs.Ytpklccpkgefniaa
open Go.RowKit
abbrev Lo (w w' : World) : Prop := Below w.heap.size w w'
theorem lo_trans {a b c : World} (h : Lo a b) (k : Lo b c) : Lo a c := Below.trans h (k.mono h.size)
theorem lo_drew (w : World) (n : Nat) : Lo w (w.drewN n) := below_drewN (Below.refl _ _) n
theorem lo_grow (w : World) (k : Nat) (os : Array Obj) : Lo w (Go.Sort.grow (w.drewN k) os) := Lib.below_grow _ w (Nat.le_refl _) k os
/-- The table of powers of ten. -/
def Tab (w : World) : Prop := Lib.TabIs Try.prog w "internal/strconv.uint64pow10" .u64 Lib.pow10Tab
theorem Tab.lo {w w' : World} (h : Tab w) (l : Lo w w') : Tab w' := Lib.tabBelow_of_tabIs h _ l
end Go.Proofs.Ytpklccpkgefniaa
