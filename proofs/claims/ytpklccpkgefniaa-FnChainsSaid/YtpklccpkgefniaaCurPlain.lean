/- Plain facts on the cursor's arithmetic: no program stands here. -/
import Derived.WalkKit
import Derived.WalkSmall
namespace Go.Proofs.Ytpklccpkgefniaa
open Go.RowKit
theorem wrapU (x : Int) : 0 ≤ IntKind.u64.wrap x ∧ IntKind.u64.wrap x ≤ 18446744073709551615 := by
  have h : IntKind.u64.wrap x = x % 18446744073709551616 := rfl
  rw [h]; omega
theorem and255 (E : Int) (h0 : 0 ≤ E) (h1 : E ≤ 18446744073709551615) : 0 ≤ wrap64 (bits BinOp.and IntKind.u64 E 255) ∧ wrap64 (bits BinOp.and IntKind.u64 E 255) ≤ 255 := by
  have h := bits_and_u64_nat E.toNat 255 (by omega) (by omega)
  have hl : E.toNat &&& 255 ≤ 255 := Nat.and_le_right
  rw [Int.toNat_of_nonneg h0] at h
  have e : bits BinOp.and IntKind.u64 E 255 = ((E.toNat &&& 255 : Nat) : Int) := h
  rw [e, IntWalk.wrap64_in _ ⟨by omega, by omega⟩]
  omega
theorem draw255 (x : Int) : 0 ≤ wrap64 (bits BinOp.and IntKind.u64 (IntKind.u64.wrap x / 1099511627776) 255) ∧ wrap64 (bits BinOp.and IntKind.u64 (IntKind.u64.wrap x / 1099511627776) 255) ≤ 255 := by
  have h := wrapU x
  exact and255 _ (by omega) (by omega)
end Go.Proofs.Ytpklccpkgefniaa
