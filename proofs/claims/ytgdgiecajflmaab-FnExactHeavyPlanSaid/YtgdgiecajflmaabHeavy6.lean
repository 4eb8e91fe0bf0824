/- Plain facts on the lists whose first sign is 1, in their order. -/
import Derived.Test.YtgdgiecajflmaabHeavy3
namespace Go.Proofs.Ytgdgiecajflmaab
set_option maxRecDepth 100000 in
theorem lead_small : ∀ k, k < 5 → ∀ i, i < 81 → i < 3 ^ k → leadF (sgF k i) = decide (3 ^ k / 2 < i) := by decide
theorem lead_idx {k i : Nat} (hk : k ≤ 4) (hi : i < 3 ^ k) : leadF (sgF k i) = decide (3 ^ k / 2 < i) := by
  have h : 3 ^ k ≤ 3 ^ 4 := Nat.pow_le_pow_right (by decide) hk
  exact lead_small k (by omega) i (by omega) hi
theorem neg_at (xs : List Int) (j : Nat) : (negF xs).getD j 0 = -(xs.getD j 0) := by
  unfold negF
  simp only [List.getD, List.getElem?_map]
  cases xs[j]? <;> simp
end Go.Proofs.Ytgdgiecajflmaab
