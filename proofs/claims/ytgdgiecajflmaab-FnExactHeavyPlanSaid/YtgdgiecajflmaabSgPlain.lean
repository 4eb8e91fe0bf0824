/- Plain facts on all lists of signs in their order. No program stands here. -/
import Derived.Test.YtgdgiecajflmaabKitPlain
namespace Go.Proofs.Ytgdgiecajflmaab
/-- The list of n signs with the number i in lexicographic order. -/
def sgF : Nat → Nat → List Int
  | 0, _ => []
  | n + 1, i => sgF n (i / 3) ++ [((i % 3 : Nat) : Int) - 1]
theorem sgF_len : ∀ n i, (sgF n i).length = n := by
  intro n
  induction n with
  | zero => intro i; rfl
  | succ n ih => intro i; rw [sgF, List.length_append, ih]; rfl
theorem sgF_at : ∀ n i j, j < n → (sgF n i).getD j 0 = ((i / 3 ^ (n - 1 - j) % 3 : Nat) : Int) - 1 := by
  intro n
  induction n with
  | zero => intro i j h; omega
  | succ n ih =>
    intro i j h
    rw [sgF]
    by_cases e : j = n
    · subst e
      have : (sgF j (i / 3) ++ [((i % 3 : Nat) : Int) - 1]).getD j 0 = ((i % 3 : Nat) : Int) - 1 := by
        simp only [List.getD]
        rw [List.getElem?_append_right (by rw [sgF_len]; exact Nat.le_refl _), sgF_len, Nat.sub_self]
        rfl
      rw [this, show j + 1 - 1 - j = 0 by omega, Nat.pow_zero, Nat.div_one]
    · have hj : j < n := by omega
      have : (sgF n (i / 3) ++ [((i % 3 : Nat) : Int) - 1]).getD j 0 = (sgF n (i / 3)).getD j 0 := by
        simp only [List.getD]
        rw [List.getElem?_append_left (by rw [sgF_len]; exact hj)]
      rw [this, ih (i / 3) j hj, Nat.div_div_eq_div_mul, show n + 1 - 1 - j = (n - 1 - j) + 1 by omega, Nat.pow_succ, Nat.mul_comm]
theorem sgF_sign (n i j : Nat) (h : j < n) : -1 ≤ (sgF n i).getD j 0 ∧ (sgF n i).getD j 0 ≤ 1 := by
  rw [sgF_at n i j h]
  have := Nat.mod_lt (i / 3 ^ (n - 1 - j)) (show 0 < 3 by decide)
  omega
def allF (n : Nat) : List (List Int) := (List.range (3 ^ n)).map (sgF n)
theorem allF_len (n : Nat) : (allF n).length = 3 ^ n := by simp [allF]
theorem allF_at (n i : Nat) (h : i < 3 ^ n) : (allF n).getD i [] = sgF n i := by simp [allF, List.getD, h]
theorem sgF_child (n k s : Nat) (hs : s < 3) : sgF (n + 1) (k * 3 + s) = sgF n k ++ [(s : Int) - 1] := by
  rw [sgF, show (k * 3 + s) / 3 = k by omega, show (k * 3 + s) % 3 = s by omega]
/-- The first m lists of n + 1 signs. -/
def someF (n m : Nat) : List (List Int) := (List.range m).map (sgF n)
theorem someF_len (n m : Nat) : (someF n m).length = m := by simp [someF]
theorem someF_snoc (n m : Nat) : someF n (m + 1) = someF n m ++ [sgF n m] := by simp [someF, List.range_succ]
theorem someF_at (n m i : Nat) (h : i < m) : (someF n m).getD i [] = sgF n i := by simp [someF, List.getD, h]
theorem pow3_le (n : Nat) (h : n ≤ 6) : 3 ^ n ≤ 729 := Nat.le_trans (Nat.pow_le_pow_right (by decide) h) (by decide)
theorem powF_cast (n : Nat) : powF 3 n = ((3 ^ n : Nat) : Int) := by
  induction n with
  | zero => rfl
  | succ n ih => rw [powF, ih, Nat.pow_succ]; omega
end Go.Proofs.Ytgdgiecajflmaab
