/- Lists over their greatest common divisor. No program stands here. -/
import Derived.Test.YtnadchgekfljkaaRodP
namespace Go.Proofs.Ytnadchgekfljkaa
theorem foldl_gcd_mul (a : Nat) : ∀ (xs : List Nat) (c : Nat), (xs.map (a * ·)).foldl Nat.gcd (a * c) = a * xs.foldl Nat.gcd c := by
  intro xs
  induction xs with
  | nil => intro c; rfl
  | cons x xs ih =>
    intro c
    rw [List.map_cons, List.foldl_cons, List.foldl_cons, Nat.gcd_mul_left]
    exact ih _
/-- The greatest common divisor of a list. -/
def gcdL (xs : List Nat) : Nat := xs.foldl Nat.gcd 0
def primL (xs : List Nat) : List Nat := xs.map (· / gcdL xs)
theorem gcdL_mul (a : Nat) (xs : List Nat) : gcdL (xs.map (a * ·)) = a * gcdL xs := by
  have := foldl_gcd_mul a xs 0
  rwa [Nat.mul_zero] at this
theorem primL_mul (a : Nat) (h : 0 < a) (xs : List Nat) : primL (xs.map (a * ·)) = primL xs := by
  unfold primL
  rw [gcdL_mul, List.map_map]
  refine List.map_congr_left (fun x _ => ?_)
  exact Nat.mul_div_mul_left x (gcdL xs) h
/-- Lists that are multiples of one another have the same list over the greatest common divisor. -/
theorem prim_same {L P : Nat} (hL : 0 < L) (hP : 0 < P) {v u : List Nat} (h : v.map (L * ·) = u.map (P * ·)) : primL v = primL u := by
  rw [← primL_mul L hL v, h, primL_mul P hP]
theorem foldl_gcd_dvd : ∀ (xs : List Nat) (c : Nat), xs.foldl Nat.gcd c ∣ c ∧ ∀ x, x ∈ xs → xs.foldl Nat.gcd c ∣ x := by
  intro xs
  induction xs with
  | nil => intro c; exact ⟨Nat.dvd_refl _, fun x h => by cases h⟩
  | cons y xs ih =>
    intro c
    obtain ⟨a, b⟩ := ih (Nat.gcd c y)
    rw [List.foldl_cons]
    refine ⟨Nat.dvd_trans a (Nat.gcd_dvd_left c y), fun x hx => ?_⟩
    rcases List.mem_cons.1 hx with rfl | hx
    · exact Nat.dvd_trans a (Nat.gcd_dvd_right c x)
    · exact b x hx
theorem gcdL_pos {xs : List Nat} {x : Nat} (hx : x ∈ xs) (h : 0 < x) : 0 < gcdL xs := by
  rcases Nat.eq_zero_or_pos (gcdL xs) with e | e
  · have := (foldl_gcd_dvd xs 0).2 x hx
    rw [show xs.foldl Nat.gcd 0 = 0 from e] at this
    have := Nat.eq_zero_of_zero_dvd this
    omega
  · exact e
theorem gcdL_le {xs : List Nat} {x : Nat} (hx : x ∈ xs) (h : 0 < x) : gcdL xs ≤ x := Nat.le_of_dvd h ((foldl_gcd_dvd xs 0).2 x hx)
/-- The product of the lengths of all rods. -/
def bothN (m : MobV) (i : Nat) : Nat := (avM m (2 * i) + avM m (2 * i + 1)).toNat
def prodN (m : MobV) : Nat → Nat
  | 0 => 1
  | k + 1 => prodN m k * bothN m k
theorem bothN_bnd {m : MobV} (hf : MobF m) (i : Nat) (h : i < m.am.length) : 2 ≤ bothN m i ∧ bothN m i ≤ 24 := by
  have a := (hf.ends (2 * i) (by omega)).1
  have b := (hf.ends (2 * i + 1) (by omega)).1
  unfold bothN
  omega
theorem prodN_bnd {m : MobV} (hf : MobF m) : ∀ k, k ≤ m.am.length → 1 ≤ prodN m k ∧ prodN m k ≤ 24 ^ k := by
  intro k
  induction k with
  | zero => intro _; exact ⟨Nat.le_refl _, Nat.le_refl _⟩
  | succ k ih =>
    intro hk
    obtain ⟨a, b⟩ := ih (by omega)
    obtain ⟨c, d⟩ := bothN_bnd hf k (by omega)
    rw [prodN, Nat.pow_succ]
    exact ⟨Nat.mul_pos a (by omega), Nat.mul_le_mul b d⟩
theorem prodN_all {m : MobV} (hf : MobF m) : prodN m m.am.length ≤ 191102976 := by
  have h := (prodN_bnd hf m.am.length (Nat.le_refl _)).2
  have h6 := hf.short
  exact Nat.le_trans h (Nat.le_trans (Nat.pow_le_pow_right (by omega) h6) (by decide))
end Go.Proofs.Ytnadchgekfljkaa
