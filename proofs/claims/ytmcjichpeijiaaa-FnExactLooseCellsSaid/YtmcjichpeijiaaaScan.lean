/- Plain facts on scans over places and weights. No program stands here. -/
import Derived.Test.YtmcjichpeijiaaaRowFacts
namespace Go.Proofs.Ytmcjichpeijiaaa
/-- Does one of the first k hold? -/
def fdF (st : Nat → Bool) : Nat → Bool
  | 0 => false
  | k + 1 => fdF st k || st k
/-- The first of the first k that holds, or 0. -/
def loF (st : Nat → Bool) : Nat → Int
  | 0 => 0
  | k + 1 => if st k = true ∧ fdF st k = false then (k : Int) else loF st k
/-- The last of the first k that holds, or 0. -/
def hiF (st : Nat → Bool) : Nat → Int
  | 0 => 0
  | k + 1 => if st k = true then (k : Int) else hiF st k
theorem scan_none (st : Nat → Bool) : ∀ k, fdF st k = false → loF st k = 0 ∧ hiF st k = 0 := by
  intro k
  induction k with
  | zero => intro _; exact ⟨rfl, rfl⟩
  | succ k ih =>
    intro h
    rw [fdF, Bool.or_eq_false_iff] at h
    rw [loF, hiF, h.2]
    simpa using ih h.1
theorem scan_bounds (st : Nat → Bool) : ∀ k, 0 ≤ loF st k ∧ loF st k ≤ k ∧ 0 ≤ hiF st k ∧ hiF st k ≤ k := by
  intro k
  induction k with
  | zero => simp [loF, hiF]
  | succ k ih =>
    rw [loF, hiF]
    split <;> split <;> omega
theorem scan_all (st : Nat → Bool) : ∀ k, (∀ j, j < k → st j = false) → fdF st k = false := by
  intro k
  induction k with
  | zero => intro _; rfl
  | succ k ih => intro h; rw [fdF, ih (fun j hj => h j (by omega)), h k (by omega)]; rfl
theorem scan_congr {st su : Nat → Bool} : ∀ k, (∀ j, j < k → st j = su j) → fdF st k = fdF su k ∧ loF st k = loF su k ∧ hiF st k = hiF su k := by
  intro k
  induction k with
  | zero => intro _; exact ⟨rfl, rfl, rfl⟩
  | succ k ih =>
    intro h
    obtain ⟨h1, h2, h3⟩ := ih (fun j hj => h j (by omega))
    rw [fdF, fdF, loF, loF, hiF, hiF, h1, h2, h3, h k (by omega)]
    exact ⟨rfl, rfl, rfl⟩
/-- What is found lies between both ends, where what holds has no gap. -/
theorem scan_at (st : Nat → Bool) : ∀ k, fdF st k = true → ∃ l h : Nat, loF st k = l ∧ hiF st k = h ∧ l ≤ h ∧ h < k ∧ st l = true ∧ st h = true ∧ ∀ j, j < k → st j = true → l ≤ j ∧ j ≤ h := by
  intro k
  induction k with
  | zero => intro h; cases h
  | succ k ih =>
    intro hf
    rw [fdF] at hf
    rw [loF, hiF]
    cases hk : st k with
    | true =>
      cases hp : fdF st k with
      | false =>
        refine ⟨k, k, by simp, by simp, Nat.le_refl _, by omega, hk, hk, fun j hj hst => ?_⟩
        by_cases e : j = k
        · omega
        · exfalso
          have : ∀ m, fdF st m = false → ∀ i, i < m → st i = false := by
            intro m
            induction m with
            | zero => intro _ i hi; omega
            | succ m ihm =>
              intro hm i hi
              rw [fdF, Bool.or_eq_false_iff] at hm
              by_cases e : i = m
              · subst e; exact hm.2
              · exact ihm hm.1 i (by omega)
          have := this k hp j (by omega)
          rw [hst] at this
          cases this
      | true =>
        obtain ⟨l, h, e1, e2, e3, e4, e5, e6, e7⟩ := ih hp
        refine ⟨l, k, by simpa using e1, by simp, by omega, by omega, e5, hk, fun j hj hst => ?_⟩
        by_cases e : j = k
        · omega
        · have := e7 j (by omega) hst; omega
    | false =>
      rw [hk, Bool.or_false] at hf
      obtain ⟨l, h, e1, e2, e3, e4, e5, e6, e7⟩ := ih hf
      refine ⟨l, h, by simpa using e1, by simpa using e2, e3, by omega, e5, e6, fun j hj hst => ?_⟩
      by_cases e : j = k
      · subst e; rw [hk] at hst; cases hst
      · exact e7 j (by omega) hst
/-- The first from k on that holds, of f in all. -/
def lcF (st : Nat → Bool) : Nat → Nat → Int × Bool
  | 0, _ => (0, false)
  | f + 1, k => if st k = true then ((k : Int), true) else lcF st f (k + 1)
theorem lc_none (st : Nat → Bool) (h : ∀ j, st j = false) : ∀ f k, lcF st f k = (0, false) := by
  intro f
  induction f with
  | zero => intro k; rfl
  | succ f ih => intro k; rw [lcF, h k, if_neg (by simp)]; exact ih _
theorem lc_congr {st su : Nat → Bool} : ∀ f k, (∀ j, k ≤ j → j < k + f → st j = su j) → lcF st f k = lcF su f k := by
  intro f
  induction f with
  | zero => intro k _; rfl
  | succ f ih => intro k h; rw [lcF, lcF, h k (by omega) (by omega), ih (k + 1) (fun j h1 h2 => h j (by omega) (by omega))]
theorem lc_some (st : Nat → Bool) : ∀ f k, (lcF st f k).2 = true → ∃ n : Nat, (lcF st f k).1 = n ∧ k ≤ n ∧ n < k + f ∧ st n = true ∧ ∀ j, k ≤ j → j < n → st j = false := by
  intro f
  induction f with
  | zero => intro k h; cases h
  | succ f ih =>
    intro k h
    rw [lcF] at h ⊢
    cases hk : st k with
    | true =>
      simp only [hk, if_true] at h ⊢
      exact ⟨k, rfl, Nat.le_refl _, by omega, hk, fun j h1 h2 => by omega⟩
    | false =>
      simp only [hk, Bool.false_eq_true, if_false] at h ⊢
      obtain ⟨n, e1, e2, e3, e4, e5⟩ := ih (k + 1) h
      refine ⟨n, e1, by omega, by omega, e4, fun j h1 h2 => ?_⟩
      by_cases e : j = k
      · subst e; exact hk
      · exact e5 j (by omega) h2
/-- The greatest up to k that holds, or 0. -/
def mtF (st : Nat → Bool) : Nat → Int
  | 0 => 0
  | k + 1 => if st (k + 1) = true then ((k + 1 : Nat) : Int) else mtF st k
theorem mt_is (st : Nat → Bool) (m : Nat) (h1 : ∀ j, 1 ≤ j → j ≤ m → st j = true) : ∀ n, m ≤ n → (∀ j, m < j → j ≤ n → st j = false) → mtF st n = m := by
  intro n
  induction n with
  | zero => intro hm _; have : m = 0 := by omega
            subst this; rfl
  | succ n ih =>
    intro hm h2
    rw [mtF]
    by_cases e : m = n + 1
    · subst e
      rw [if_pos (h1 _ (by omega) (Nat.le_refl _))]
    · rw [h2 (n + 1) (by omega) (Nat.le_refl _), if_neg (by simp)]
      exact ih (by omega) (fun j a b => h2 j a (by omega))
theorem mt_congr {st su : Nat → Bool} : ∀ n, (∀ j, 1 ≤ j → j ≤ n → st j = su j) → mtF st n = mtF su n := by
  intro n
  induction n with
  | zero => intro _; rfl
  | succ n ih => intro h; rw [mtF, mtF, h (n + 1) (by omega) (Nat.le_refl _), ih (fun j a b => h j a (by omega))]
theorem mt_bounds (st : Nat → Bool) : ∀ n, 0 ≤ mtF st n ∧ mtF st n ≤ n := by
  intro n
  induction n with
  | zero => simp [mtF]
  | succ n ih => rw [mtF]; split <;> omega
/-- No weight beyond the greatest holds. -/
theorem mt_above (st : Nat → Bool) : ∀ n (j : Nat), mtF st n < j → j ≤ n → st j = false := by
  intro n
  induction n with
  | zero => intro j h1 h2; have := (mt_bounds st 0).1; omega
  | succ n ih =>
    intro j h1 h2
    rw [mtF] at h1
    cases hk : st (n + 1) with
    | true => rw [if_pos hk] at h1; omega
    | false =>
      rw [if_neg (by simp [hk])] at h1
      by_cases e : j = n + 1
      · subst e; exact hk
      · exact ih j h1 (by omega)
/-- Weights that leave a row standing: no gap below one. -/
theorem extra_down (a b p : Int) (zs : List (Int × Int)) (w : Int) (h0 : sideF a b zs = 0) (hw : 0 ≤ w) (h1 : sideF a b (zs ++ [(p, w + 1)]) = 0) : sideF a b (zs ++ [(p, w)]) = 0 := by
  rw [side_zero] at *
  rw [mom_snoc, mom_snoc] at *
  simp only at *
  rw [Int.add_mul, Int.one_mul, Int.add_mul, Int.one_mul] at h1
  constructor
  · rcases Int.lt_or_le (p - a) 0 with h | h
    · omega
    · have := Int.mul_nonneg hw h; omega
  · rcases Int.lt_or_le 0 (p - b) with h | h
    · omega
    · have := Int.mul_nonpos_of_nonneg_of_nonpos hw h; omega
/-- One more load makes a row that stands. -/
theorem rowF_snoc {zs : List (Int × Int)} {x : Int × Int} (h : RowF zs) (hl : zs.length < 12) (hx : (0 ≤ x.1 ∧ x.1 ≤ 60) ∧ 1 ≤ x.2 ∧ x.2 ≤ 99) : RowF (zs ++ [x]) :=
  ⟨by simp; omega, fun y hy => by
    rcases List.mem_append.1 hy with h1 | h1
    · exact h.each y h1
    · simp at h1; subst h1; exact hx⟩
end Go.Proofs.Ytmcjichpeijiaaa
