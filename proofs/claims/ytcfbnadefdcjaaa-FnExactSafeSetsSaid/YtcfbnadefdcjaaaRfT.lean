/- Plain facts: the next items and the first order by the numbers of the sets; the least own weight. No program stands here. -/
import Derived.Test.YtcfbnadefdcjaaaRfR
namespace Go.Proofs.Ytcfbnadefdcjaaa
/-- The next items of a set, told by numbers. -/
def nxB (sf : List (Int × Int) → Bool) (row : List (Int × Int)) (c i : Nat) : Bool := !c.testBit i && decide (0 < wfF sf row (c + 2 ^ i))
theorem step_is (sf : List (Int × Int) → Bool) {row : List (Int × Int)} (h8 : row.length ≤ 8) (hz : RowF row) {c : Nat} (hc : c < 2 ^ row.length) (i : Nat) (hi : i < 8) : stepB sf (deckL row (2 ^ row.length - 1)) (deckL row c) i = (decide (i < row.length) && nxB sf row c i) := by
  unfold stepB nxB
  by_cases h : i < row.length
  · cases hb : c.testBit i with
    | true =>
      have := (full_ne hz c i hi).2 (fun h => by rw [hb] at h; cases h.2)
      rw [this]
      simp
    | false =>
      have h1 : ¬ _ := fun h2 => (full_ne hz c i hi).1 h2 ⟨h, hb⟩
      have h2 : ((deckL row c).getD i (0, 0) == (deckL row (2 ^ row.length - 1)).getD i (0, 0)) = false := by rw [beq_eq_false_iff_ne]; exact h1
      rw [h2, deck_full i hi, if_pos h, deck_add h8 h (code_lt8 h8 hc) hb]
      simp only [h, decide_true, Bool.not_false, Bool.true_and]
      rfl
  · have := (full_ne hz c i hi).2 (fun h2 => h h2.1)
    rw [this]
    simp [h]
def nxL (sf : List (Int × Int) → Bool) (row : List (Int × Int)) (c k : Nat) : List Int := ((List.range k).filter (nxB sf row c)).map (fun (i : Nat) => (i : Int))
theorem nxL_succ (sf : List (Int × Int) → Bool) (row : List (Int × Int)) (c k : Nat) : nxL sf row c (k + 1) = nxL sf row c k ++ (if nxB sf row c k = true then [(k : Int)] else []) := by
  unfold nxL
  rw [List.range_succ, List.filter_append, List.map_append]
  congr 1
  by_cases h : nxB sf row c k = true <;> simp [h]
theorem filter_cut (p : Nat → Bool) (n : Nat) : ∀ m, (∀ i, n ≤ i → i < n + m → p i = false) → (List.range (n + m)).filter p = (List.range n).filter p
  | 0, _ => rfl
  | m + 1, h => by
    rw [show n + (m + 1) = n + m + 1 by omega, List.range_succ, List.filter_append, filter_cut p n m (fun i h1 h2 => h i h1 (by omega))]
    simp [h (n + m) (by omega) (by omega)]
theorem stepL_is (sf : List (Int × Int) → Bool) {row : List (Int × Int)} (h8 : row.length ≤ 8) (hz : RowF row) {c : Nat} (hc : c < 2 ^ row.length) : stepL sf (deckL row (2 ^ row.length - 1)) (deckL row c) 8 = nxL sf row c row.length := by
  unfold stepL nxL
  congr 1
  have := filter_cut (stepB sf (deckL row (2 ^ row.length - 1)) (deckL row c)) row.length (8 - row.length) (fun i h1 h2 => by
    rw [step_is sf h8 hz hc i (by omega)]
    simp [show ¬ i < row.length by omega])
  rw [show row.length + (8 - row.length) = 8 by omega] at this
  rw [this]
  refine List.filter_congr (fun i hi => ?_)
  have := List.mem_range.1 hi
  rw [step_is sf h8 hz hc i (by omega)]
  simp [this]
theorem diff_all {row : List (Int × Int)} (h8 : row.length ≤ 8) (hz : RowF row) : diffN (deckL row (2 ^ row.length - 1)) (deckL row 0) = row.length ∧ diffN (deckL row 0) (deckL row (2 ^ row.length - 1)) = row.length := by
  have hcount : ∀ n, n ≤ 8 → (List.range 8).countP (fun i => decide (i < n)) = n := by decide
  constructor
  · unfold diffN
    refine Eq.trans (List.countP_congr (fun i hi => ?_)) (hcount row.length h8)
    have hi8 := List.mem_range.1 hi
    have := full_ne hz 0 i hi8
    rw [Nat.zero_testBit] at this
    by_cases h : i < row.length
    · have h1 : ¬ _ := fun h2 => this.1 h2 ⟨h, rfl⟩
      simp only [Bool.not_eq_true', beq_eq_false_iff_ne, decide_eq_true_eq]
      exact ⟨fun _ => h, fun _ => h1⟩
    · have := this.2 (fun h2 => h h2.1)
      rw [this]
      simp [h]
  · unfold diffN
    refine Eq.trans (List.countP_congr (fun i hi => ?_)) (hcount row.length h8)
    have hi8 := List.mem_range.1 hi
    have := zero_ne hz (2 ^ row.length - 1) i hi8
    by_cases h : i < row.length
    · have h1 : ¬ _ := fun h2 => this.1 h2 ⟨h, full_bit _ _ h⟩
      simp only [Bool.not_eq_true', beq_eq_false_iff_ne, decide_eq_true_eq]
      exact ⟨fun _ => h, fun _ => h1⟩
    · have := this.2 (fun h2 => h h2.1)
      rw [this]
      simp [h]
/-- The numbers of the sets behind the first items of the first order, loaded. -/
def cuF (sf : List (Int × Int) → Bool) (row : List (Int × Int)) : Nat → Nat
  | 0 => 0
  | k + 1 => cuF sf row k + 2 ^ fstN sf (deckL row (2 ^ row.length - 1)) (deckL row (cuF sf row k))
theorem cu_facts (sf : List (Int × Int) → Bool) {row : List (Int × Int)} (h8 : row.length ≤ 8) (hz : RowF row) (h : 0 < wfF sf row 0) : ∀ k, k ≤ row.length → dkF sf (deckL row (2 ^ row.length - 1)) (deckL row 0) k = deckL row (cuF sf row k) ∧ cuF sf row k < 2 ^ row.length ∧ 0 < wfF sf row (cuF sf row k) ∧ (k < row.length → fstN sf (deckL row (2 ^ row.length - 1)) (deckL row (cuF sf row k)) < row.length ∧ nxB sf row (cuF sf row k) (fstN sf (deckL row (2 ^ row.length - 1)) (deckL row (cuF sf row k))) = true ∧ ∀ j, j < fstN sf (deckL row (2 ^ row.length - 1)) (deckL row (cuF sf row k)) → nxB sf row (cuF sf row k) j = false) := by
  have hp : 0 < 2 ^ row.length := Nat.pow_pos (by decide)
  intro k
  induction k with
  | zero =>
    intro _
    refine ⟨rfl, hp, h, fun h0 => ?_⟩
    have hne : deckL row 0 ≠ deckL row (2 ^ row.length - 1) := fun e => by
      have e2 := (deck_same h8 hz hp).1 e
      have := Nat.pow_le_pow_right (n := 2) (by decide) (show 1 ≤ row.length from h0)
      omega
    obtain ⟨f1, f2, f3, _⟩ := fst_is sf (deckL_len _ _) (deckL_len _ _) h hne
    have s := step_is sf h8 hz hp _ f1
    simp only [cuF]
    rw [f2] at s
    have s2 := s.symm
    rw [Bool.and_eq_true, decide_eq_true_eq] at s2
    refine ⟨s2.1, s2.2, fun j hj => ?_⟩
    have := f3 j hj
    rw [step_is sf h8 hz hp j (by omega)] at this
    simpa [show j < row.length by omega] using this
  | succ k ih =>
    intro hk
    obtain ⟨a1, a2, a3, a4⟩ := ih (by omega)
    obtain ⟨b1, b2, b3⟩ := a4 (by omega)
    have hb := b2
    unfold nxB at hb
    simp only [Bool.and_eq_true, Bool.not_eq_true', decide_eq_true_eq] at hb
    have c1 : dkF sf (deckL row (2 ^ row.length - 1)) (deckL row 0) (k + 1) = deckL row (cuF sf row (k + 1)) := by
      rw [dkF, a1, cuF, deck_full _ (by omega), if_pos b1]
      exact deck_add h8 b1 (code_lt8 h8 a2) hb.1
    have c2 : cuF sf row (k + 1) < 2 ^ row.length := by rw [cuF]; exact add_lt h8 a2 b1 hb.1
    have c3 : 0 < wfF sf row (cuF sf row (k + 1)) := by rw [cuF]; exact hb.2
    refine ⟨c1, c2, c3, fun h0 => ?_⟩
    have hd := (dk_facts sf (deckL_len row (2 ^ row.length - 1)) (deckL_len row 0) h (k + 1) (by rw [(diff_all h8 hz).1]; exact hk)).2.2
    rw [(diff_all h8 hz).1, c1] at hd
    have hne : deckL row (cuF sf row (k + 1)) ≠ deckL row (2 ^ row.length - 1) := fun e => by
      have := (diff_zero (deckL_len _ _) (deckL_len _ _)).2 e
      omega
    obtain ⟨f1, f2, f3, _⟩ := fst_is sf (deckL_len _ _) (deckL_len _ _) c3 hne
    have s := step_is sf h8 hz c2 _ f1
    rw [f2] at s
    have s2 := s.symm
    rw [Bool.and_eq_true, decide_eq_true_eq] at s2
    refine ⟨s2.1, s2.2, fun j hj => ?_⟩
    have := f3 j hj
    rw [step_is sf h8 hz c2 j (by omega)] at this
    simpa [show j < row.length by omega] using this
/-- How often nothing is true that stays true. -/
theorem count_mono (p : Nat → Bool) : ∀ n, (∀ a b, a ≤ b → b < n → p a = true → p b = true) → ∃ k, k ≤ n ∧ (∀ j, j < k → p j = false) ∧ (∀ j, k ≤ j → j < n → p j = true) ∧ (List.range n).countP (fun i => !p i) = k
  | 0, _ => ⟨0, Nat.le_refl _, fun _ h => absurd h (Nat.not_lt_zero _), fun _ _ h => absurd h (Nat.not_lt_zero _), rfl⟩
  | n + 1, h => by
    obtain ⟨k, h1, h2, h3, h4⟩ := count_mono p n (fun a b ha hb => h a b ha (by omega))
    rw [List.range_succ, List.countP_append, h4]
    cases hn : p n with
    | true =>
      refine ⟨k, by omega, h2, fun j hj1 hj2 => ?_, by simp [hn]⟩
      by_cases e : j = n
      · subst e; exact hn
      · exact h3 j hj1 (by omega)
    | false =>
      have hk : k = n := Classical.byContradiction (fun hne => by
        have := h k n (by omega) (by omega) (h3 k (Nat.le_refl _) (by omega))
        rw [hn] at this
        cases this)
      subst hk
      refine ⟨k + 1, Nat.le_refl _, fun j hj => ?_, fun j hj1 hj2 => by omega, by simp [hn]⟩
      by_cases e : j = k
      · subst e; exact hn
      · exact h2 j (by omega)
theorem safe_more {a b o o2 : Int} (hab : a ≤ b) (ho : o ≤ o2) (d : List (Int × Int)) (h : safeF a b o d = true) : safeF a b o2 d = true := by
  unfold safeF rsA rsB at *
  simp only [Bool.and_eq_true, decide_eq_true_eq] at *
  have := Int.mul_le_mul_of_nonneg_right ho (show 0 ≤ b - a by omega)
  omega
theorem ways_more {a b o o2 : Int} (hab : a ≤ b) (ho : o ≤ o2) (row : List (Int × Int)) (c : Nat) : wfF (safeF a b o) row c ≤ wfF (safeF a b o2) row c := wy_mono _ _ (fun d h => safe_more hab ho d h) _ _
end Go.Proofs.Ytcfbnadefdcjaaa
