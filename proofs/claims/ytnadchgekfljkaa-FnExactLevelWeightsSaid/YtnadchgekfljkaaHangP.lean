/- Mobiles: plain facts on which rods hang. No program stands here. -/
import Derived.Test.YtnadchgekfljkaaMobPlain
namespace Go.Proofs.Ytnadchgekfljkaa
/-- How many of the first T ends have a rod. -/
def negM (m : MobV) : Nat → Nat
  | 0 => 0
  | T + 1 => negM m T + if hvM m T < 0 then 1 else 0
def sumN (f : Nat → Nat) : Nat → Nat
  | 0 => 0
  | n + 1 => sumN f n + f n
theorem sumN_congr {f g : Nat → Nat} : ∀ n, (∀ j, j < n → f j = g j) → sumN f n = sumN g n := by
  intro n
  induction n with
  | zero => intro _; rfl
  | succ n ih => intro h; rw [sumN, sumN, ih (fun j hj => h j (by omega)), h n (by omega)]
theorem sumN_zero (n : Nat) : sumN (fun _ => 0) n = 0 := by
  induction n with
  | zero => rfl
  | succ n ih => rw [sumN, ih]
theorem sumN_add (f g : Nat → Nat) (n : Nat) : sumN (fun j => f j + g j) n = sumN f n + sumN g n := by
  induction n with
  | zero => rfl
  | succ n ih => simp only [sumN]; rw [ih]; omega
theorem sumN_one (q : Nat) : ∀ n, sumN (fun j => if j = q then 1 else 0) n = if q < n then 1 else 0 := by
  intro n
  induction n with
  | zero => rfl
  | succ n ih =>
    rw [sumN, ih]
    by_cases h : n = q
    · subst h; simp
    · by_cases h2 : q < n
      · rw [if_pos h2, if_neg h, if_pos (by omega)]
      · rw [if_neg h2, if_neg h, if_neg (by omega)]
theorem sumN_full {f : Nat → Nat} : ∀ n, (∀ j, j < n → f j ≤ 1) → sumN f n ≤ n ∧ (sumN f n = n → ∀ j, j < n → f j = 1) := by
  intro n
  induction n with
  | zero => intro _; exact ⟨Nat.le_refl _, fun _ j h => by omega⟩
  | succ n ih =>
    intro h
    obtain ⟨a, b⟩ := ih (fun j hj => h j (by omega))
    have hn := h n (by omega)
    rw [sumN]
    refine ⟨by omega, fun e j hj => ?_⟩
    by_cases e2 : j = n
    · subst e2; omega
    · exact b (by omega) j (by omega)
theorem sumN_ones {f : Nat → Nat} : ∀ n, (∀ j, j < n → f j = 1) → sumN f n = n := by
  intro n
  induction n with
  | zero => intro _; rfl
  | succ n ih => intro h; rw [sumN, ih (fun j hj => h j (by omega)), h n (by omega)]
/-- The rods that hang, told by their numbers; rod 0 counts as one. -/
def timesM (m : MobV) (T : Nat) (j : Nat) : Nat := if j = 0 then 1 else cntM m T j
theorem times_sum (m : MobV) (n : Nat) (hn : 1 ≤ n) : ∀ T, (∀ t, t < T → hvM m t < 0 → -hvM m t < (n : Int)) → sumN (timesM m T) n = negM m T + 1 := by
  intro T
  induction T with
  | zero =>
    intro _
    have : sumN (timesM m 0) n = sumN (fun j => if j = 0 then 1 else 0) n := sumN_congr n (fun j _ => by unfold timesM; by_cases e : j = 0 <;> simp [e, cntM])
    rw [this, sumN_one, if_pos (by omega)]
    rfl
  | succ T ih =>
    intro h
    have ih := ih (fun t ht => h t (by omega))
    rw [negM]
    by_cases hneg : hvM m T < 0
    · have hq := h T (by omega) hneg
      rw [if_pos hneg]
      have : sumN (timesM m (T + 1)) n = sumN (fun j => timesM m T j + if j = (-hvM m T).toNat then 1 else 0) n := sumN_congr n (fun j _ => by
        unfold timesM
        by_cases e : j = 0
        · rw [if_pos e, if_pos e, if_neg (by omega)]
        · rw [if_neg e, if_neg e, cntM]
          by_cases e2 : j = (-hvM m T).toNat
          · rw [if_pos e2, if_pos (by omega)]
          · rw [if_neg e2, if_neg (by omega)])
      rw [this, sumN_add, sumN_one, if_pos (by omega), ih]
    · rw [if_neg hneg]
      have : sumN (timesM m (T + 1)) n = sumN (timesM m T) n := sumN_congr n (fun j _ => by
        unfold timesM
        by_cases e : j = 0
        · rw [if_pos e, if_pos e]
        · rw [if_neg e, if_neg e, cntM, if_neg (by omega)]; rfl)
      rw [this, ih, Nat.add_zero]
theorem cntM_mono (m : MobV) (j : Nat) {T T' : Nat} (h : T ≤ T') : cntM m T j ≤ cntM m T' j := by
  induction T' with
  | zero => have : T = 0 := by omega
            subst this; exact Nat.le_refl _
  | succ k ih =>
    by_cases e : T = k + 1
    · subst e; exact Nat.le_refl _
    · have := ih (by omega)
      rw [cntM]; omega
/-- All ends are in order and no rod hangs twice: then it is a mobile just if as many rods hang as can. -/
theorem good_by_count {m : MobV} (h1 : 1 ≤ m.am.length) (h6 : m.am.length ≤ 6) (hs : m.hu.length = m.am.length) (he : ∀ t, t < 2 * m.am.length → EndF m t) (hc : ∀ j, 1 ≤ j → j < m.am.length → cntM m (2 * m.am.length) j ≤ 1) :
    goodB m = decide ((negM m (2 * m.am.length) : Int) = (m.am.length : Int) - 1) := by
  have hsum := times_sum m m.am.length h1 (2 * m.am.length) (fun t ht hn => by have := (he t ht).2; omega)
  have hle : ∀ j, j < m.am.length → timesM m (2 * m.am.length) j ≤ 1 := fun j hj => by
    unfold timesM
    by_cases e : j = 0
    · rw [if_pos e]; exact Nat.le_refl _
    · rw [if_neg e]; exact hc j (by omega) hj
  by_cases hn : (negM m (2 * m.am.length) : Int) = (m.am.length : Int) - 1
  · rw [decide_eq_true hn]
    refine propB_yes ⟨h1, h6, hs, he, fun j hj hjn => ?_⟩
    have := (sumN_full m.am.length hle).2 (by rw [hsum]; omega) j hjn
    unfold timesM at this
    rw [if_neg (by omega)] at this
    exact this
  · rw [decide_eq_false hn]
    refine propB_no (fun f => hn ?_)
    have := sumN_ones (f := timesM m (2 * m.am.length)) m.am.length (fun j hj => by
      unfold timesM
      by_cases e : j = 0
      · rw [if_pos e]
      · rw [if_neg e]; exact f.once j (by omega) hj)
    rw [this] at hsum
    omega
theorem good_twice {m : MobV} {j T : Nat} (hj : 1 ≤ j) (hn : j < m.am.length) (hT : T ≤ 2 * m.am.length) (h : 2 ≤ cntM m T j) : goodB m = false :=
  propB_no (fun f => by have := f.once j hj hn; have := cntM_mono m j hT; omega)
theorem good_end {m : MobV} {t : Nat} (ht : t < 2 * m.am.length) (h : ¬ EndF m t) : goodB m = false := propB_no (fun f => h (f.ends t ht))
end Go.Proofs.Ytnadchgekfljkaa
