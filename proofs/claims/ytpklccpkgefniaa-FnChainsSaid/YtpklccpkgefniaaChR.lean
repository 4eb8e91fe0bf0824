/- Plain facts on chains that the laws ask. No program stands here. -/
import Derived.Test.YtpklccpkgefniaaChP
namespace Go.Proofs.Ytpklccpkgefniaa
theorem cut_scale (a b k : Int) (hk : 0 < k) (hb : 0 < b) : cutA (a * k) (b * k) = cutA a b ∧ cutB (a * k) (b * k) = cutB a b := by
  have hg := gc_pos a b hb
  have e : gcF (a * k) (b * k) = gcF a b * k := by
    unfold gcF
    rw [Int.natAbs_mul, Int.natAbs_mul, Nat.gcd_mul_right, Int.natCast_mul, Int.natAbs_of_nonneg (by omega)]
  have hm := cut_mul a b
  have h1 : cutA (a * k) (b * k) = cutA a b := by
    have : a * k = cutA a b * (gcF a b * k) := by rw [← Int.mul_assoc, hm.1]
    unfold cutA at *
    rw [e]
    conv => lhs; rw [this]
    exact Int.mul_tdiv_cancel _ (by have := Int.mul_pos hg hk; omega)
  have h2 : cutB (a * k) (b * k) = cutB a b := by
    have : b * k = cutB a b * (gcF a b * k) := by rw [← Int.mul_assoc, hm.2]
    unfold cutB at *
    rw [e]
    conv => lhs; rw [this]
    exact Int.mul_tdiv_cancel _ (by have := Int.mul_pos hg hk; omega)
  exact ⟨h1, h2⟩
/-- All numerators and all denominators. -/
def numF : List StageV → Int
  | [] => 1
  | s :: l => (gnF s).1 * numF l
def denF : List StageV → Int
  | [] => 1
  | s :: l => (gnF s).2 * denF l
theorem num_app (xs ys : List StageV) : numF (xs ++ ys) = numF xs * numF ys := by
  induction xs with
  | nil => simp [numF]
  | cons x l ih => simp only [List.cons_append, numF, ih, Int.mul_assoc]
theorem den_app (xs ys : List StageV) : denF (xs ++ ys) = denF xs * denF ys := by
  induction xs with
  | nil => simp [denF]
  | cons x l ih => simp only [List.cons_append, denF, ih, Int.mul_assoc]
theorem num_rev (xs : List StageV) : numF xs.reverse = numF xs := by
  induction xs with
  | nil => rfl
  | cons x l ih => rw [List.reverse_cons, num_app, ih]; simp only [numF, Int.mul_one]; rw [Int.mul_comm]
theorem den_rev (xs : List StageV) : denF xs.reverse = denF xs := by
  induction xs with
  | nil => rfl
  | cons x l ih => rw [List.reverse_cons, den_app, ih]; simp only [denF, Int.mul_one]; rw [Int.mul_comm]
theorem nd_pos {xs : List StageV} (h : allB xs = true) : 0 < numF xs ∧ 0 < denF xs := by
  induction xs with
  | nil => simp [numF, denF]
  | cons x l ih =>
    have hx := gn_bound x ((allB_iff _).1 h x (by simp))
    have hl := ih ((allB_iff _).2 (fun s hs => (allB_iff _).1 h s (by simp [hs])))
    simp only [numF, denF]
    exact ⟨Int.mul_pos (by omega) hl.1, Int.mul_pos (by omega) hl.2⟩
theorem ch_cut (n : Nat) : ∀ xs : List StageV, xs.length = n → allB xs = true → chF xs = (cutA (numF xs) (denF xs), cutB (numF xs) (denF xs)) := by
  induction n with
  | zero =>
    intro xs hl _
    rw [List.length_eq_zero_iff.1 hl]
    decide
  | succ n ih =>
    intro xs hl h
    have he : xs = xs.take n ++ [xs.getD n stZ] := by rw [← take_snocS xs n (by omega), List.take_of_length_le (by omega)]
    have ht := allB_take h n
    have hi := ih (xs.take n) (by rw [List.length_take]; omega) ht
    have hp := nd_pos ht
    have hg := gn_bound _ (allB_at h (k := n) (by omega))
    rw [he, ch_snoc, hi, num_app, den_app]
    generalize xs.getD n stZ = s at *
    generalize xs.take n = ys at *
    have e1 : numF [s] = (gnF s).1 := by simp [numF]
    have e2 : denF [s] = (gnF s).2 := by simp [denF]
    rw [e1, e2]
    have hgc := gc_pos (numF ys) (denF ys) hp.2
    have hm := cut_mul (numF ys) (denF ys)
    have hcb := cut_pos (numF ys) (denF ys) hp.2
    have hk := cut_scale (cutA (numF ys) (denF ys) * (gnF s).1) (cutB (numF ys) (denF ys) * (gnF s).2) (gcF (numF ys) (denF ys)) hgc (Int.mul_pos (by omega) (by omega))
    have r1 : cutA (numF ys) (denF ys) * (gnF s).1 * gcF (numF ys) (denF ys) = numF ys * (gnF s).1 := by
      rw [Int.mul_right_comm, hm.1]
    have r2 : cutB (numF ys) (denF ys) * (gnF s).2 * gcF (numF ys) (denF ys) = denF ys * (gnF s).2 := by
      rw [Int.mul_right_comm, hm.2]
    rw [r1, r2] at hk
    unfold mulF
    simp only
    rw [← hk.1, ← hk.2]
theorem allB_rev {xs : List StageV} (h : allB xs = true) : allB xs.reverse = true := (allB_iff _).2 (fun s hs => (allB_iff _).1 h s (List.mem_reverse.1 hs))
theorem ch_rev {xs : List StageV} (h : allB xs = true) : chF xs.reverse = chF xs := by
  rw [ch_cut _ _ rfl (allB_rev h), ch_cut _ _ rfl h, num_rev, den_rev]
theorem cg_rev (xs : List StageV) (h : chainB xs = true) : cgF xs.reverse = cgF xs ∧ chainB xs.reverse = true := by
  have hx := (chainB_iff xs).1 h
  have hr : chainB xs.reverse = true := (chainB_iff _).2 ⟨allB_rev hx.1, by rw [List.length_reverse]; exact hx.2⟩
  refine ⟨?_, hr⟩
  unfold cgF
  rw [hr, h, ch_rev hx.1]
/-- What the law on chains asks of a chain and a number. -/
structure AskF (xs : List StageV) (n : Int) : Prop where
  pull : (pullF xs n).1 * (cgF xs).1 = n * (pullF xs n).2 * (cgF xs).2
  haul : (haulF xs n).1 * (cgF xs).2 = n * (haulF xs n).2 * (cgF xs).1
  least : (pullF xs n).1 ≤ leastF xs n * (pullF xs n).2 ∧ (leastF xs n - 1) * (pullF xs n).2 < (pullF xs n).1
  most : mostF xs n * (cgF xs).2 ≤ n * (cgF xs).1
  back : leastF xs n ≤ 1000000 → askB xs (leastF xs n) = true ∧ n ≤ mostF xs (leastF xs n)
  b0 : 0 ≤ n ∧ n ≤ 1000000
  b1 : (1 ≤ (cgF xs).1 ∧ (cgF xs).1 ≤ 254803968) ∧ 1 ≤ (cgF xs).2 ∧ (cgF xs).2 ≤ 254803968
  b2 : (0 ≤ (pullF xs n).1 ∧ (pullF xs n).1 ≤ 254803968000000) ∧ 1 ≤ (pullF xs n).2 ∧ (pullF xs n).2 ≤ 254803968
  b3 : (0 ≤ (haulF xs n).1 ∧ (haulF xs n).1 ≤ 254803968000000) ∧ 1 ≤ (haulF xs n).2 ∧ (haulF xs n).2 ≤ 254803968
  b4 : 0 ≤ leastF xs n ∧ leastF xs n ≤ 300000000000000
  b5 : 0 ≤ mostF xs n ∧ mostF xs n ≤ 300000000000000
theorem cut_sizes (a b : Int) (ha : 0 ≤ a) (hb : 0 < b) : (0 ≤ cutA a b ∧ cutA a b ≤ a) ∧ 1 ≤ cutB a b ∧ cutB a b ≤ b := by
  have h0 := (cut_sign a b hb).2 ha
  have h1 := tdiv_abs a (gcF a b)
  have h2 := cut_pos a b hb
  have h3 := tdiv_abs b (gcF a b)
  unfold cutA cutB at *
  omega
theorem askF {xs : List StageV} {n : Int} (h : askB xs n = true) : AskF xs n := by
  have hx := (askB_iff xs n).1 h
  have hc : chainB xs = true := (chainB_iff xs).2 hx.1
  have bd := ch_bound hx.1.1 hx.1.2
  have ec : cgF xs = chF xs := by unfold cgF; rw [hc]; rfl
  have ep : pullF xs n = divF (chF xs) n := by unfold pullF; rw [h]; rfl
  have eh : haulF xs n = mltF (chF xs) n := by unfold haulF; rw [h]; rfl
  have el : leastF xs n = Int.tdiv (n * (chF xs).2 + (chF xs).1 - 1) (chF xs).1 := by unfold leastF; rw [if_pos h]
  have em : mostF xs n = Int.tdiv (n * (chF xs).1) (chF xs).2 := by unfold mostF; rw [if_pos h]
  have hmost : ∀ k, askB xs k = true → mostF xs k = Int.tdiv (k * (chF xs).1) (chF xs).2 := fun k hk => by unfold mostF; rw [if_pos hk]
  have hask : ∀ k, 0 ≤ k → k ≤ 1000000 → askB xs k = true := fun k h0 h1 => (askB_iff xs k).2 ⟨hx.1, h0, h1⟩
  obtain ⟨_, n0, n1⟩ := hx
  obtain ⟨g, hg⟩ : ∃ g, chF xs = g := ⟨_, rfl⟩
  rw [hg] at bd ec ep eh el em
  have hmost : ∀ k, askB xs k = true → mostF xs k = Int.tdiv (k * g.1) g.2 := fun k hk => by rw [hmost k hk, hg]
  obtain ⟨g1, g2⟩ := g
  simp only at bd el em hmost
  have m1 := muln_bound n g2 n0 n1 (by omega) (by omega)
  have m2 := muln_bound n g1 n0 n1 (by omega) (by omega)
  unfold divF at ep
  unfold mltF at eh
  simp only at ep eh
  have c1 := cut_sizes (n * g2) g1 m1.1 (by omega)
  have c2 := cut_sizes (n * g1) g2 m2.1 (by omega)
  have x1 := cut_cross (n * g2) g1
  have x2 := cut_cross (n * g1) g2
  have u1 := up_cut (n * g2) g1 m1.1 (by omega)
  rw [← u1] at el
  generalize hpA : cutA (n * g2) g1 = pA at *
  generalize hpB : cutB (n * g2) g1 = pB at *
  generalize cutA (n * g1) g2 = hA at *
  generalize cutB (n * g1) g2 = hB at *
  have hlv : leastF xs n = (pA + pB - 1) / pB := by rw [el, Int.tdiv_eq_ediv_of_nonneg (by omega)]
  have l1 := Int.mul_ediv_self_le (x := pA + pB - 1) (k := pB) (by omega)
  have l2 := Int.lt_mul_ediv_self_add (x := pA + pB - 1) (k := pB) (by omega)
  have l3 : 0 ≤ (pA + pB - 1) / pB := Int.ediv_nonneg (by omega) (by omega)
  have l4 : (pA + pB - 1) / pB ≤ pA + pB - 1 := Int.ediv_le_self _ (by omega)
  rw [← hlv] at l1 l2 l3 l4
  have hmv : mostF xs n = n * g1 / g2 := by rw [em, Int.tdiv_eq_ediv_of_nonneg m2.1]
  have k1 := Int.mul_ediv_self_le (x := n * g1) (k := g2) (by omega)
  have k3 : 0 ≤ n * g1 / g2 := Int.ediv_nonneg m2.1 (by omega)
  have k4 : n * g1 / g2 ≤ n * g1 := Int.ediv_le_self _ m2.1
  rw [← hmv] at k1 k3 k4
  obtain ⟨y, hy⟩ : ∃ y, leastF xs n = y := ⟨_, rfl⟩
  obtain ⟨z, hz⟩ : ∃ z, mostF xs n = z := ⟨_, rfl⟩
  rw [hy] at l1 l2 l3 l4
  rw [hz] at k1 k3 k4
  have comm1 : pB * y = y * pB := Int.mul_comm _ _
  refine ⟨?_, ?_, ?_, ?_, ?_, ⟨n0, n1⟩, by rw [ec]; exact bd, by rw [ep]; simp only; omega, by rw [eh]; simp only; omega, by rw [hy]; omega, by rw [hz]; omega⟩
  · rw [ep, ec]; simp only; rw [x1, Int.mul_right_comm]
  · rw [eh, ec]; simp only; rw [x2, Int.mul_right_comm]
  · rw [ep, hy]; simp only
    have e : (y - 1) * pB = y * pB - pB := by rw [Int.sub_mul]; omega
    rw [e]
    omega
  · rw [ec, hz]; simp only; rw [Int.mul_comm]; exact k1
  · rw [hy]
    intro hyy
    have hk := hask y l3 hyy
    refine ⟨hk, ?_⟩
    rw [hmost y hk, Int.tdiv_eq_ediv_of_nonneg (Int.mul_nonneg l3 (by omega))]
    rw [Int.le_ediv_iff_mul_le (by omega)]
    have hpy : pA ≤ y * pB := by omega
    have q1 : pA * g1 ≤ y * pB * g1 := Int.mul_le_mul_of_nonneg_right hpy (by omega)
    rw [x1] at q1
    have q2 : n * g2 * pB ≤ y * g1 * pB := by rw [Int.mul_right_comm y g1 pB]; exact q1
    exact Int.le_of_mul_le_mul_right q2 (by omega)
/-- A lever just holds a load exactly if its row's moment is 0. -/
theorem just_holds (a b n m : Int) (ha : 1 ≤ a ∧ a ≤ 24) (hb : 1 ≤ b ∧ b ≤ 24) (hn : 1 ≤ n ∧ n ≤ 99) :
    ((m * a + -(n * b) == 0) = ((pullF [⟨1, a, b⟩] n).1 == m && (pullF [⟨1, a, b⟩] n).2 == 1)) ∧ askB [⟨1, a, b⟩] n = true := by
  have hs : stgB ⟨1, a, b⟩ = true := by
    unfold stgB
    rw [if_pos (.inl rfl)]
    exact (twoB_iff a b).2 ⟨ha, hb⟩
  have hask : askB [⟨1, a, b⟩] n = true := (askB_iff _ n).2 ⟨⟨(allB_iff _).2 (fun s h => by simp at h; subst h; exact hs), by simp⟩, by omega, by omega⟩
  refine ⟨?_, hask⟩
  have ep : pullF [⟨1, a, b⟩] n = divF (chF [⟨1, a, b⟩]) n := by unfold pullF; rw [hask]; rfl
  have ec : chF [⟨1, a, b⟩] = (cutA a b, cutB a b) := by
    have hm := cut_mul a b
    have hg := gc_pos a b (by omega)
    have e1 : chF [⟨1, a, b⟩] = mulF (1, 1) (cutA a b, cutB a b) := by simp [chF, gnF]
    rw [e1]
    have hcb := cut_pos a b (by omega)
    have hk := cut_scale (cutA a b) (cutB a b) (gcF a b) hg (by omega)
    rw [hm.1, hm.2] at hk
    unfold mulF
    simp only [Int.one_mul]
    rw [← hk.1, ← hk.2]
  rw [ep, ec]
  unfold divF
  simp only
  have cs := cut_le a b (by omega) (by omega)
  have hx := cut_cross a b
  generalize cutA a b = x at *
  generalize cutB a b = y at *
  have ny : 0 < n * y := Int.mul_pos (by omega) (by omega)
  have hc2 := cut_cross (n * y) x
  have h1 := cut_one (n * y) x (by omega)
  generalize cutA (n * y) x = p at *
  generalize cutB (n * y) x = q at *
  rw [Bool.eq_iff_iff]
  simp only [Bool.and_eq_true, beq_iff_eq]
  constructor
  · intro h
    have hmb : m * a = n * b := by omega
    -- m * x = n * y
    have e : m * x * b = n * y * b := by
      calc m * x * b = m * (x * b) := Int.mul_assoc _ _ _
        _ = m * (a * y) := by rw [hx]
        _ = m * a * y := (Int.mul_assoc _ _ _).symm
        _ = n * b * y := by rw [hmb]
        _ = n * y * b := Int.mul_right_comm _ _ _
    have e2 : m * x = n * y := Int.eq_of_mul_eq_mul_right (by omega) e
    have hq : q = 1 := h1.2 ⟨m, by rw [← e2, Int.mul_comm]⟩
    refine ⟨?_, hq⟩
    rw [hq, Int.mul_one, ← e2] at hc2
    exact Int.eq_of_mul_eq_mul_right (by omega) hc2
  · rintro ⟨hp, hq⟩
    rw [hp, hq, Int.mul_one] at hc2
    have e : m * a * y = n * b * y := by
      calc m * a * y = m * (a * y) := Int.mul_assoc _ _ _
        _ = m * (x * b) := by rw [hx]
        _ = m * x * b := (Int.mul_assoc _ _ _).symm
        _ = n * y * b := by rw [hc2]
        _ = n * b * y := Int.mul_right_comm _ _ _
    have := Int.eq_of_mul_eq_mul_right (show y ≠ 0 by omega) e
    omega
end Go.Proofs.Ytpklccpkgefniaa
