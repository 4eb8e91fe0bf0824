/- Plain facts on rows that stand and tip. No program stands here. -/
import Derived.Test.YtcfbnadefdcjaaaRowPlain
namespace Go.Proofs.Ytcfbnadefdcjaaa
/-- The side to which a row tips, or 0. -/
def sideF (a b : Int) (zs : List (Int × Int)) : Int := if momF a zs < 0 then -1 else if 0 < momF b zs then 1 else 0
theorem side_zero (a b : Int) (zs : List (Int × Int)) : sideF a b zs = 0 ↔ 0 ≤ momF a zs ∧ momF b zs ≤ 0 := by
  unfold sideF
  split
  · simp; omega
  · split
    · simp; omega
    · simp; omega
theorem react_side (a b : Int) (zs : List (Int × Int)) (h : a < b) : (0 ≤ cutA (-momF b zs) (b - a) ∧ 0 ≤ cutA (momF a zs) (b - a)) ↔ sideF a b zs = 0 := by
  rw [cut_sign _ _ (by omega), cut_sign _ _ (by omega), side_zero]
  omega
theorem react_sum (a b : Int) (zs : List (Int × Int)) (h : a < b) :
    cutA (-momF b zs) (b - a) * cutB (momF a zs) (b - a) + cutA (momF a zs) (b - a) * cutB (-momF b zs) (b - a) = wtF zs * cutB (-momF b zs) (b - a) * cutB (momF a zs) (b - a) := by
  have h1 := cut_cross (-momF b zs) (b - a)
  have h2 := cut_cross (momF a zs) (b - a)
  have hm := mom_move a b zs
  obtain ⟨d, hd⟩ : ∃ d, b - a = d := ⟨_, rfl⟩
  rw [hd] at h1 h2 hm
  have hpos : d ≠ 0 := by omega
  rw [hd]
  generalize cutA (-momF b zs) d = u at *
  generalize cutB (-momF b zs) d = v at *
  generalize cutA (momF a zs) d = x at *
  generalize cutB (momF a zs) d = y at *
  generalize wtF zs = w at *
  refine Int.eq_of_mul_eq_mul_right hpos ?_
  calc (u * y + x * v) * d = (u * d) * y + (x * d) * v := by rw [Int.add_mul, Int.mul_right_comm u y d, Int.mul_right_comm x v d]
    _ = (-momF b zs * v) * y + (momF a zs * y) * v := by rw [h1, h2]
    _ = -momF b zs * (v * y) + momF a zs * (v * y) := by rw [Int.mul_assoc, Int.mul_assoc, Int.mul_comm y v]
    _ = (momF a zs - momF b zs) * (v * y) := by rw [← Int.add_mul]; congr 1; omega
    _ = (d * w) * (v * y) := by congr 1; omega
    _ = w * v * y * d := by rw [Int.mul_assoc w v y, Int.mul_comm d w, Int.mul_assoc w d, Int.mul_comm d (v * y), ← Int.mul_assoc]
theorem mirror_side (a b c : Int) (zs : List (Int × Int)) (h : a ≤ b) (hw : 0 ≤ wtF zs) : sideF (c - b) (c - a) (moved (-1) c zs) = - sideF a b zs := by
  have hm := mom_move a b zs
  have hk : 0 ≤ (b - a) * wtF zs := Int.mul_nonneg (by omega) hw
  unfold sideF
  rw [mom_mirror, mom_mirror]
  repeat' split
  all_goals omega
theorem stand_both (a b : Int) (xs ys : List (Int × Int)) (hx : sideF a b xs = 0) (hy : sideF a b ys = 0) : sideF a b (xs ++ ys) = 0 := by
  rw [side_zero] at *
  rw [mom_app, mom_app]
  omega
/-- One more load stands between two places at which it stands. -/
theorem stand_between (a b w l q h : Int) (zs : List (Int × Int)) (hw : 0 ≤ w) (h1 : l ≤ q) (h2 : q ≤ h) (hl : sideF a b (zs ++ [(l, w)]) = 0) (hh : sideF a b (zs ++ [(h, w)]) = 0) : sideF a b (zs ++ [(q, w)]) = 0 := by
  rw [side_zero, mom_snoc, mom_snoc] at *
  simp only at *
  have a1 : w * (l - a) ≤ w * (q - a) := Int.mul_le_mul_of_nonneg_left (by omega) hw
  have a2 : w * (q - b) ≤ w * (h - b) := Int.mul_le_mul_of_nonneg_left (by omega) hw
  omega
/-- The narrow base. -/
theorem narrow_low (m w : Int) (hm : 0 ≤ m) (hw : 0 < w) : Int.tdiv m w * w ≤ m ∧ m < (Int.tdiv m w + 1) * w ∧ 0 ≤ Int.tdiv m w := by
  rw [Int.tdiv_eq_ediv_of_nonneg hm]
  have h1 := Int.mul_ediv_add_emod m w
  have h2 := Int.emod_nonneg m (show w ≠ 0 by omega)
  have h3 := Int.emod_lt_of_pos m hw
  have h4 : 0 ≤ m / w := Int.ediv_nonneg hm (by omega)
  rw [Int.add_mul, Int.one_mul, Int.mul_comm (m / w) w]
  omega
theorem narrow_on (zs : List (Int × Int)) (hm : 0 ≤ momF 0 zs) (hw : 0 < wtF zs) : sideF (Int.tdiv (momF 0 zs) (wtF zs)) (Int.tdiv (momF 0 zs) (wtF zs) + 1) zs = 0 := by
  have h := narrow_low _ _ hm hw
  rw [side_zero, mom_at, mom_at (Int.tdiv (momF 0 zs) (wtF zs) + 1)]
  omega
theorem narrow_at (zs : List (Int × Int)) (l : Int) (h : l * wtF zs = momF 0 zs) : sideF l l zs = 0 := by
  rw [side_zero, mom_at]
  omega
theorem narrow_one (m w : Int) (hw : 0 < w) : cutB m w = 1 ↔ Int.tdiv m w * w = m := by
  rw [cut_one _ _ hw]
  constructor
  · intro h; exact Int.tdiv_mul_cancel h
  · intro h; exact ⟨Int.tdiv m w, by rw [Int.mul_comm]; exact h.symm⟩
theorem centre_none (zs : List (Int × Int)) (h : cutB (momF 0 zs) (wtF zs) = 1) : momF (cutA (momF 0 zs) (wtF zs)) zs = 0 := by
  have hc := cut_cross (momF 0 zs) (wtF zs)
  rw [h, Int.mul_one] at hc
  rw [mom_at, hc]
  omega
/-- The weight of all loads at a place. -/
def sumAt (p : Int) : List (Int × Int) → Int
  | [] => 0
  | x :: l => (if x.1 = p then x.2 else 0) + sumAt p l
/-- One load for each place below n, in order. -/
def mergedF (zs : List (Int × Int)) : Nat → List (Int × Int)
  | 0 => []
  | n + 1 => mergedF zs n ++ (if 0 < sumAt n zs then [((n : Int), sumAt n zs)] else [])
theorem sumAt_app (p : Int) (xs ys : List (Int × Int)) : sumAt p (xs ++ ys) = sumAt p xs + sumAt p ys := by
  induction xs with
  | nil => simp [sumAt]
  | cons x l ih => simp only [List.cons_append, sumAt, ih]; omega
theorem sumAt_take (p : Int) (xs : List (Int × Int)) (k : Nat) (h : k < xs.length) : sumAt p (xs.take (k + 1)) = sumAt p (xs.take k) + (if (xs.getD k (0, 0)).1 = p then (xs.getD k (0, 0)).2 else 0) := by
  rw [List.take_add_one, List.getElem?_eq_getElem h, List.getD, List.getElem?_eq_getElem h, sumAt_app]
  simp [sumAt]
theorem sumAt_bound (p : Int) (xs : List (Int × Int)) (h : ∀ x ∈ xs, (0 ≤ x.1 ∧ x.1 ≤ 60) ∧ 1 ≤ x.2 ∧ x.2 ≤ 99) : 0 ≤ sumAt p xs ∧ sumAt p xs ≤ wtF xs := by
  induction xs with
  | nil => simp [sumAt, wtF]
  | cons x l ih =>
    have h1 := h x (by simp)
    have h2 := ih (fun y hy => h y (by simp [hy]))
    simp only [sumAt, wtF]
    split <;> omega
def momP (q : Int) (zs : List (Int × Int)) : Nat → Int
  | 0 => 0
  | n + 1 => momP q zs n + sumAt n zs * (n - q)
theorem merged_mom (q : Int) (zs : List (Int × Int)) (h : ∀ p, 0 ≤ sumAt p zs) : ∀ n, momF q (mergedF zs n) = momP q zs n := by
  intro n
  induction n with
  | zero => rfl
  | succ n ih =>
    rw [mergedF, momP, mom_app, ih]
    split
    · simp [momF]
    · have := h n
      have e : sumAt n zs = 0 := by omega
      rw [e]
      simp [momF]
theorem momP_cons (q : Int) (x : Int × Int) (l : List (Int × Int)) (h0 : 0 ≤ x.1) : ∀ n : Nat, momP q (x :: l) n = momP q l n + (if x.1 < n then x.2 * (x.1 - q) else 0) := by
  intro n
  induction n with
  | zero => simp [momP]; omega
  | succ n ih =>
    rw [momP, momP, ih, sumAt]
    by_cases h1 : x.1 < (n : Int)
    · rw [if_pos h1, if_neg (by omega), if_pos (by omega), Int.zero_add]
      omega
    · by_cases h2 : x.1 = (n : Int)
      · rw [if_neg h1, if_pos h2, if_pos (by omega), Int.add_mul, h2]
        omega
      · rw [if_neg h1, if_neg h2, if_neg (by omega), Int.zero_add]
        omega
theorem momP_nil (q : Int) : ∀ n, momP q [] n = 0 := by
  intro n
  induction n with
  | zero => rfl
  | succ n ih => rw [momP, ih, sumAt]; simp
theorem momP_all (q : Int) (n : Nat) (zs : List (Int × Int)) (h : ∀ x ∈ zs, 0 ≤ x.1 ∧ x.1 < n) : momP q zs n = momF q zs := by
  induction zs with
  | nil => rw [momP_nil]; rfl
  | cons x l ih =>
    have h1 := h x (by simp)
    rw [momP_cons q x l h1.1, ih (fun y hy => h y (by simp [hy])), if_pos h1.2, momF]
    omega
theorem merged_same (q : Int) {zs : List (Int × Int)} (h : RowF zs) : momF q (mergedF zs 61) = momF q zs := by
  rw [merged_mom q zs (fun p => (sumAt_bound p zs h.each).1), momP_all q 61 zs (fun x hx => by have := h.each x hx; omega)]
theorem merged_below (zs : List (Int × Int)) : ∀ n, ∀ x ∈ mergedF zs n, 0 ≤ x.1 ∧ x.1 < n ∧ 0 < x.2 := by
  intro n
  induction n with
  | zero => intro x hx; cases hx
  | succ n ih =>
    intro x hx
    rw [mergedF] at hx
    rcases List.mem_append.1 hx with h | h
    · have := ih x h; omega
    · split at h
      · simp at h; subst h; simp; omega
      · cases h
theorem merged_rise (zs : List (Int × Int)) : ∀ n, (mergedF zs n).Pairwise (fun x y => x.1 < y.1) := by
  intro n
  induction n with
  | zero => exact List.Pairwise.nil
  | succ n ih =>
    rw [mergedF, List.pairwise_append]
    refine ⟨ih, ?_, ?_⟩
    · split <;> simp
    · intro x hx y hy
      have := merged_below zs n x hx
      split at hy
      · simp at hy; subst hy; exact this.2.1
      · cases hy
theorem merged_len (zs : List (Int × Int)) : ∀ n, (mergedF zs n).length ≤ n := by
  intro n
  induction n with
  | zero => simp [mergedF]
  | succ n ih => rw [mergedF, List.length_append]; split <;> simp <;> omega
end Go.Proofs.Ytcfbnadefdcjaaa
