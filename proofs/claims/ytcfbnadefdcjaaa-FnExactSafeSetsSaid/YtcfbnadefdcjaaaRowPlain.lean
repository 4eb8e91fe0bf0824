/- Plain facts on rows of loads and on fractions. No program stands here. -/
import Derived.Lib.Hide
namespace Go.Proofs.Ytcfbnadefdcjaaa
/-- The weight of a row. -/
def wtF : List (Int × Int) → Int
  | [] => 0
  | x :: l => x.2 + wtF l
/-- The moment of a row about a place. -/
def momF (p : Int) : List (Int × Int) → Int
  | [] => 0
  | x :: l => x.2 * (x.1 - p) + momF p l
def loadB (x : Int × Int) : Bool := decide (0 ≤ x.1) && decide (x.1 ≤ 60) && (decide (1 ≤ x.2) && decide (x.2 ≤ 99))
/-- What a row is. -/
structure RowF (zs : List (Int × Int)) : Prop where
  short : zs.length ≤ 12
  each : ∀ x ∈ zs, (0 ≤ x.1 ∧ x.1 ≤ 60) ∧ 1 ≤ x.2 ∧ x.2 ≤ 99
theorem loadB_iff (x : Int × Int) : loadB x = true ↔ (0 ≤ x.1 ∧ x.1 ≤ 60) ∧ 1 ≤ x.2 ∧ x.2 ≤ 99 := by simp [loadB]
theorem rowF_iff (zs : List (Int × Int)) : RowF zs ↔ zs.length ≤ 12 ∧ ∀ x ∈ zs, loadB x = true :=
  ⟨fun h => ⟨h.short, fun x hx => (loadB_iff x).2 (h.each x hx)⟩, fun h => ⟨h.1, fun x hx => (loadB_iff x).1 (h.2 x hx)⟩⟩
theorem wt_app (xs ys : List (Int × Int)) : wtF (xs ++ ys) = wtF xs + wtF ys := by
  induction xs with
  | nil => simp [wtF]
  | cons x l ih => simp only [List.cons_append, wtF, ih]; omega
theorem mom_app (p : Int) (xs ys : List (Int × Int)) : momF p (xs ++ ys) = momF p xs + momF p ys := by
  induction xs with
  | nil => simp [momF]
  | cons x l ih => simp only [List.cons_append, momF, ih]; omega
theorem wt_snoc (xs : List (Int × Int)) (x : Int × Int) : wtF (xs ++ [x]) = wtF xs + x.2 := by rw [wt_app]; simp [wtF]
theorem mom_snoc (p : Int) (xs : List (Int × Int)) (x : Int × Int) : momF p (xs ++ [x]) = momF p xs + x.2 * (x.1 - p) := by rw [mom_app]; simp [momF]
theorem wt_take (xs : List (Int × Int)) (k : Nat) (h : k < xs.length) : wtF (xs.take (k + 1)) = wtF (xs.take k) + (xs.getD k (0, 0)).2 := by
  rw [List.take_add_one, List.getElem?_eq_getElem h, List.getD, List.getElem?_eq_getElem h]
  exact wt_snoc _ _
theorem mom_take (p : Int) (xs : List (Int × Int)) (k : Nat) (h : k < xs.length) : momF p (xs.take (k + 1)) = momF p (xs.take k) + (xs.getD k (0, 0)).2 * ((xs.getD k (0, 0)).1 - p) := by
  rw [List.take_add_one, List.getElem?_eq_getElem h, List.getD, List.getElem?_eq_getElem h]
  exact mom_snoc _ _ _
/-- The moment about a place is that about 0 less the place times the weight. -/
theorem mom_at (p : Int) (xs : List (Int × Int)) : momF p xs = momF 0 xs - p * wtF xs := by
  induction xs with
  | nil => simp [momF, wtF]
  | cons x l ih =>
    simp only [momF, wtF, ih, Int.mul_sub, Int.mul_add, Int.sub_zero, Int.mul_comm x.2 p]
    omega
theorem mom_move (p q : Int) (xs : List (Int × Int)) : momF p xs = momF q xs + (q - p) * wtF xs := by
  rw [mom_at p, mom_at q, Int.sub_mul]; omega
/-- Bounds of a part of a row. -/
theorem wt_bound (xs : List (Int × Int)) (h : ∀ x ∈ xs, (0 ≤ x.1 ∧ x.1 ≤ 60) ∧ 1 ≤ x.2 ∧ x.2 ≤ 99) : (xs.length : Int) ≤ wtF xs ∧ wtF xs ≤ 99 * xs.length := by
  induction xs with
  | nil => simp [wtF]
  | cons x l ih =>
    have h1 := h x (by simp)
    have h2 := ih (fun y hy => h y (by simp [hy]))
    simp only [wtF, List.length_cons]
    omega
theorem mom0_bound (xs : List (Int × Int)) (h : ∀ x ∈ xs, (0 ≤ x.1 ∧ x.1 ≤ 60) ∧ 1 ≤ x.2 ∧ x.2 ≤ 99) : 0 ≤ momF 0 xs ∧ momF 0 xs ≤ 60 * wtF xs := by
  induction xs with
  | nil => simp [momF, wtF]
  | cons x l ih =>
    have h1 := h x (by simp)
    have h2 := ih (fun y hy => h y (by simp [hy]))
    simp only [momF, wtF, Int.sub_zero]
    have a1 : 0 ≤ x.2 * x.1 := Int.mul_nonneg (by omega) (by omega)
    have a2 : x.2 * x.1 ≤ x.2 * 60 := Int.mul_le_mul_of_nonneg_left (by omega) (by omega)
    omega
theorem mom_bound (p : Int) (xs : List (Int × Int)) (h : ∀ x ∈ xs, (0 ≤ x.1 ∧ x.1 ≤ 60) ∧ 1 ≤ x.2 ∧ x.2 ≤ 99) (p0 : 0 ≤ p) (p1 : p ≤ 60) : -(60 * wtF xs) ≤ momF p xs ∧ momF p xs ≤ 60 * wtF xs := by
  have hm := mom0_bound xs h
  have hw := wt_bound xs h
  rw [mom_at]
  have a1 : 0 ≤ p * wtF xs := Int.mul_nonneg p0 (by omega)
  have a2 : p * wtF xs ≤ 60 * wtF xs := Int.mul_le_mul_of_nonneg_right p1 (by omega)
  omega
theorem rowF_take {zs : List (Int × Int)} (h : RowF zs) (k : Nat) : RowF (zs.take k) :=
  ⟨by simp; have := h.short; omega, fun x hx => h.each x (List.mem_of_mem_take hx)⟩
theorem rowF_bounds {zs : List (Int × Int)} (h : RowF zs) : 0 ≤ wtF zs ∧ wtF zs ≤ 1188 ∧ (zs ≠ [] → 1 ≤ wtF zs) ∧ ∀ p, 0 ≤ p → p ≤ 60 → -71280 ≤ momF p zs ∧ momF p zs ≤ 71280 := by
  have hw := wt_bound zs h.each
  have hs := h.short
  refine ⟨by omega, by omega, fun hn => ?_, fun p p0 p1 => ?_⟩
  · have : 0 < zs.length := List.length_pos_iff.2 hn
    omega
  · have := mom_bound p zs h.each p0 p1
    omega
/-- All loads turned by a sign and moved by a number. -/
def moved (s b : Int) (zs : List (Int × Int)) : List (Int × Int) := zs.map fun x => (s * x.1 + b, x.2)
theorem wt_moved (s b : Int) (zs : List (Int × Int)) : wtF (moved s b zs) = wtF zs := by
  induction zs with
  | nil => rfl
  | cons x l ih => simp only [moved, List.map_cons, wtF] at ih ⊢; rw [ih]
theorem mom_shift (b p : Int) (zs : List (Int × Int)) : momF (p + b) (moved 1 b zs) = momF p zs := by
  induction zs with
  | nil => rfl
  | cons x l ih =>
    simp only [moved, List.map_cons, momF] at ih ⊢
    rw [ih, show 1 * x.1 + b - (p + b) = x.1 - p by omega]
theorem mom_mirror (b p : Int) (zs : List (Int × Int)) : momF (b - p) (moved (-1) b zs) = - momF p zs := by
  induction zs with
  | nil => rfl
  | cons x l ih =>
    simp only [moved, List.map_cons, momF] at ih ⊢
    rw [ih, show -1 * x.1 + b - (b - p) = -(x.1 - p) by omega, Int.mul_neg]
    omega
theorem rowF_mirror {zs : List (Int × Int)} (h : RowF zs) : RowF (moved (-1) 60 zs) := by
  refine ⟨by simp [moved]; exact h.short, fun x hx => ?_⟩
  obtain ⟨y, hy, rfl⟩ := List.mem_map.1 hx
  have := h.each y hy
  simp only
  omega
/-- A fraction cut by the greatest common divisor. -/
def gcF (a b : Int) : Int := (Nat.gcd a.natAbs b.natAbs : Nat)
def cutA (a b : Int) : Int := Int.tdiv a (gcF a b)
def cutB (a b : Int) : Int := Int.tdiv b (gcF a b)
theorem gc_pos (a b : Int) (h : 0 < b) : 0 < gcF a b := by
  unfold gcF
  have : 0 < Nat.gcd a.natAbs b.natAbs := Nat.gcd_pos_of_pos_right _ (by omega)
  omega
theorem gc_step (a b : Nat) : Nat.gcd b (a % b) = Nat.gcd a b := by
  rw [Nat.gcd_comm a b, Nat.gcd_rec b a, Nat.gcd_comm]
theorem cut_mul (a b : Int) : cutA a b * gcF a b = a ∧ cutB a b * gcF a b = b := by
  have d1 : gcF a b ∣ a := by
    unfold gcF; exact Int.ofNat_dvd_left.2 (Nat.gcd_dvd_left _ _)
  have d2 : gcF a b ∣ b := by
    unfold gcF; exact Int.ofNat_dvd_left.2 (Nat.gcd_dvd_right _ _)
  exact ⟨Int.tdiv_mul_cancel d1, Int.tdiv_mul_cancel d2⟩
theorem cut_pos (a b : Int) (h : 0 < b) : 1 ≤ cutB a b := by
  have hg := gc_pos a b h
  have hm := (cut_mul a b).2
  rcases Int.lt_or_le (cutB a b) 1 with h1 | h1
  · have : cutB a b * gcF a b ≤ 0 := Int.mul_nonpos_of_nonpos_of_nonneg (by omega) (by omega)
    omega
  · exact h1
theorem cut_sign (a b : Int) (h : 0 < b) : 0 ≤ cutA a b ↔ 0 ≤ a := by
  have hg := gc_pos a b h
  have hm := (cut_mul a b).1
  constructor
  · intro h0
    have : 0 ≤ cutA a b * gcF a b := Int.mul_nonneg h0 (by omega)
    omega
  · intro h0
    rcases Int.lt_or_le (cutA a b) 0 with h1 | h1
    · have : cutA a b * gcF a b < 0 := Int.mul_neg_of_neg_of_pos h1 hg
      omega
    · exact h1
/-- The value of a cut fraction. -/
theorem cut_cross (a b : Int) : cutA a b * b = a * cutB a b := by
  have h := cut_mul a b
  calc cutA a b * b = cutA a b * (cutB a b * gcF a b) := by rw [h.2]
    _ = cutA a b * gcF a b * cutB a b := by rw [Int.mul_comm (cutB a b), Int.mul_assoc]
    _ = a * cutB a b := by rw [h.1]
theorem cut_one (a b : Int) (h : 0 < b) : cutB a b = 1 ↔ b ∣ a := by
  have hm := cut_mul a b
  constructor
  · intro h1
    rw [h1, Int.one_mul] at hm
    have h2 := hm.1
    rw [hm.2] at h2
    exact ⟨cutA a b, by rw [Int.mul_comm]; exact h2.symm⟩
  · intro hd
    have hd2 : b.natAbs ∣ a.natAbs := Int.natAbs_dvd_natAbs.2 hd
    have hg : Nat.gcd a.natAbs b.natAbs = b.natAbs := Nat.gcd_eq_right hd2
    have hg2 : gcF a b = b := by unfold gcF; rw [hg]; omega
    unfold cutB
    rw [hg2]
    exact Int.tdiv_self (by omega)
end Go.Proofs.Ytcfbnadefdcjaaa
