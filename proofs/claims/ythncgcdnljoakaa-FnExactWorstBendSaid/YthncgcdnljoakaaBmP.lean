/- Plain facts on beams: forces, shears, bends, influence, convoys. No program stands here. -/
import Derived.Test.YthncgcdnljoakaaRowFacts
import Derived.Test.YthncgcdnljoakaaLoads
namespace Go.Proofs.Ythncgcdnljoakaa
structure BeamV where
  l : Int
  a : Int
  b : Int
def beamB (p : BeamV) : Bool := (decide (1 ≤ p.l) && decide (p.l ≤ 60)) && (decide (0 ≤ p.a) && decide (p.a ≤ p.l - 1)) && (decide (p.a + 1 ≤ p.b) && decide (p.b ≤ p.l))
theorem beamB_iff (p : BeamV) : beamB p = true ↔ 1 ≤ p.l ∧ p.l ≤ 60 ∧ 0 ≤ p.a ∧ p.a < p.b ∧ p.b ≤ p.l := by
  unfold beamB
  simp only [Bool.and_eq_true, decide_eq_true_eq]
  omega
def onL (p : BeamV) (xs : List (Int × Int)) : Bool := xs.all fun x => decide (x.1 ≤ p.l)
def onB (p : BeamV) (xs : List (Int × Int)) : Bool := beamB p && rowB xs && onL p xs
structure OnF (p : BeamV) (xs : List (Int × Int)) : Prop where
  l0 : 1 ≤ p.l
  l1 : p.l ≤ 60
  a0 : 0 ≤ p.a
  ab : p.a < p.b
  b1 : p.b ≤ p.l
  row : RowF xs
  on : ∀ x ∈ xs, x.1 ≤ p.l
theorem onB_iff (p : BeamV) (xs : List (Int × Int)) : onB p xs = true ↔ OnF p xs := by
  unfold onB onL
  rw [Bool.and_eq_true, Bool.and_eq_true, beamB_iff, rowB_iff, List.all_eq_true]
  simp only [decide_eq_true_eq]
  exact ⟨fun ⟨⟨⟨h1, h2, h3, h4, h5⟩, h6⟩, h7⟩ => ⟨h1, h2, h3, h4, h5, h6, h7⟩, fun h => ⟨⟨⟨h.l0, h.l1, h.a0, h.ab, h.b1⟩, h.row⟩, h.on⟩⟩
/-- The load k of a row as a force, times the span. -/
def ldF (p : BeamV) (x : Int × Int) : Int × Int := (x.1, -x.2 * (p.b - p.a))
/-- All forces: at both supports, and those of the loads. -/
def fsF (p : BeamV) (xs : List (Int × Int)) : List (Int × Int) := (p.a, -momF p.b xs) :: (p.b, momF p.a xs) :: xs.map (ldF p)
def shL (q : Int) : List (Int × Int) → Int
  | [] => 0
  | f :: fs => (if f.1 ≤ q then f.2 else 0) + shL q fs
def bdL (q : Int) : List (Int × Int) → Int
  | [] => 0
  | f :: fs => (if f.1 < q then f.2 * (q - f.1) else 0) + bdL q fs
def atL (q : Int) : List (Int × Int) → Int
  | [] => 0
  | f :: fs => (if f.1 = q then f.2 else 0) + atL q fs
theorem sh_step (q : Int) (fs : List (Int × Int)) : shL (q + 1) fs = shL q fs + atL (q + 1) fs := by
  induction fs with
  | nil => rfl
  | cons f l ih =>
    simp only [shL, atL, ih]
    rcases Int.lt_trichotomy f.1 (q + 1) with h | h | h
    · rw [if_pos (by omega), if_pos (by omega), if_neg (by omega)]; omega
    · rw [if_pos (by omega), if_neg (by omega), if_pos h]; omega
    · rw [if_neg (by omega), if_neg (by omega), if_neg (by omega)]; omega
theorem sh_low (q : Int) (fs : List (Int × Int)) (h : ∀ f ∈ fs, q < f.1) : shL q fs = 0 := by
  induction fs with
  | nil => rfl
  | cons f l ih =>
    have h1 := h f (by simp)
    simp only [shL, ih (fun g hg => h g (by simp [hg]))]
    rw [if_neg (by omega)]
    rfl
theorem bd_step (q : Int) (fs : List (Int × Int)) : bdL (q + 1) fs = bdL q fs + shL q fs := by
  induction fs with
  | nil => rfl
  | cons f l ih =>
    simp only [bdL, shL, ih]
    rcases Int.lt_trichotomy f.1 q with h | h | h
    · rw [if_pos (by omega), if_pos (by omega), if_pos (by omega), show q + 1 - f.1 = (q - f.1) + 1 by omega, Int.mul_add, Int.mul_one]; omega
    · rw [if_pos (by omega), if_neg (by omega), if_pos (by omega), show q + 1 - f.1 = 1 by omega, Int.mul_one]; omega
    · rw [if_neg (by omega), if_neg (by omega), if_neg (by omega)]; omega
theorem bd_low (q : Int) (fs : List (Int × Int)) (h : ∀ f ∈ fs, q ≤ f.1) : bdL q fs = 0 := by
  induction fs with
  | nil => rfl
  | cons f l ih =>
    have h1 := h f (by simp)
    simp only [bdL, ih (fun g hg => h g (by simp [hg]))]
    rw [if_neg (by omega)]
    rfl
theorem sh_app (q : Int) (fs gs : List (Int × Int)) : shL q (fs ++ gs) = shL q fs + shL q gs := by
  induction fs with
  | nil => simp [shL]
  | cons f l ih => simp only [List.cons_append, shL, ih]; omega
theorem bd_app (q : Int) (fs gs : List (Int × Int)) : bdL q (fs ++ gs) = bdL q fs + bdL q gs := by
  induction fs with
  | nil => simp [bdL]
  | cons f l ih => simp only [List.cons_append, bdL, ih]; omega
theorem at_app (q : Int) (fs gs : List (Int × Int)) : atL q (fs ++ gs) = atL q fs + atL q gs := by
  induction fs with
  | nil => simp [atL]
  | cons f l ih => simp only [List.cons_append, atL, ih]; omega
theorem take_one (fs : List (Int × Int)) (k : Nat) (h : k < fs.length) : fs.take (k + 1) = fs.take k ++ [fs.getD k (0, 0)] := by
  rw [List.take_add_one, List.getElem?_eq_getElem h, List.getD, List.getElem?_eq_getElem h]
  rfl
theorem sh_take (q : Int) (fs : List (Int × Int)) (k : Nat) (h : k < fs.length) : shL q (fs.take (k + 1)) = shL q (fs.take k) + if (fs.getD k (0, 0)).1 ≤ q then (fs.getD k (0, 0)).2 else 0 := by
  rw [take_one fs k h, sh_app]
  simp only [shL]
  omega
theorem bd_take (q : Int) (fs : List (Int × Int)) (k : Nat) (h : k < fs.length) : bdL q (fs.take (k + 1)) = bdL q (fs.take k) + if (fs.getD k (0, 0)).1 < q then (fs.getD k (0, 0)).2 * (q - (fs.getD k (0, 0)).1) else 0 := by
  rw [take_one fs k h, bd_app]
  simp only [bdL]
  omega
/-- Forces of a bounded size at places. -/
structure FcF (fs : List (Int × Int)) : Prop where
  short : fs.length ≤ 14
  each : ∀ f ∈ fs, (0 ≤ f.1 ∧ f.1 ≤ 60) ∧ -71280 ≤ f.2 ∧ f.2 ≤ 71280
theorem fcF_take {fs : List (Int × Int)} (h : FcF fs) (k : Nat) : FcF (fs.take k) :=
  ⟨by simp; have := h.short; omega, fun x hx => h.each x (List.mem_of_mem_take hx)⟩
theorem sh_bound (q : Int) (fs : List (Int × Int)) (h : ∀ f ∈ fs, (0 ≤ f.1 ∧ f.1 ≤ 60) ∧ -71280 ≤ f.2 ∧ f.2 ≤ 71280) : -(71280 * fs.length : Int) ≤ shL q fs ∧ shL q fs ≤ 71280 * fs.length := by
  induction fs with
  | nil => simp [shL]
  | cons f l ih =>
    have h1 := h f (by simp)
    have h2 := ih (fun g hg => h g (by simp [hg]))
    simp only [shL, List.length_cons]
    split <;> omega
theorem mul_bound {x y : Int} (h1 : -71280 ≤ x) (h2 : x ≤ 71280) (h3 : 0 ≤ y) (h4 : y ≤ 60) : -4276800 ≤ x * y ∧ x * y ≤ 4276800 := by
  have a1 : x * y ≤ 71280 * y := Int.mul_le_mul_of_nonneg_right h2 h3
  have a2 : -71280 * y ≤ x * y := Int.mul_le_mul_of_nonneg_right h1 h3
  omega
theorem bd_bound (q : Int) (hq : q ≤ 60) (fs : List (Int × Int)) (h : ∀ f ∈ fs, (0 ≤ f.1 ∧ f.1 ≤ 60) ∧ -71280 ≤ f.2 ∧ f.2 ≤ 71280) : -(4276800 * fs.length : Int) ≤ bdL q fs ∧ bdL q fs ≤ 4276800 * fs.length := by
  induction fs with
  | nil => simp [bdL]
  | cons f l ih =>
    have h1 := h f (by simp)
    have h2 := ih (fun g hg => h g (by simp [hg]))
    simp only [bdL, List.length_cons]
    split
    · have := mul_bound h1.2.1 h1.2.2 (show 0 ≤ q - f.1 by omega) (by omega)
      omega
    · omega
theorem fcF_bounds {fs : List (Int × Int)} (h : FcF fs) : (∀ q, -997920 ≤ shL q fs ∧ shL q fs ≤ 997920) ∧ ∀ q, q ≤ 60 → -59875200 ≤ bdL q fs ∧ bdL q fs ≤ 59875200 := by
  have hs := h.short
  refine ⟨fun q => ?_, fun q hq => ?_⟩
  · have := sh_bound q fs h.each; omega
  · have := bd_bound q hq fs h.each; omega
theorem ld_bound {p : BeamV} {x : Int × Int} (l1 : p.l ≤ 60) (a0 : 0 ≤ p.a) (ab : p.a < p.b) (b1 : p.b ≤ p.l) (hx : (0 ≤ x.1 ∧ x.1 ≤ 60) ∧ 1 ≤ x.2 ∧ x.2 ≤ 99) : (0 ≤ (ldF p x).1 ∧ (ldF p x).1 ≤ 60) ∧ -71280 ≤ (ldF p x).2 ∧ (ldF p x).2 ≤ 71280 := by
  have h1 : 0 ≤ x.2 * (p.b - p.a) := Int.mul_nonneg (by omega) (by omega)
  have h2 : x.2 * (p.b - p.a) ≤ x.2 * 60 := Int.mul_le_mul_of_nonneg_left (by omega) (by omega)
  simp only [ldF, Int.neg_mul]
  omega
theorem fsF_fc {p : BeamV} {xs : List (Int × Int)} (h : OnF p xs) : FcF (fsF p xs) := by
  have hr := rowF_bounds h.row
  have h0 := h.l1; have h1 := h.a0; have h2 := h.ab; have h3 := h.b1
  have ma := hr.2.2.2 p.a (by omega) (by omega)
  have mb := hr.2.2.2 p.b (by omega) (by omega)
  refine ⟨by have := h.row.short; simp [fsF]; omega, fun f hf => ?_⟩
  simp only [fsF, List.mem_cons, List.mem_map] at hf
  rcases hf with rfl | rfl | ⟨x, hx, rfl⟩
  · simp only; omega
  · simp only; omega
  · exact ld_bound h0 h1 h2 h3 (h.row.each x hx)
/-- The shears and the bends as lists. -/
def shearsF (p : BeamV) (xs : List (Int × Int)) (n : Nat) : List Int := (List.range n).map fun q : Nat => shL (q : Int) (fsF p xs)
def bendsF (p : BeamV) (xs : List (Int × Int)) (n : Nat) : List Int := (List.range n).map fun q : Nat => bdL (q : Int) (fsF p xs)
theorem mapR_len (f : Nat → Int) (n : Nat) : ((List.range n).map f).length = n := by simp
theorem mapR_at (f : Nat → Int) (n j : Nat) (h : j < n) : ((List.range n).map f).getD j 0 = f j := by simp [List.getD, h]
theorem mapR_succ (f : Nat → Int) (n : Nat) : (List.range (n + 1)).map f = (List.range n).map f ++ [f n] := by simp [List.range_succ]
/-- The bend by a row is the sum of the bends by its loads. -/
def gT (q x : Int) : Int := if x < q then q - x else 0
theorem bd_alt (q : Int) (fs : List (Int × Int)) : bdL q fs = (fs.map fun f => f.2 * gT q f.1).sum := by
  induction fs with
  | nil => rfl
  | cons f l ih =>
    simp only [bdL, List.map_cons, List.sum_cons, ih, gT]
    split <;> simp
/-- The influence of a weight of 1 at x on the bend at q. -/
def inF (p : BeamV) (q x : Int) : Int := bdL q (fsF p [(x, 1)])
theorem inF_eq (p : BeamV) (q x : Int) : inF p q x = -(x - p.b) * gT q p.a + (x - p.a) * gT q p.b + -(p.b - p.a) * gT q x := by
  unfold inF
  rw [bd_alt]
  simp only [fsF, ldF, momF, List.map_cons, List.map_nil, List.sum_cons, List.sum_nil, Int.one_mul, Int.add_zero]
  rw [show (-1 : Int) * (p.b - p.a) = -(p.b - p.a) by omega]
  omega
def sumW (f : Int → Int) : List (Int × Int) → Int
  | [] => 0
  | x :: l => x.2 * f x.1 + sumW f l
theorem sumW_take (f : Int → Int) (xs : List (Int × Int)) (k : Nat) (h : k < xs.length) : sumW f (xs.take (k + 1)) = sumW f (xs.take k) + (xs.getD k (0, 0)).2 * f (xs.getD k (0, 0)).1 := by
  rw [take_one xs k h]
  generalize xs.getD k (0, 0) = x
  generalize xs.take k = l
  induction l with
  | nil => simp [sumW]
  | cons y l ih => simp only [List.cons_append, sumW, ih]; omega
theorem bd_sum (p : BeamV) (q : Int) (xs : List (Int × Int)) : bdL q (fsF p xs) = sumW (inF p q) xs := by
  rw [bd_alt]
  simp only [fsF, List.map_cons, List.sum_cons, List.map_map]
  induction xs with
  | nil => simp [momF, sumW]
  | cons x l ih =>
    simp only [momF, sumW, List.map_cons, List.sum_cons, Function.comp, ldF] at ih ⊢
    rw [← ih, inF_eq]
    obtain ⟨S, hS⟩ : ∃ S : Int, (List.map ((fun f => f.2 * gT q f.1) ∘ ldF p) l).sum = S := ⟨_, rfl⟩
    rw [hS]
    generalize momF p.a l = A
    generalize momF p.b l = B
    generalize gT q p.a = g1
    generalize gT q p.b = g2
    generalize gT q x.1 = g3
    simp only [Int.neg_add, Int.add_mul, Int.mul_add, Int.neg_mul, Int.mul_neg, Int.mul_assoc]
    omega
theorem inF_bound (p : BeamV) (q x : Int) (h0 : 1 ≤ p.l) (h : p.l ≤ 60) (h1 : 0 ≤ p.a) (h2 : p.a < p.b) (h3 : p.b ≤ p.l) (hq : q ≤ 60) (x0 : 0 ≤ x) (x1 : x ≤ p.l) : -59875200 ≤ inF p q x ∧ inF p q x ≤ 59875200 := by
  have hon : OnF p [(x, 1)] := ⟨h0, h, h1, h2, h3, ⟨by simp, fun y hy => by simp at hy; subst hy; simp only; omega⟩, fun y hy => by simp at hy; subst hy; exact x1⟩
  exact (fcF_bounds (fsF_fc hon)).2 q hq
/-- What a convoy is. -/
structure ConvF (cs : List (Int × Int)) : Prop where
  one : 1 ≤ cs.length
  short : cs.length ≤ 6
  first : (cs.getD 0 (0, 0)).1 = 0
  each : ∀ j, j < cs.length → (0 ≤ (cs.getD j (0, 0)).1 ∧ (cs.getD j (0, 0)).1 ≤ 20) ∧ 1 ≤ (cs.getD j (0, 0)).2 ∧ (cs.getD j (0, 0)).2 ≤ 99
  rise : ∀ j, j + 1 < cs.length → (cs.getD j (0, 0)).1 ≤ (cs.getD (j + 1) (0, 0)).1
theorem ConvF.mono {cs : List (Int × Int)} (hr : ∀ j, j + 1 < cs.length → (cs.getD j (0, 0)).1 ≤ (cs.getD (j + 1) (0, 0)).1) (i j : Nat) (h : i ≤ j) (hj : j < cs.length) : (cs.getD i (0, 0)).1 ≤ (cs.getD j (0, 0)).1 := by
  induction j with
  | zero => obtain rfl : i = 0 := by omega
            exact Int.le_refl _
  | succ j ih =>
    rcases Nat.lt_or_ge i (j + 1) with h1 | h1
    · exact Int.le_trans (ih (by omega) (by omega)) (hr j hj)
    · obtain rfl : i = j + 1 := by omega
      exact Int.le_refl _
/-- The row of a convoy in a position. -/
def atC (x : Int) (cs : List (Int × Int)) : List (Int × Int) := (cs.filter fun c => decide (c.1 ≤ x)).map fun c => (x - c.1, c.2)
theorem atC_len (x : Int) (cs : List (Int × Int)) : (atC x cs).length ≤ cs.length := by unfold atC; rw [List.length_map]; exact List.length_filter_le _ _
theorem atC_take (x : Int) (cs : List (Int × Int)) (k : Nat) (h : k < cs.length) : atC x (cs.take (k + 1)) = if (cs.getD k (0, 0)).1 ≤ x then atC x (cs.take k) ++ [(x - (cs.getD k (0, 0)).1, (cs.getD k (0, 0)).2)] else atC x (cs.take k) := by
  rw [take_one cs k h]
  generalize cs.getD k (0, 0) = c
  unfold atC
  rw [List.filter_append, List.map_append]
  by_cases hc : c.1 ≤ x
  · rw [if_pos hc]; simp [hc]
  · rw [if_neg hc]; simp [hc]
theorem getD_mem {cs : List (Int × Int)} {c : Int × Int} (h : c ∈ cs) : ∃ j, j < cs.length ∧ cs.getD j (0, 0) = c := by
  obtain ⟨j, hj, e⟩ := List.mem_iff_getElem.1 h
  exact ⟨j, hj, by simp [List.getD, List.getElem?_eq_getElem hj, e]⟩
theorem mem_getD {cs : List (Int × Int)} {j : Nat} (h : j < cs.length) : cs.getD j (0, 0) ∈ cs := by
  simp only [List.getD, List.getElem?_eq_getElem h, Option.getD_some]
  exact List.getElem_mem h
theorem atC_row {cs : List (Int × Int)} (h : ConvF cs) (x : Int) (x1 : x ≤ 60) : RowF (atC x cs) := by
  refine ⟨by have := atC_len x cs; have := h.short; omega, fun y hy => ?_⟩
  unfold atC at hy
  obtain ⟨c, hc, rfl⟩ := List.mem_map.1 hy
  have h2 := (List.mem_filter.1 hc)
  obtain ⟨j, hj, rfl⟩ := getD_mem h2.1
  have h3 := h.each j hj
  have h4 := of_decide_eq_true h2.2
  simp only
  omega
theorem atC_on {p : BeamV} {cs : List (Int × Int)} (hb : beamB p = true) (h : ConvF cs) (x : Int) (x1 : x ≤ p.l) : OnF p (atC x cs) := by
  obtain ⟨b1, b2, b3, b4, b5⟩ := (beamB_iff p).1 hb
  refine ⟨b1, b2, b3, b4, b5, atC_row h x (by omega), fun y hy => ?_⟩
  unfold atC at hy
  obtain ⟨c, hc, rfl⟩ := List.mem_map.1 hy
  obtain ⟨j, hj, rfl⟩ := getD_mem (List.mem_filter.1 hc).1
  have h3 := h.each j hj
  simp only
  omega
/-- The greatest of numbers and the first place with it, from a start on. -/
def gbF (f : Nat → Int) : Nat → Int × Int
  | 0 => (0, 0)
  | k + 1 => if (gbF f k).1 < f k then (f k, (k : Int)) else gbF f k
theorem gbF_bound (f : Nat → Int) (M : Int) (k : Nat) (h0 : 0 ≤ M) (h : ∀ j, j < k → f j ≤ M) : 0 ≤ (gbF f k).1 ∧ (gbF f k).1 ≤ M ∧ 0 ≤ (gbF f k).2 ∧ (gbF f k).2 ≤ k := by
  induction k with
  | zero => simp [gbF]; exact h0
  | succ k ih =>
    have h1 := ih (fun j hj => h j (by omega))
    have h2 := h k (by omega)
    simp only [gbF]
    split
    · simp only; omega
    · omega
end Go.Proofs.Ythncgcdnljoakaa
