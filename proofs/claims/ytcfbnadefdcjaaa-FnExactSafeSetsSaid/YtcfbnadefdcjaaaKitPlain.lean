/- Plain facts on kits of weights, signs, powers and numbers of coins. No program stands here. -/
import Derived.Test.YtcfbnadefdcjaaaProg
import Derived.Below
import Derived.Lib.Hide
namespace Go.Proofs.Ytcfbnadefdcjaaa
structure KitF (xs : List Int) : Prop where
  one : 1 ≤ xs.length
  short : xs.length ≤ 6
  each : ∀ j, j < xs.length → 1 ≤ xs.getD j 0 ∧ xs.getD j 0 ≤ 99
  rise : ∀ j, j + 1 < xs.length → xs.getD j 0 ≤ xs.getD (j + 1) 0
noncomputable def propB (p : Prop) : Bool := @decide p (Classical.propDecidable p)
theorem propB_yes {p : Prop} (h : p) : propB p = true := by unfold propB; simp [h]
theorem propB_no {p : Prop} (h : ¬ p) : propB p = false := by unfold propB; simp [h]
theorem propB_iff (p : Prop) : propB p = true ↔ p := by unfold propB; simp
noncomputable def kitB (xs : List Int) : Bool := propB (KitF xs)
def SortF (xs : List Int) : Prop := ∀ j, j + 1 < xs.length → xs.getD j 0 ≤ xs.getD (j + 1) 0
noncomputable def sortB (xs : List Int) : Bool := propB (SortF xs)
theorem sort_le {xs : List Int} (h : SortF xs) : ∀ (n i : Nat), i + n < xs.length → xs.getD i 0 ≤ xs.getD (i + n) 0 := by
  intro n
  induction n with
  | zero => intro i _; exact Int.le_refl _
  | succ n ih =>
    intro i hi
    have h1 := ih i (by omega)
    have h2 := h (i + n) (by omega)
    rw [show i + (n + 1) = i + n + 1 by omega]
    omega
theorem kit_of_ends {xs : List Int} (h1 : 1 ≤ xs.length) (h2 : xs.length ≤ 6) (hs : SortF xs) (a : 1 ≤ xs.getD 0 0) (b : xs.getD (xs.length - 1) 0 ≤ 99) : KitF xs :=
  ⟨h1, h2, fun j hj => by
    have x := sort_le hs j 0 (by omega)
    have y := sort_le hs (xs.length - 1 - j) j (by omega)
    rw [Nat.zero_add] at x
    rw [show j + (xs.length - 1 - j) = xs.length - 1 by omega] at y
    omega, hs⟩
/-- The least k for which 3 to the power of k is at least n, as far as 81. -/
def needF (n : Int) : Nat := if n ≤ 1 then 0 else if n ≤ 3 then 1 else if n ≤ 9 then 2 else if n ≤ 27 then 3 else 4
def coinsB (n : Int) : Bool := decide (2 ≤ n) && decide (n ≤ 40)
/-- b to the power of n. -/
def powF (b : Int) : Nat → Int
  | 0 => 1
  | n + 1 => powF b n * b
def powsF (b : Int) (k : Nat) : List Int := (List.range k).map (powF b)
theorem powsF_len (b : Int) (k : Nat) : (powsF b k).length = k := by simp [powsF]
theorem powsF_snoc (b : Int) (k : Nat) : powsF b (k + 1) = powsF b k ++ [powF b k] := by simp [powsF, List.range_succ]
theorem powsF_at (b : Int) (k j : Nat) (h : j < k) : (powsF b k).getD j 0 = powF b j := by simp [powsF, List.getD, List.getElem?_map, List.getElem?_range h]
theorem powF_pos (b : Int) (hb : 1 ≤ b) : ∀ n, 1 ≤ powF b n := by
  intro n
  induction n with
  | zero => exact Int.le_refl _
  | succ n ih =>
    rw [powF]
    have := Int.mul_le_mul ih hb (by omega) (by omega)
    omega
theorem pow3 : powF 3 0 = 1 ∧ powF 3 1 = 3 ∧ powF 3 2 = 9 ∧ powF 3 3 = 27 ∧ powF 3 4 = 81 ∧ powF 3 5 = 243 ∧ powF 3 6 = 729 := by decide
/-- Powers of 2 or 3 up to the seventh are small. -/
theorem pow_small (b : Int) (hb : b = 2 ∨ b = 3) (n : Nat) (hn : n ≤ 7) : 1 ≤ powF b n ∧ powF b n ≤ 3000 := by
  have hc : n = 0 ∨ n = 1 ∨ n = 2 ∨ n = 3 ∨ n = 4 ∨ n = 5 ∨ n = 6 ∨ n = 7 := by omega
  rcases hb with rfl | rfl <;> rcases hc with rfl | rfl | rfl | rfl | rfl | rfl | rfl | rfl <;> decide
theorem need_below (n : Int) (k : Nat) (h : k < needF n) : powF 3 k < n := by
  obtain ⟨p0, p1, p2, p3, p4, _⟩ := pow3
  unfold needF at h
  have hc : k = 0 ∨ k = 1 ∨ k = 2 ∨ k = 3 := by split at h <;> (try split at h) <;> (try split at h) <;> (try split at h) <;> omega
  rcases hc with rfl | rfl | rfl | rfl <;> (split at h <;> (try split at h) <;> (try split at h) <;> (try split at h) <;> omega)
theorem need_at (n : Int) (h : n ≤ 40) : n ≤ powF 3 (needF n) := by
  obtain ⟨p0, p1, p2, p3, p4, _⟩ := pow3
  unfold needF
  split
  · omega
  · split
    · omega
    · split
      · omega
      · split <;> omega
theorem need_four (n : Int) : needF n ≤ 4 := by unfold needF; split <;> (try split) <;> (try split) <;> (try split) <;> omega
/-- Only the numbers -1, 0 and 1. -/
def SignsF (xs : List Int) : Prop := ∀ j, j < xs.length → -1 ≤ xs.getD j 0 ∧ xs.getD j 0 ≤ 1
noncomputable def signsB (xs : List Int) : Bool := propB (SignsF xs)
/-- The weights that are used, with their places. -/
def usedF : List Int → List Int → List (Int × Int)
  | k :: ks, s :: ss => (if s = 0 then [] else [(30 + s, k)]) ++ usedF ks ss
  | _, _ => []
theorem usedF_snoc (ks ss : List Int) (h : ks.length = ss.length) (k s : Int) : usedF (ks ++ [k]) (ss ++ [s]) = usedF ks ss ++ (if s = 0 then [] else [(30 + s, k)]) := by
  induction ks generalizing ss with
  | nil =>
    have : ss = [] := List.length_eq_zero_iff.1 h.symm
    subst this
    simp [usedF]
  | cons x l ih =>
    cases ss with
    | nil => simp at h
    | cons y m => simp only [List.cons_append, usedF, ih m (by simpa using h), List.append_assoc]
theorem usedF_len (ks ss : List Int) : (usedF ks ss).length ≤ ks.length := by
  induction ks generalizing ss with
  | nil => simp [usedF]
  | cons x l ih =>
    cases ss with
    | nil => simp [usedF]
    | cons y m =>
      have := ih m
      simp only [usedF, List.length_append, List.length_cons]
      split <;> simp <;> omega
def panF (ks ss : List Int) (n : Int) : List (Int × Int) := (29, n) :: usedF ks ss
theorem take_snocI (xs : List Int) (k : Nat) (h : k < xs.length) : xs.take (k + 1) = xs.take k ++ [xs.getD k 0] := by
  rw [List.take_add_one, List.getElem?_eq_getElem h, List.getD, List.getElem?_eq_getElem h]; rfl
theorem usedF_take (ks ss : List Int) (k : Nat) (h1 : k < ks.length) (h2 : k < ss.length) : usedF (ks.take (k + 1)) (ss.take (k + 1)) = usedF (ks.take k) (ss.take k) ++ (if ss.getD k 0 = 0 then [] else [(30 + ss.getD k 0, ks.getD k 0)]) := by
  rw [take_snocI ks k h1, take_snocI ss k h2]
  exact usedF_snoc _ _ (by rw [List.length_take, List.length_take]; omega) _ _
/-- The sum of numbers. -/
def sumF : List Int → Int
  | [] => 0
  | x :: l => x + sumF l
theorem sumF_snoc (xs : List Int) (x : Int) : sumF (xs ++ [x]) = sumF xs + x := by
  induction xs with
  | nil => simp [sumF]
  | cons y l ih => simp only [List.cons_append, sumF, ih]; omega
theorem sumF_take (xs : List Int) (k : Nat) (h : k < xs.length) : sumF (xs.take (k + 1)) = sumF (xs.take k) + xs.getD k 0 := by rw [take_snocI xs k h, sumF_snoc]
theorem signs_sum {xs : List Int} (h : SignsF xs) : ∀ k, k ≤ xs.length → -(k : Int) ≤ sumF (xs.take k) ∧ sumF (xs.take k) ≤ k := by
  intro k
  induction k with
  | zero => intro _; simp [sumF]
  | succ k ih =>
    intro hk
    have h1 := ih (by omega)
    have h2 := h k (by omega)
    rw [sumF_take xs k (by omega)]
    omega
end Go.Proofs.Ytcfbnadefdcjaaa
