/- Plain facts on stages, chains and gains. No program stands here. -/
import Derived.Test.YtgjchkcjlmklbaaRowPlain
namespace Go.Proofs.Ytgjchkcjlmklbaa
/-- A stage: its kind and both numbers. -/
structure StageV where
  k : Int
  a : Int
  b : Int
def stZ : StageV := ⟨0, 0, 0⟩
def rtB (a : Int) : Bool := decide (1 ≤ a) && decide (a ≤ 24)
def twoB (a b : Int) : Bool := rtB a && rtB b
def stgB (s : StageV) : Bool :=
  if s.k = 1 ∨ s.k = 3 then twoB s.a s.b else if s.k = 2 then rtB s.a && decide (s.b = 0) else if s.k = 4 then twoB s.a s.b && decide (s.b ≤ s.a) else if s.k = 5 then twoB s.a s.b && decide (s.b < s.a) else false
def gnF (s : StageV) : Int × Int := if s.k = 2 then (s.a, 1) else if s.k = 5 then (cutA (2 * s.a) (s.a - s.b), cutB (2 * s.a) (s.a - s.b)) else (cutA s.a s.b, cutB s.a s.b)
theorem rtB_iff (a : Int) : rtB a = true ↔ 1 ≤ a ∧ a ≤ 24 := by unfold rtB; simp
theorem twoB_iff (a b : Int) : twoB a b = true ↔ (1 ≤ a ∧ a ≤ 24) ∧ 1 ≤ b ∧ b ≤ 24 := by unfold twoB; rw [Bool.and_eq_true, rtB_iff, rtB_iff]
theorem cut_le (a b : Int) (ha : 0 < a) (hb : 0 < b) : (1 ≤ cutA a b ∧ cutA a b ≤ a) ∧ 1 ≤ cutB a b ∧ cutB a b ≤ b := by
  have hg := gc_pos a b hb
  have hm := cut_mul a b
  have hB := cut_pos a b hb
  have hA : 1 ≤ cutA a b := by
    rcases Int.lt_or_le (cutA a b) 1 with h1 | h1
    · have : cutA a b * gcF a b ≤ 0 := Int.mul_nonpos_of_nonpos_of_nonneg (by omega) (by omega)
      omega
    · exact h1
  refine ⟨⟨hA, ?_⟩, hB, ?_⟩
  · have : cutA a b * 1 ≤ cutA a b * gcF a b := Int.mul_le_mul_of_nonneg_left (by omega) (by omega)
    omega
  · have : cutB a b * 1 ≤ cutB a b * gcF a b := Int.mul_le_mul_of_nonneg_left (by omega) (by omega)
    omega
theorem gn_bound (s : StageV) (h : stgB s = true) : (1 ≤ (gnF s).1 ∧ (gnF s).1 ≤ 48) ∧ 1 ≤ (gnF s).2 ∧ (gnF s).2 ≤ 24 := by
  unfold stgB at h
  unfold gnF
  split at h
  · rename_i hk
    rw [twoB_iff] at h
    rw [if_neg (by omega), if_neg (by omega)]
    have := cut_le s.a s.b (by omega) (by omega)
    simp only
    omega
  · split at h
    · rename_i hk
      rw [Bool.and_eq_true, rtB_iff] at h
      rw [if_pos hk]
      simp only
      omega
    · split at h
      · rename_i hk
        rw [Bool.and_eq_true, twoB_iff] at h
        rw [if_neg (by omega), if_neg (by omega)]
        have := cut_le s.a s.b (by omega) (by omega)
        simp only
        omega
      · split at h
        · rename_i hk
          rw [Bool.and_eq_true, twoB_iff, decide_eq_true_iff] at h
          rw [if_neg (by omega), if_pos hk]
          have := cut_le (2 * s.a) (s.a - s.b) (by omega) (by omega)
          simp only
          omega
        · cases h
/-- Two gains behind one another. -/
def mulF (o g : Int × Int) : Int × Int := (cutA (o.1 * g.1) (o.2 * g.2), cutB (o.1 * g.1) (o.2 * g.2))
/-- The gain of a chain. -/
def chF (xs : List StageV) : Int × Int := xs.foldl (fun o s => mulF o (gnF s)) (1, 1)
theorem ch_snoc (xs : List StageV) (s : StageV) : chF (xs ++ [s]) = mulF (chF xs) (gnF s) := by simp [chF]
theorem take_snocS (xs : List StageV) (k : Nat) (h : k < xs.length) : xs.take (k + 1) = xs.take k ++ [xs.getD k stZ] := by
  rw [List.take_add_one, List.getElem?_eq_getElem h, List.getD, List.getElem?_eq_getElem h]; rfl
theorem ch_take (xs : List StageV) (k : Nat) (h : k < xs.length) : chF (xs.take (k + 1)) = mulF (chF (xs.take k)) (gnF (xs.getD k stZ)) := by rw [take_snocS xs k h, ch_snoc]
theorem pow_pos48 (n : Nat) : (1 : Int) ≤ 48 ^ n := by
  induction n with
  | zero => simp
  | succ n ih => rw [Int.pow_succ]; omega
theorem mul_bound (o g : Int × Int) (X : Int) (h1 : 1 ≤ o.1 ∧ o.1 ≤ X) (h2 : 1 ≤ o.2 ∧ o.2 ≤ X) (g1 : 1 ≤ g.1 ∧ g.1 ≤ 48) (g2 : 1 ≤ g.2 ∧ g.2 ≤ 24) :
    (1 ≤ o.1 * g.1 ∧ o.1 * g.1 ≤ X * 48) ∧ 1 ≤ o.2 * g.2 ∧ o.2 * g.2 ≤ X * 48 := by
  have a1 : 1 * 1 ≤ o.1 * g.1 := Int.mul_le_mul h1.1 g1.1 (by omega) (by omega)
  have a2 : o.1 * g.1 ≤ X * 48 := Int.mul_le_mul h1.2 g1.2 (by omega) (by omega)
  have b1 : 1 * 1 ≤ o.2 * g.2 := Int.mul_le_mul h2.1 g2.1 (by omega) (by omega)
  have b2 : o.2 * g.2 ≤ X * 48 := Int.mul_le_mul h2.2 (by omega) (by omega) (by omega)
  omega
theorem mulF_bound (o g : Int × Int) (X : Int) (h1 : 1 ≤ o.1 ∧ o.1 ≤ X) (h2 : 1 ≤ o.2 ∧ o.2 ≤ X) (g1 : 1 ≤ g.1 ∧ g.1 ≤ 48) (g2 : 1 ≤ g.2 ∧ g.2 ≤ 24) :
    (1 ≤ (mulF o g).1 ∧ (mulF o g).1 ≤ X * 48) ∧ 1 ≤ (mulF o g).2 ∧ (mulF o g).2 ≤ X * 48 := by
  have hb := mul_bound o g X h1 h2 g1 g2
  have := cut_le (o.1 * g.1) (o.2 * g.2) (by omega) (by omega)
  unfold mulF
  simp only
  omega
theorem ch_pow (n : Nat) : ∀ xs : List StageV, xs.length = n → (∀ s ∈ xs, stgB s = true) → (1 ≤ (chF xs).1 ∧ (chF xs).1 ≤ 48 ^ n) ∧ 1 ≤ (chF xs).2 ∧ (chF xs).2 ≤ 48 ^ n := by
  induction n with
  | zero =>
    intro xs hl _
    rw [List.length_eq_zero_iff.1 hl]
    simp [chF]
  | succ n ih =>
    intro xs hl h
    have he : xs = xs.take n ++ [xs.getD n stZ] := by rw [← take_snocS xs n (by omega), List.take_of_length_le (by omega)]
    have hm : xs.getD n stZ ∈ xs := by rw [List.getD, List.getElem?_eq_getElem (by omega), Option.getD_some]; exact List.getElem_mem _
    have i := ih (xs.take n) (by rw [List.length_take]; omega) (fun s hs => h s (List.mem_of_mem_take hs))
    have g := gn_bound _ (h _ hm)
    rw [he, ch_snoc, Int.pow_succ]
    exact mulF_bound _ _ _ i.1 i.2 g.1 g.2
def allB (xs : List StageV) : Bool := xs.all stgB
theorem allB_iff (xs : List StageV) : allB xs = true ↔ ∀ s ∈ xs, stgB s = true := by unfold allB; exact List.all_eq_true
theorem allB_take {xs : List StageV} (h : allB xs = true) (k : Nat) : allB (xs.take k) = true := (allB_iff _).2 (fun s hs => (allB_iff _).1 h s (List.mem_of_mem_take hs))
theorem allB_not {xs : List StageV} {k : Nat} (hk : k < xs.length) (h : stgB (xs.getD k stZ) = false) : allB xs = false := by
  cases hq : allB xs with
  | false => rfl
  | true =>
    have := (allB_iff xs).1 hq (xs.getD k stZ) (by simp only [List.getD, List.getElem?_eq_getElem hk, Option.getD_some]; exact List.getElem_mem hk)
    rw [h] at this
    cases this
theorem allB_yes {xs : List StageV} (h : ∀ j, j < xs.length → stgB (xs.getD j stZ) = true) : allB xs = true :=
  (allB_iff xs).2 (fun x hx => by
    obtain ⟨j, hj, e⟩ := List.mem_iff_getElem.1 hx
    have := h j hj
    simp only [List.getD, List.getElem?_eq_getElem hj, Option.getD_some, e] at this
    exact this)
theorem allB_at {xs : List StageV} (h : allB xs = true) {k : Nat} (hk : k < xs.length) : stgB (xs.getD k stZ) = true :=
  (allB_iff xs).1 h _ (by simp only [List.getD, List.getElem?_eq_getElem hk, Option.getD_some]; exact List.getElem_mem hk)
theorem pow48_le {n : Nat} (h : n ≤ 5) : (48 : Int) ^ n ≤ 254803968 := by
  have : n = 0 ∨ n = 1 ∨ n = 2 ∨ n = 3 ∨ n = 4 ∨ n = 5 := by omega
  rcases this with rfl | rfl | rfl | rfl | rfl | rfl <;> decide
theorem ch_bound {xs : List StageV} (h : allB xs = true) (h5 : xs.length ≤ 5) : (1 ≤ (chF xs).1 ∧ (chF xs).1 ≤ 254803968) ∧ 1 ≤ (chF xs).2 ∧ (chF xs).2 ≤ 254803968 := by
  have := ch_pow xs.length xs rfl ((allB_iff xs).1 h)
  have := pow48_le h5
  omega
/-- A step of a chain: what is multiplied stays small. -/
theorem ch_step {xs : List StageV} (h : allB xs = true) (h5 : xs.length ≤ 5) {k : Nat} (hk : k < xs.length) :
    (1 ≤ (chF (xs.take k)).1 * (gnF (xs.getD k stZ)).1 ∧ (chF (xs.take k)).1 * (gnF (xs.getD k stZ)).1 ≤ 254803968) ∧ 1 ≤ (chF (xs.take k)).2 * (gnF (xs.getD k stZ)).2 ∧ (chF (xs.take k)).2 * (gnF (xs.getD k stZ)).2 ≤ 254803968 := by
  have a := ch_pow k (xs.take k) (by rw [List.length_take]; omega) ((allB_iff _).1 (allB_take h k))
  have g := gn_bound _ (allB_at h hk)
  have m := mul_bound _ _ _ a.1 a.2 g.1 g.2
  have e : (48 : Int) ^ k * 48 = 48 ^ (k + 1) := (Int.pow_succ 48 k).symm
  rw [e] at m
  have := pow48_le (show k + 1 ≤ 5 by omega)
  omega
def chainB (xs : List StageV) : Bool := allB xs && decide (xs.length ≤ 5)
theorem chainB_iff (xs : List StageV) : chainB xs = true ↔ allB xs = true ∧ xs.length ≤ 5 := by unfold chainB; simp
def askB (xs : List StageV) (n : Int) : Bool := chainB xs && (decide (0 ≤ n) && decide (n ≤ 1000000))
theorem askB_iff (xs : List StageV) (n : Int) : askB xs n = true ↔ (allB xs = true ∧ xs.length ≤ 5) ∧ 0 ≤ n ∧ n ≤ 1000000 := by unfold askB; rw [Bool.and_eq_true, chainB_iff]; simp
def zz (r : Bool) (p : Int × Int) : Int × Int := if r then p else (0, 0)
/-- What a number becomes: divided by a gain, multiplied by it. -/
def divF (g : Int × Int) (n : Int) : Int × Int := (cutA (n * g.2) g.1, cutB (n * g.2) g.1)
def mltF (g : Int × Int) (n : Int) : Int × Int := (cutA (n * g.1) g.2, cutB (n * g.1) g.2)
def cgF (xs : List StageV) : Int × Int := zz (chainB xs) (chF xs)
def pullF (xs : List StageV) (n : Int) : Int × Int := zz (askB xs n) (divF (chF xs) n)
def haulF (xs : List StageV) (n : Int) : Int × Int := zz (askB xs n) (mltF (chF xs) n)
/-- The least integer at least a / b, and the greatest at most a / b, of cut fractions. -/
theorem up_cut (a b : Int) (ha : 0 ≤ a) (hb : 0 < b) : (cutA a b + cutB a b - 1).tdiv (cutB a b) = (a + b - 1).tdiv b := by
  have hg := gc_pos a b hb
  have hm := cut_mul a b
  have hB := cut_pos a b hb
  have hA := (cut_sign a b hb).2 ha
  generalize cutA a b = x at *
  generalize cutB a b = y at *
  generalize gcF a b = g at *
  obtain ⟨e1, e2⟩ := hm
  rw [← e1, ← e2, Int.tdiv_eq_ediv_of_nonneg (by omega), Int.tdiv_eq_ediv_of_nonneg (by rw [e1, e2]; omega)]
  have hyg : 0 < y * g := by rw [e2]; exact hb
  have d1 := Int.mul_ediv_self_le (x := x + y - 1) (k := y) (by omega)
  have d2 := Int.lt_mul_ediv_self_add (x := x + y - 1) (k := y) (by omega)
  generalize (x + y - 1) / y = q at d1 d2 ⊢
  refine ((Int.ediv_eq_iff_of_pos hyg).2 ⟨?_, ?_⟩).symm
  · have : y * q * g ≤ (x + y - 1) * g := Int.mul_le_mul_of_nonneg_right d1 (by omega)
    have e : q * (y * g) = y * q * g := by rw [Int.mul_comm y q, Int.mul_assoc]
    rw [e]
    have e' : (x + y - 1) * g = x * g + y * g - g := by rw [Int.sub_mul, Int.add_mul]; omega
    omega
  · have : (x + y) * g ≤ (y * q + y) * g := Int.mul_le_mul_of_nonneg_right (by omega) (by omega)
    have e : q * (y * g) + y * g = (y * q + y) * g := by rw [Int.add_mul, Int.mul_comm y q, Int.mul_assoc]
    rw [e]
    have e' : (x + y) * g = x * g + y * g := Int.add_mul _ _ _
    omega
theorem down_cut (a b : Int) (ha : 0 ≤ a) (hb : 0 < b) : (cutA a b).tdiv (cutB a b) = a.tdiv b := by
  have hg := gc_pos a b hb
  have hm := cut_mul a b
  have hA := (cut_sign a b hb).2 ha
  rw [Int.tdiv_eq_ediv_of_nonneg hA, Int.tdiv_eq_ediv_of_nonneg ha]
  generalize cutA a b = x at *
  generalize cutB a b = y at *
  generalize gcF a b = g at *
  obtain ⟨e1, e2⟩ := hm
  rw [← e1, ← e2]
  exact (Int.mul_ediv_mul_of_pos_left _ _ hg).symm
def leastF (xs : List StageV) (n : Int) : Int := if askB xs n = true then Int.tdiv (n * (chF xs).2 + (chF xs).1 - 1) (chF xs).1 else 0
def mostF (xs : List StageV) (n : Int) : Int := if askB xs n = true then Int.tdiv (n * (chF xs).1) (chF xs).2 else 0
theorem muln_bound (n g : Int) (n0 : 0 ≤ n) (n1 : n ≤ 1000000) (g0 : 1 ≤ g) (g1 : g ≤ 254803968) : 0 ≤ n * g ∧ n * g ≤ 254803968000000 := by
  have a : 0 ≤ n * g := Int.mul_nonneg n0 (by omega)
  have b : n * g ≤ 1000000 * 254803968 := Int.mul_le_mul n1 g1 (by omega) (by omega)
  omega
theorem tdiv_abs (a b : Int) : (Int.tdiv a b).natAbs ≤ a.natAbs := by
  rw [Int.natAbs_tdiv]
  exact Nat.div_le_self _ _
end Go.Proofs.Ytgjchkcjlmklbaa
