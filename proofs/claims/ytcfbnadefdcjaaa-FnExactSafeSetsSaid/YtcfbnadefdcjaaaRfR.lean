/- Plain facts: the ways from the decks of the numbers, as a table has them. No program stands here. -/
import Derived.Test.YtcfbnadefdcjaaaRfQ
namespace Go.Proofs.Ytcfbnadefdcjaaa
theorem mom_bits (p : Int) (row : List (Int × Int)) (h8 : row.length ≤ 8) (c : Nat) : ∀ k, k ≤ row.length → momF p (pickL row (bitsF k c)) = momF p ((deckL row c).take k) := by
  intro k
  induction k with
  | zero => intro _; simp [bitsF, pickL]
  | succ k ih =>
    intro hk
    rw [mom_take p _ k (by rw [deckL_len]; omega), ← ih (by omega), bits_succ, deckL_at _ _ _ (by omega)]
    cases hb : c.testBit k with
    | true =>
      rw [if_pos rfl, if_pos ⟨by omega, rfl⟩]
      unfold pickL
      rw [List.map_append, mom_app]
      simp [momF]
    | false => simp
theorem mom_zeros (p : Int) (l : List (Int × Int)) (h : ∀ x ∈ l, x = (0, 0)) : momF p l = 0 := by
  induction l with
  | nil => rfl
  | cons x l ih =>
    rw [momF, ih (fun y hy => h y (by simp [hy])), h x (by simp)]
    simp
theorem mom_deck (p : Int) (row : List (Int × Int)) (h8 : row.length ≤ 8) (c : Nat) : momF p ((deckL row c).take row.length) = momF p (deckL row c) := by
  conv => rhs; rw [← List.take_append_drop row.length (deckL row c)]
  rw [mom_app, mom_zeros p ((deckL row c).drop row.length) (fun x hx => ?_), Int.add_zero]
  obtain ⟨j, hj, he⟩ := List.getElem_of_mem hx
  rw [List.length_drop, deckL_len] at hj
  have := deckL_at row c (row.length + j) (by omega)
  rw [if_neg (by omega)] at this
  rw [← he, List.getElem_drop]
  simpa [List.getD, deckL_len, show row.length + j < 8 by omega] using this
/-- The moment of the items of a set is that of its deck. -/
theorem mom_set (p : Int) {row : List (Int × Int)} (h8 : row.length ≤ 8) {xs : List Int} (h : setB row.length xs = true) : momF p (pickL row xs) = momF p (deckL row (codeF xs)) := by
  have := mom_bits p row h8 (codeF xs) row.length (Nat.le_refl _)
  rw [(set_code h8 h).1, mom_deck p row h8] at this
  exact this
theorem rs_set (a b o : Int) {row : List (Int × Int)} (h8 : row.length ≤ 8) {xs : List Int} (h : setB row.length xs = true) : rsA a b o (pickL row xs) = rsA a b o (deckL row (codeF xs)) ∧ rsB a b o (pickL row xs) = rsB a b o (deckL row (codeF xs)) := by
  unfold rsA rsB
  rw [mom_set a h8 h, mom_set b h8 h]
  exact ⟨rfl, rfl⟩
theorem sum_cut (f : Nat → Int) (n : Nat) : ∀ m, (∀ i, n ≤ i → i < n + m → f i = 0) → ((List.range (n + m)).map f).sum = ((List.range n).map f).sum
  | 0, _ => rfl
  | m + 1, h => by
    rw [show n + (m + 1) = n + m + 1 by omega, List.range_succ, List.map_append, List.sum_append, sum_cut f n m (fun i h1 h2 => h i h1 (by omega))]
    simp [h (n + m) (by omega) (by omega)]
theorem code_ext {n c d : Nat} (hc : c < 2 ^ n) (hd : d < 2 ^ n) (h : ∀ i, i < n → c.testBit i = d.testBit i) : c = d := by
  refine Nat.eq_of_testBit_eq (fun i => ?_)
  by_cases hi : i < n
  · exact h i hi
  · have := Nat.pow_le_pow_right (n := 2) (by decide) (Nat.le_of_not_lt hi)
    rw [Nat.testBit_lt_two_pow (by omega), Nat.testBit_lt_two_pow (by omega)]
theorem full_bit (n i : Nat) (h : i < n) : (2 ^ n - 1).testBit i = true := by rw [Nat.testBit_two_pow_sub_one]; simp [h]
theorem code_lt8 {n c : Nat} (h8 : n ≤ 8) (hc : c < 2 ^ n) : c < 256 := by
  have := Nat.pow_le_pow_right (n := 2) (by decide) h8
  omega
theorem deck_same {row : List (Int × Int)} (h8 : row.length ≤ 8) (hz : RowF row) {c : Nat} (hc : c < 2 ^ row.length) : deckL row c = deckL row (2 ^ row.length - 1) ↔ c = 2 ^ row.length - 1 := by
  constructor
  · intro h
    have hp : 0 < 2 ^ row.length := Nat.pow_pos (by decide)
    refine code_ext hc (by omega) (fun i hi => ?_)
    rw [full_bit _ _ hi]
    have := (full_ne hz c i (by omega)).1 (by rw [h])
    cases hb : c.testBit i with
    | true => rfl
    | false => exact absurd ⟨hi, hb⟩ this
  · rintro rfl; rfl
theorem deck_none {row : List (Int × Int)} (h8 : row.length ≤ 8) (hz : RowF row) {c : Nat} (hc : c < 2 ^ row.length) : deckL row c = deckL row 0 ↔ c = 0 := by
  constructor
  · intro h
    have hp : 0 < 2 ^ row.length := Nat.pow_pos (by decide)
    refine code_ext hc hp (fun i hi => ?_)
    rw [Nat.zero_testBit]
    have := (zero_ne hz c i (by omega)).1 (by rw [h])
    cases hb : c.testBit i with
    | false => rfl
    | true => exact absurd ⟨hi, hb⟩ this
  · rintro rfl; rfl
/-- The ways from the deck of a number to the full one. -/
def wfF (sf : List (Int × Int) → Bool) (row : List (Int × Int)) (c : Nat) : Int := wyF sf (deckL row (2 ^ row.length - 1)) (deckL row c)
/-- What is added up at a number. -/
def wsC (sf : List (Int × Int) → Bool) (row : List (Int × Int)) (c k : Nat) : Int := (if c = 2 ^ row.length - 1 then 1 else 0) + ((List.range k).map (fun i => if c.testBit i = true then 0 else wfF sf row (c + 2 ^ i))).sum
theorem wsC_succ (sf : List (Int × Int) → Bool) (row : List (Int × Int)) (c k : Nat) : wsC sf row c (k + 1) = wsC sf row c k + (if c.testBit k = true then 0 else wfF sf row (c + 2 ^ k)) := by
  unfold wsC
  rw [List.range_succ, List.map_append, List.sum_append]
  simp [Int.add_assoc]
theorem wfF_bnd (sf : List (Int × Int) → Bool) (row : List (Int × Int)) (c : Nat) : 0 ≤ wfF sf row c ∧ wfF sf row c ≤ 16777216 := wy_bnd _ _ _
theorem wsC_bnd (sf : List (Int × Int) → Bool) (row : List (Int × Int)) (c k : Nat) (hk : k ≤ 8) : 0 ≤ wsC sf row c k ∧ wsC sf row c k ≤ 134217729 := by
  have := sum_bnd (fun i => if c.testBit i = true then 0 else wfF sf row (c + 2 ^ i)) 16777216 (fun i => by
    split
    · decide
    · exact wfF_bnd sf row _) k
  unfold wsC
  have : (k : Int) ≤ 8 := by omega
  split <;> omega
theorem add_lt {n c i : Nat} (h8 : n ≤ 8) (hc : c < 2 ^ n) (hi : i < n) (h : c.testBit i = false) : c + 2 ^ i < 2 ^ n := by
  have h1 := bits_lt c i (code_lt8 h8 hc) (by omega) h
  refine Nat.lt_of_not_le (fun hge => ?_)
  obtain ⟨j, hj1, hj2⟩ := Nat.exists_ge_and_testBit_of_ge_two_pow hge
  have hj8 : j < 8 := Nat.lt_of_not_le (fun h9 => by
    have := Nat.pow_le_pow_right (n := 2) (by decide) h9
    rw [Nat.testBit_lt_two_pow (by omega)] at hj2
    cases hj2)
  rw [bit_add (by omega) (code_lt8 h8 hc) hj8 h, if_neg (by omega)] at hj2
  have := Nat.pow_le_pow_right (n := 2) (by decide) hj1
  rw [Nat.testBit_lt_two_pow (by omega)] at hj2
  cases hj2
theorem wf_eq (sf : List (Int × Int) → Bool) {row : List (Int × Int)} (h8 : row.length ≤ 8) (hz : RowF row) {c : Nat} (hc : c < 2 ^ row.length) : wfF sf row c = if sf (deckL row c) = true then wsC sf row c row.length else 0 := by
  unfold wfF
  rw [wy_eq sf (deckL_len _ _) (deckL_len _ _)]
  congr 1
  unfold wsC
  by_cases he : c = 2 ^ row.length - 1
  · rw [if_pos ((deck_same h8 hz hc).2 he), if_pos he]
    have := sum_cut (fun i => if c.testBit i = true then 0 else wfF sf row (c + 2 ^ i)) 0 row.length (fun i _ hi => by
      rw [he, full_bit _ _ (by omega)]
      rfl)
    rw [Nat.zero_add] at this
    rw [this]
    rfl
  · rw [if_neg (fun h => he ((deck_same h8 hz hc).1 h)), if_neg he, Int.zero_add]
    have := sum_cut (fun i => if (deckL row c).getD i (0, 0) = (deckL row (2 ^ row.length - 1)).getD i (0, 0) then 0 else wyF sf (deckL row (2 ^ row.length - 1)) ((deckL row c).set i ((deckL row (2 ^ row.length - 1)).getD i (0, 0)))) row.length (8 - row.length) (fun i h1 h2 => by
      rw [if_pos ((full_ne hz c i (by omega)).2 (by omega))])
    rw [show row.length + (8 - row.length) = 8 by omega] at this
    rw [this]
    congr 1
    refine List.map_congr_left (fun i hi => ?_)
    have hi' := List.mem_range.1 hi
    cases hb : c.testBit i with
    | true => rw [if_pos ((full_ne hz c i (by omega)).2 (fun h => by rw [hb] at h; cases h.2)), if_pos rfl]
    | false =>
      rw [if_neg (fun h => (full_ne hz c i (by omega)).1 h ⟨hi', hb⟩), if_neg (by decide), deck_full i (by omega), if_pos hi', deck_add h8 hi' (code_lt8 h8 hc) hb]
      rfl
/-- Whether all can be taken from the deck of a number. -/
def wbB (sf : List (Int × Int) → Bool) (row : List (Int × Int)) (c : Nat) : Bool := decide (0 < wyF sf (deckL row 0) (deckL row c))
def gbB (sf : List (Int × Int) → Bool) (row : List (Int × Int)) (c k : Nat) : Bool := decide (c = 0) || (List.range k).any (fun i => c.testBit i && wbB sf row (c - 2 ^ i))
theorem gbB_succ (sf : List (Int × Int) → Bool) (row : List (Int × Int)) (c k : Nat) : gbB sf row c (k + 1) = (gbB sf row c k || (c.testBit k && wbB sf row (c - 2 ^ k))) := by
  unfold gbB
  rw [List.range_succ, List.any_append]
  simp [Bool.or_assoc]
theorem sum_any (f : Nat → Int) (h : ∀ i, 0 ≤ f i) : ∀ n : Nat, (0 < ((List.range n).map f).sum) ↔ ∃ i, i < n ∧ 0 < f i := by
  intro n
  constructor
  · exact sum_pos f h n
  · rintro ⟨i, hi, hf⟩
    have hs : ∀ n : Nat, 0 ≤ ((List.range n).map f).sum := by
      intro n
      induction n with
      | zero => simp
      | succ n ih =>
        rw [List.range_succ, List.map_append, List.sum_append]
        have := h n
        simp
        omega
    induction n with
    | zero => omega
    | succ n ih =>
      rw [List.range_succ, List.map_append, List.sum_append]
      simp only [List.map_cons, List.map_nil, List.sum_cons, List.sum_nil]
      have a := h n
      have b := hs n
      by_cases he : i = n
      · subst he; omega
      · have := ih (by omega); omega
theorem wb_eq (sf : List (Int × Int) → Bool) {row : List (Int × Int)} (h8 : row.length ≤ 8) (hz : RowF row) {c : Nat} (hc : c < 2 ^ row.length) : wbB sf row c = (gbB sf row c row.length && sf (deckL row c)) := by
  unfold wbB
  rw [Bool.eq_iff_iff, decide_eq_true_eq, wy_eq sf (deckL_len _ _) (deckL_len _ _), Bool.and_eq_true]
  by_cases hs : sf (deckL row c) = true
  · rw [if_pos hs]
    simp only [hs, and_true]
    unfold gbB
    by_cases he : c = 0
    · rw [if_pos ((deck_none h8 hz hc).2 he)]
      simp [he]
    · rw [if_neg (fun h => he ((deck_none h8 hz hc).1 h)), sum_any _ (fun i => by
        split
        · exact Int.le_refl _
        · exact (wy_bnd _ _ _).1)]
      simp only [he, decide_false, Bool.false_or, List.any_eq_true, List.mem_range, Bool.and_eq_true, wbB, decide_eq_true_eq]
      constructor
      · rintro ⟨i, hi, hf⟩
        split at hf
        · omega
        · rename_i hn
          have hb : i < row.length ∧ c.testBit i = true := Classical.byContradiction (fun h => hn ((zero_ne hz c i hi).2 h))
          rw [deck_zero row i hi, deck_sub h8 hb.1 (code_lt8 h8 hc) hb.2] at hf
          exact ⟨i, hb.1, hb.2, hf⟩
      · rintro ⟨i, hi, hb, hf⟩
        refine ⟨i, by omega, ?_⟩
        rw [if_neg (fun h => (zero_ne hz c i (by omega)).1 h ⟨hi, hb⟩), deck_zero row i (by omega), deck_sub h8 hi (code_lt8 h8 hc) hb]
        exact hf
  · rw [if_neg hs]
    simp [hs]
end Go.Proofs.Ytcfbnadefdcjaaa
