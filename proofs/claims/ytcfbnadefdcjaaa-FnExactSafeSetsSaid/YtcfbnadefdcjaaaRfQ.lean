/- Plain facts on decks and on the ways from one deck to another, item by item. No program stands here. -/
import Derived.Test.YtcfbnadefdcjaaaRfP
namespace Go.Proofs.Ytcfbnadefdcjaaa
/-- The deck with the items of a number. -/
def deckL (row : List (Int × Int)) (c : Nat) : List (Int × Int) := (List.range 8).map (fun i => if i < row.length ∧ c.testBit i = true then row.getD i (0, 0) else (0, 0))
theorem deckL_len (row : List (Int × Int)) (c : Nat) : (deckL row c).length = 8 := by simp [deckL]
theorem deckL_at (row : List (Int × Int)) (c i : Nat) (h : i < 8) : (deckL row c).getD i (0, 0) = if i < row.length ∧ c.testBit i = true then row.getD i (0, 0) else (0, 0) := by
  unfold deckL
  simp [List.getD, h]
/-- How many items two decks differ in. -/
def diffN (g d : List (Int × Int)) : Nat := (List.range 8).countP (fun i => !(d.getD i (0, 0) == g.getD i (0, 0)))
/-- In how many orders a deck comes to a goal over good decks only. -/
def wysF (sf : List (Int × Int) → Bool) (g : List (Int × Int)) : Nat → List (Int × Int) → Int
  | 0, d => if sf d = true then 1 else 0
  | k + 1, d => if sf d = true then ((List.range 8).map (fun i => if d.getD i (0, 0) = g.getD i (0, 0) then 0 else wysF sf g k (d.set i (g.getD i (0, 0))))).sum else 0
def wyF (sf : List (Int × Int) → Bool) (g d : List (Int × Int)) : Int := wysF sf g (diffN g d) d
theorem ext8 {g d : List (Int × Int)} (hg : g.length = 8) (hd : d.length = 8) (h : ∀ i, i < 8 → d.getD i (0, 0) = g.getD i (0, 0)) : d = g := by
  refine List.ext_getElem (by omega) (fun i h1 h2 => ?_)
  have := h i (by omega)
  simpa [List.getD, h1, h2] using this
theorem diff_zero {g d : List (Int × Int)} (hg : g.length = 8) (hd : d.length = 8) : diffN g d = 0 ↔ d = g := by
  constructor
  · intro h
    refine ext8 hg hd (fun i hi => ?_)
    unfold diffN at h
    rw [List.countP_eq_zero] at h
    have := h i (List.mem_range.2 hi)
    simpa using this
  · rintro rfl
    unfold diffN
    rw [List.countP_eq_zero]
    intro i _
    simp
theorem set_at {d : List (Int × Int)} (hd : d.length = 8) (i j : Nat) (x : Int × Int) (hi : i < 8) : (d.set i x).getD j (0, 0) = if i = j then x else d.getD j (0, 0) := by
  simp only [List.getD, List.getElem?_set]
  by_cases h : i = j
  · subst h; simp [hd, hi]
  · simp [h]
theorem count_less (p q : Nat → Bool) (i : Nat) : ∀ n, i < n → p i = true → q i = false → (∀ j, j ≠ i → q j = p j) → (List.range n).countP p = (List.range n).countP q + 1
  | 0, h, _, _, _ => absurd h (Nat.not_lt_zero _)
  | n + 1, h, hp, hq, hj => by
    rw [List.range_succ, List.countP_append, List.countP_append]
    by_cases he : i = n
    · subst he
      have : (List.range i).countP p = (List.range i).countP q := by
        refine List.countP_congr (fun x hx => ?_)
        rw [List.mem_range] at hx
        rw [hj x (by omega)]
      rw [this]
      simp [hp, hq]
    · have := count_less p q i n (by omega) hp hq hj
      have e := hj n (by omega)
      rw [this]
      simp [List.countP_cons, e]
      omega
theorem diff_set {g d : List (Int × Int)} (hd : d.length = 8) (i : Nat) (hi : i < 8) (h : d.getD i (0, 0) ≠ g.getD i (0, 0)) : diffN g d = diffN g (d.set i (g.getD i (0, 0))) + 1 := by
  unfold diffN
  refine count_less _ _ i 8 hi (by simpa using h) ?_ (fun j hj => ?_)
  · simp only [set_at hd i _ _ hi]
    simp
  · simp only [set_at hd i j _ hi]
    rw [if_neg (Ne.symm hj)]
theorem diff_le (g d : List (Int × Int)) : diffN g d ≤ 8 := by
  unfold diffN
  exact Nat.le_trans List.countP_le_length (by simp)
/-- The ways from a deck, told by those from the next ones. -/
theorem wy_eq (sf : List (Int × Int) → Bool) {g d : List (Int × Int)} (hg : g.length = 8) (hd : d.length = 8) :
    wyF sf g d = if sf d = true then (if d = g then 1 else ((List.range 8).map (fun i => if d.getD i (0, 0) = g.getD i (0, 0) then 0 else wyF sf g (d.set i (g.getD i (0, 0))))).sum) else 0 := by
  unfold wyF
  by_cases he : d = g
  · rw [if_pos he, (diff_zero hg hd).2 he]
    rfl
  · rw [if_neg he]
    obtain ⟨k, hk⟩ : ∃ k, diffN g d = k + 1 := ⟨diffN g d - 1, by have := mt (diff_zero hg hd).1 he; omega⟩
    rw [hk, wysF]
    congr 2
    refine List.map_congr_left (fun i hi => ?_)
    by_cases h : d.getD i (0, 0) = g.getD i (0, 0)
    · rw [if_pos h, if_pos h]
    · rw [if_neg h, if_neg h]
      have := diff_set hd i (List.mem_range.1 hi) h
      rw [show diffN g (d.set i (g.getD i (0, 0))) = k by omega]
theorem sum_bnd (f : Nat → Int) (M : Int) (h : ∀ i, 0 ≤ f i ∧ f i ≤ M) : ∀ n : Nat, 0 ≤ ((List.range n).map f).sum ∧ ((List.range n).map f).sum ≤ n * M
  | 0 => by simp
  | n + 1 => by
    have a := sum_bnd f M h n
    have b := h n
    rw [List.range_succ, List.map_append, List.sum_append]
    simp only [List.map_cons, List.map_nil, List.sum_cons, List.sum_nil]
    rw [show ((n + 1 : Nat) : Int) = (n : Int) + 1 from rfl, Int.add_mul, Int.one_mul]
    omega
theorem wys_bnd (sf : List (Int × Int) → Bool) (g : List (Int × Int)) : ∀ k d, 0 ≤ wysF sf g k d ∧ wysF sf g k d ≤ 8 ^ k
  | 0, d => by unfold wysF; split <;> simp
  | k + 1, d => by
    have hp : (0 : Int) ≤ 8 ^ k := Int.pow_nonneg (by decide)
    unfold wysF
    split
    · have := sum_bnd (fun i => if d.getD i (0, 0) = g.getD i (0, 0) then 0 else wysF sf g k (d.set i (g.getD i (0, 0)))) (8 ^ k) (fun i => by
        split
        · exact ⟨Int.le_refl _, hp⟩
        · exact wys_bnd sf g k _) 8
      rw [Int.pow_succ]
      omega
    · exact ⟨Int.le_refl _, by rw [Int.pow_succ]; omega⟩
theorem wy_bnd (sf : List (Int × Int) → Bool) (g d : List (Int × Int)) : 0 ≤ wyF sf g d ∧ wyF sf g d ≤ 16777216 := by
  have := wys_bnd sf g (diffN g d) d
  have h8 := diff_le g d
  have : (8 : Int) ^ diffN g d ≤ 8 ^ 8 := by
    have : (8 : Nat) ^ diffN g d ≤ 8 ^ 8 := Nat.pow_le_pow_right (by decide) h8
    exact_mod_cast this
  unfold wyF
  omega
/-- What is added up behind some of the items. -/
def wsF (sf : List (Int × Int) → Bool) (g d : List (Int × Int)) (k : Nat) : Int := ((List.range k).map (fun i => if d.getD i (0, 0) = g.getD i (0, 0) then 0 else wyF sf g (d.set i (g.getD i (0, 0))))).sum
theorem ws_succ (sf : List (Int × Int) → Bool) (g d : List (Int × Int)) (k : Nat) : wsF sf g d (k + 1) = wsF sf g d k + (if d.getD k (0, 0) = g.getD k (0, 0) then 0 else wyF sf g (d.set k (g.getD k (0, 0)))) := by
  unfold wsF
  rw [List.range_succ, List.map_append, List.sum_append]
  simp
theorem ws_bnd (sf : List (Int × Int) → Bool) (g d : List (Int × Int)) (k : Nat) (hk : k ≤ 8) : 0 ≤ wsF sf g d k ∧ wsF sf g d k ≤ 134217728 := by
  have := sum_bnd (fun i => if d.getD i (0, 0) = g.getD i (0, 0) then 0 else wyF sf g (d.set i (g.getD i (0, 0)))) 16777216 (fun i => by
    split
    · decide
    · exact wy_bnd sf g _) k
  unfold wsF
  have : (k : Int) ≤ 8 := by omega
  omega
/-- The items behind which a deck still comes to the goal. -/
def stepB (sf : List (Int × Int) → Bool) (g d : List (Int × Int)) (i : Nat) : Bool := !(d.getD i (0, 0) == g.getD i (0, 0)) && decide (0 < wyF sf g (d.set i (g.getD i (0, 0))))
def stepL (sf : List (Int × Int) → Bool) (g d : List (Int × Int)) (k : Nat) : List Int := ((List.range k).filter (stepB sf g d)).map (fun (i : Nat) => (i : Int))
theorem stepL_succ (sf : List (Int × Int) → Bool) (g d : List (Int × Int)) (k : Nat) : stepL sf g d (k + 1) = stepL sf g d k ++ (if stepB sf g d k = true then [(k : Int)] else []) := by
  unfold stepL
  rw [List.range_succ, List.filter_append, List.map_append]
  congr 1
  by_cases h : stepB sf g d k = true <;> simp [h]
theorem sum_pos (f : Nat → Int) (h : ∀ i, 0 ≤ f i) : ∀ n : Nat, 0 < ((List.range n).map f).sum → ∃ i, i < n ∧ 0 < f i
  | 0, hs => by simp at hs
  | n + 1, hs => by
    rw [List.range_succ, List.map_append, List.sum_append] at hs
    simp only [List.map_cons, List.map_nil, List.sum_cons, List.sum_nil] at hs
    by_cases hn : 0 < f n
    · exact ⟨n, by omega, hn⟩
    · have := h n
      obtain ⟨i, hi, hf⟩ := sum_pos f h n (by omega)
      exact ⟨i, by omega, hf⟩
/-- A deck with a way, that isn't the goal, has a next item. -/
theorem step_some (sf : List (Int × Int) → Bool) {g d : List (Int × Int)} (hg : g.length = 8) (hd : d.length = 8) (h : 0 < wyF sf g d) (hne : d ≠ g) : ∃ i, i < 8 ∧ stepB sf g d i = true := by
  rw [wy_eq sf hg hd, if_neg hne] at h
  split at h
  · obtain ⟨i, hi, hf⟩ := sum_pos _ (fun i => by
      split
      · exact Int.le_refl _
      · exact (wy_bnd sf g _).1) 8 h
    refine ⟨i, hi, ?_⟩
    split at hf
    · omega
    · rename_i hn
      unfold stepB
      simp only [Bool.and_eq_true, Bool.not_eq_true', beq_eq_false_iff_ne, decide_eq_true_eq]
      exact ⟨hn, hf⟩
  · omega
/-- The first item of the next ones. -/
def fstN (sf : List (Int × Int) → Bool) (g d : List (Int × Int)) : Nat := ((List.range 8).find? (stepB sf g d)).getD 0
theorem fst_is (sf : List (Int × Int) → Bool) {g d : List (Int × Int)} (hg : g.length = 8) (hd : d.length = 8) (h : 0 < wyF sf g d) (hne : d ≠ g) : fstN sf g d < 8 ∧ stepB sf g d (fstN sf g d) = true ∧ (∀ j, j < fstN sf g d → stepB sf g d j = false) ∧ (stepL sf g d 8).getD 0 0 = fstN sf g d ∧ 0 < (stepL sf g d 8).length := by
  obtain ⟨i, hi, hs⟩ := step_some sf hg hd h hne
  have hf : ((List.range 8).find? (stepB sf g d)).isSome = true := by
    rw [List.find?_isSome]
    exact ⟨i, List.mem_range.2 hi, hs⟩
  obtain ⟨k, hk⟩ := Option.isSome_iff_exists.1 hf
  have e : fstN sf g d = k := by unfold fstN; rw [hk]; rfl
  rw [e]
  obtain ⟨h1, la, lb, h2, h3⟩ := List.find?_eq_some_iff_append.1 hk
  have hm : k ∈ List.range 8 := by rw [h2]; simp
  have hk8 : k < 8 := List.mem_range.1 hm
  have hal : la = List.range k := by
    have hlen : la.length = k := by
      have : (List.range 8)[la.length]? = some k := by rw [h2]; simp
      rw [List.getElem?_range (by have := congrArg List.length h2; simp at this; omega)] at this
      simpa using this
    have := congrArg (List.take la.length) h2
    rw [List.take_left, hlen, List.take_range] at this
    rw [← this, Nat.min_eq_left (by omega)]
  have hn : ∀ j, j < k → stepB sf g d j = false := fun j hj => by
    have := h3 j (by rw [hal]; exact List.mem_range.2 hj)
    simpa using this
  refine ⟨hk8, h1, hn, ?_⟩
  have h0 : (List.range k).filter (stepB sf g d) = [] := by
    rw [List.filter_eq_nil_iff]
    intro j hj
    rw [hn j (List.mem_range.1 hj)]
    simp
  unfold stepL
  rw [h2, hal, List.filter_append, h0, List.filter_cons, if_pos h1]
  simp
/-- The first order, by the number of items that are to be moved. -/
def ordF (sf : List (Int × Int) → Bool) (g : List (Int × Int)) : Nat → List (Int × Int) → List Int
  | 0, _ => []
  | k + 1, d => (fstN sf g d : Int) :: ordF sf g k (d.set (fstN sf g d) (g.getD (fstN sf g d) (0, 0)))
/-- The deck behind some items of the first order. -/
def dkF (sf : List (Int × Int) → Bool) (g : List (Int × Int)) (d : List (Int × Int)) : Nat → List (Int × Int)
  | 0 => d
  | k + 1 => (dkF sf g d k).set (fstN sf g (dkF sf g d k)) (g.getD (fstN sf g (dkF sf g d k)) (0, 0))
def ordL (sf : List (Int × Int) → Bool) (g d : List (Int × Int)) (k : Nat) : List Int := (List.range k).map (fun i => (fstN sf g (dkF sf g d i) : Int))
theorem ordL_len (sf : List (Int × Int) → Bool) (g d : List (Int × Int)) (k : Nat) : (ordL sf g d k).length = k := by simp [ordL]
theorem ordL_succ (sf : List (Int × Int) → Bool) (g d : List (Int × Int)) (k : Nat) : ordL sf g d (k + 1) = ordL sf g d k ++ [(fstN sf g (dkF sf g d k) : Int)] := by
  unfold ordL
  rw [List.range_succ, List.map_append]
  rfl
theorem dk_facts (sf : List (Int × Int) → Bool) {g d : List (Int × Int)} (hg : g.length = 8) (hd : d.length = 8) (h : 0 < wyF sf g d) : ∀ k, k ≤ diffN g d → (dkF sf g d k).length = 8 ∧ 0 < wyF sf g (dkF sf g d k) ∧ diffN g (dkF sf g d k) = diffN g d - k
  | 0, _ => ⟨hd, h, rfl⟩
  | k + 1, hk => by
    obtain ⟨h1, h2, h3⟩ := dk_facts sf hg hd h k (by omega)
    have hne : dkF sf g d k ≠ g := fun e => by
      have := (diff_zero hg h1).2 e
      omega
    obtain ⟨f1, f2, _, _⟩ := fst_is sf hg h1 h2 hne
    have hs := f2
    unfold stepB at hs
    simp only [Bool.and_eq_true, Bool.not_eq_true', beq_eq_false_iff_ne, decide_eq_true_eq] at hs
    have := diff_set h1 _ f1 hs.1
    refine ⟨by rw [dkF, List.length_set]; exact h1, hs.2, ?_⟩
    rw [dkF]
    omega
/-- More good decks have no fewer ways. -/
theorem wys_mono (sf sf2 : List (Int × Int) → Bool) (h : ∀ d, sf d = true → sf2 d = true) (g : List (Int × Int)) : ∀ k d, wysF sf g k d ≤ wysF sf2 g k d
  | 0, d => by
    unfold wysF
    by_cases h1 : sf d = true
    · rw [if_pos h1, if_pos (h d h1)]; exact Int.le_refl _
    · rw [if_neg h1]; exact (wys_bnd sf2 g 0 d).1
  | k + 1, d => by
    by_cases h1 : sf d = true
    · unfold wysF
      rw [if_pos h1, if_pos (h d h1)]
      have : ∀ n : Nat, ((List.range n).map (fun i => if d.getD i (0, 0) = g.getD i (0, 0) then 0 else wysF sf g k (d.set i (g.getD i (0, 0))))).sum ≤ ((List.range n).map (fun i => if d.getD i (0, 0) = g.getD i (0, 0) then 0 else wysF sf2 g k (d.set i (g.getD i (0, 0))))).sum := by
        intro n
        induction n with
        | zero => simp
        | succ n ih =>
          rw [List.range_succ, List.map_append, List.map_append, List.sum_append, List.sum_append]
          simp only [List.map_cons, List.map_nil, List.sum_cons, List.sum_nil]
          have := wys_mono sf sf2 h g k (d.set n (g.getD n (0, 0)))
          split <;> omega
      exact this 8
    · have := (wys_bnd sf2 g (k + 1) d).1
      rw [wysF, if_neg h1]
      exact this
theorem wy_mono (sf sf2 : List (Int × Int) → Bool) (h : ∀ d, sf d = true → sf2 d = true) (g d : List (Int × Int)) : wyF sf g d ≤ wyF sf2 g d := wys_mono sf sf2 h g _ d
/-- Decks of numbers. -/
def bitsB : Bool := (List.range 8).all fun i => (List.range 256).all fun c => (List.range 8).all fun j => if c.testBit i then (decide ((c - 2 ^ i).testBit j = (if i = j then false else c.testBit j)) && decide (2 ^ i ≤ c)) else decide ((c + 2 ^ i).testBit j = (if i = j then true else c.testBit j))
theorem bitsB_is : bitsB = true := by decide +kernel
theorem bits_of {c i j : Nat} (hi : i < 8) (hc : c < 256) (hj : j < 8) : (if c.testBit i then (decide ((c - 2 ^ i).testBit j = (if i = j then false else c.testBit j)) && decide (2 ^ i ≤ c)) else decide ((c + 2 ^ i).testBit j = (if i = j then true else c.testBit j))) = true := by
  have h := bitsB_is
  unfold bitsB at h
  rw [List.all_eq_true] at h
  have h1 := h i (List.mem_range.2 hi)
  rw [List.all_eq_true] at h1
  have h2 := h1 c (List.mem_range.2 hc)
  rw [List.all_eq_true] at h2
  exact h2 j (List.mem_range.2 hj)
theorem bit_add {c i j : Nat} (hi : i < 8) (hc : c < 256) (hj : j < 8) (h : c.testBit i = false) : (c + 2 ^ i).testBit j = (if i = j then true else c.testBit j) := by
  have := bits_of hi hc hj
  rw [h] at this
  exact of_decide_eq_true (by simpa using this)
theorem bit_sub {c i j : Nat} (hi : i < 8) (hc : c < 256) (hj : j < 8) (h : c.testBit i = true) : (c - 2 ^ i).testBit j = (if i = j then false else c.testBit j) ∧ 2 ^ i ≤ c := by
  have := bits_of hi hc hj
  rw [h, if_pos rfl, Bool.and_eq_true, decide_eq_true_eq, decide_eq_true_eq] at this
  exact this
def bitsC : Bool := (List.range 8).all fun i => (List.range 256).all fun c => c.testBit i || decide (c + 2 ^ i < 256)
theorem bitsC_is : bitsC = true := by decide +kernel
theorem bits_lt (c i : Nat) (hc : c < 256) (hi : i < 8) (h : c.testBit i = false) : c + 2 ^ i < 256 := by
  have h1 := bitsC_is
  unfold bitsC at h1
  rw [List.all_eq_true] at h1
  have h2 := h1 i (List.mem_range.2 hi)
  rw [List.all_eq_true] at h2
  have h3 := h2 c (List.mem_range.2 hc)
  rw [h, Bool.false_or, decide_eq_true_eq] at h3
  exact h3
theorem deck_add {row : List (Int × Int)} (h8 : row.length ≤ 8) {c i : Nat} (hi : i < row.length) (hc : c < 256) (h : c.testBit i = false) : (deckL row c).set i (row.getD i (0, 0)) = deckL row (c + 2 ^ i) := by
  refine ext8 (deckL_len _ _) (by rw [List.length_set, deckL_len]) (fun j hj => ?_)
  rw [set_at (deckL_len _ _) i j _ (by omega), deckL_at _ _ _ hj, deckL_at _ _ _ hj, bit_add (by omega) hc hj h]
  by_cases e : i = j
  · subst e; simp [hi]
  · simp [e]
theorem deck_sub {row : List (Int × Int)} (h8 : row.length ≤ 8) {c i : Nat} (hi : i < row.length) (hc : c < 256) (h : c.testBit i = true) : (deckL row c).set i (0, 0) = deckL row (c - 2 ^ i) := by
  refine ext8 (deckL_len _ _) (by rw [List.length_set, deckL_len]) (fun j hj => ?_)
  rw [set_at (deckL_len _ _) i j _ (by omega), deckL_at _ _ _ hj, deckL_at _ _ _ hj, (bit_sub (by omega) hc hj h).1]
  by_cases e : i = j
  · subst e; simp
  · simp [e]
theorem load_ne {row : List (Int × Int)} (hz : RowF row) {i : Nat} (hi : i < row.length) : row.getD i (0, 0) ≠ (0, 0) := by
  have := hz.each (row.getD i (0, 0)) (by rw [List.getD, List.getElem?_eq_getElem hi, Option.getD_some]; exact List.getElem_mem _)
  intro e
  rw [e] at this
  simp at this
theorem deck_full {row : List (Int × Int)} (j : Nat) (hj : j < 8) : (deckL row (2 ^ row.length - 1)).getD j (0, 0) = if j < row.length then row.getD j (0, 0) else (0, 0) := by
  rw [deckL_at _ _ _ hj, Nat.testBit_two_pow_sub_one]
  by_cases h : j < row.length <;> simp [h]
theorem deck_zero (row : List (Int × Int)) (j : Nat) (hj : j < 8) : (deckL row 0).getD j (0, 0) = (0, 0) := by
  rw [deckL_at _ _ _ hj, Nat.zero_testBit]
  simp
/-- Where a deck differs from the full one. -/
theorem full_ne {row : List (Int × Int)} (hz : RowF row) (c j : Nat) (hj : j < 8) : ((deckL row c).getD j (0, 0) = (deckL row (2 ^ row.length - 1)).getD j (0, 0)) ↔ ¬ (j < row.length ∧ c.testBit j = false) := by
  rw [deck_full j hj, deckL_at _ _ _ hj]
  by_cases h : j < row.length
  · have := load_ne hz h
    cases hb : c.testBit j with
    | true => simp [h]
    | false => simp [h]; intro e; exact this (by simpa [List.getD, h] using e.symm)
  · simp [h]
theorem zero_ne {row : List (Int × Int)} (hz : RowF row) (c j : Nat) (hj : j < 8) : ((deckL row c).getD j (0, 0) = (deckL row 0).getD j (0, 0)) ↔ ¬ (j < row.length ∧ c.testBit j = true) := by
  rw [deck_zero row j hj, deckL_at _ _ _ hj]
  by_cases h : j < row.length
  · have := load_ne hz h
    cases hb : c.testBit j with
    | false => simp
    | true => simp [h]; intro e; exact this (by simpa [List.getD, h] using e)
  · simp [h]
end Go.Proofs.Ytcfbnadefdcjaaa
