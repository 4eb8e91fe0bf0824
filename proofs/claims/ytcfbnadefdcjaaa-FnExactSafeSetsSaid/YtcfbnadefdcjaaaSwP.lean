/- Plain facts on weights, arms, seatings and tilts. No program stands here. -/
import Derived.Test.YtcfbnadefdcjaaaKitPlain
import Derived.Test.YtcfbnadefdcjaaaRowPlain
namespace Go.Proofs.Ytcfbnadefdcjaaa
/-- What weights are. -/
structure WtsF (xs : List Int) : Prop where
  short : xs.length ≤ 12
  each : ∀ j, j < xs.length → 1 ≤ xs.getD j 0 ∧ xs.getD j 0 ≤ 99
noncomputable def wtsB (xs : List Int) : Bool := propB (WtsF xs)
noncomputable def askW (xs : List Int) (k : Int) : Bool := wtsB xs && (decide (1 ≤ k) && decide (k ≤ 6))
def ArmsF (xs : List Int) : Prop := ∀ j, j < xs.length → 1 ≤ xs.getD j 0 ∧ xs.getD j 0 ≤ 6
noncomputable def armB (ws qs : List Int) : Bool := (wtsB ws && propB (ArmsF qs)) && decide ((qs.length : Int) = ws.length)
theorem askW_iff (xs : List Int) (k : Int) : askW xs k = true ↔ WtsF xs ∧ 1 ≤ k ∧ k ≤ 6 := by unfold askW wtsB; simp [propB_iff]
theorem armB_iff (ws qs : List Int) : armB ws qs = true ↔ (WtsF ws ∧ ArmsF qs) ∧ qs.length = ws.length := by
  unfold armB wtsB
  rw [Bool.and_eq_true, Bool.and_eq_true, propB_iff, propB_iff, decide_eq_true_iff]
  constructor
  · rintro ⟨h1, h2⟩; exact ⟨h1, by omega⟩
  · rintro ⟨h1, h2⟩; exact ⟨h1, by omega⟩
/-- The first number below n for which f is true. -/
def firstF (f : Nat → Bool) (n : Nat) : Option Nat := (List.range n).find? f
theorem first_yes {f : Nat → Bool} {n k : Nat} (hk : k < n) (h : f k = true) (hb : ∀ j, j < k → f j = false) : firstF f n = some k := by
  unfold firstF
  rw [List.find?_eq_some_iff_append]
  refine ⟨h, List.range k, (List.range (n - k - 1)).map (fun j => k + 1 + j), ?_, fun x hx => ?_⟩
  · obtain ⟨m, rfl⟩ : ∃ m, n = k + (1 + m) := ⟨n - k - 1, by omega⟩
    rw [List.range_add, List.range_add]
    simp [Nat.add_assoc]
  · rw [List.mem_range] at hx
    simp [hb x hx]
theorem first_no {f : Nat → Bool} {n : Nat} (h : ∀ j, j < n → f j = false) : firstF f n = none := by
  unfold firstF
  rw [List.find?_eq_none]
  intro x hx
  rw [List.mem_range] at hx
  simp [h x hx]
theorem first_lt {f : Nat → Bool} {n k : Nat} (h : firstF f n = some k) : k < n := by
  unfold firstF at h
  exact List.mem_range.1 (List.mem_of_find?_eq_some h)
/-- Where a load goes in one move. -/
def toF (xs : List (Int × Int)) (M : Int) (i : Nat) : Int := (xs.getD i (0, 0)).1 - Int.tdiv M (xs.getD i (0, 0)).2
def mvAt (xs : List (Int × Int)) (M : Int) (i : Nat) : Bool := decide (Int.tmod M (xs.getD i (0, 0)).2 = 0) && (decide (0 ≤ toF xs M i) && decide (toF xs M i ≤ 60))
def offB (xs : List (Int × Int)) (p : Int) : Bool := (rowB' xs && (decide (0 ≤ p) && decide (p ≤ 60))) && decide (momF p xs ≠ 0)
where rowB' (xs : List (Int × Int)) : Bool := decide (xs.length ≤ 12) && xs.all loadB
def mvN (xs : List (Int × Int)) (p : Int) : Option Nat := if offB xs p = true then firstF (mvAt xs (momF p xs)) xs.length else none
def mvI (xs : List (Int × Int)) (p : Int) : Int := match mvN xs p with | none => 0 | some i => i
def mvT (xs : List (Int × Int)) (p : Int) : Int := match mvN xs p with | none => 0 | some i => toF xs (momF p xs) i
/-- What changes if two loads exchange their places. -/
def chgF (xs : List (Int × Int)) (i j : Nat) : Int := ((xs.getD i (0, 0)).2 - (xs.getD j (0, 0)).2) * ((xs.getD j (0, 0)).1 - (xs.getD i (0, 0)).1)
def swAt (xs : List (Int × Int)) (M : Int) (i : Nat) (j : Nat) : Bool := decide (i < j) && decide (M + chgF xs i j = 0)
def swRow (xs : List (Int × Int)) (M : Int) (i : Nat) : Option Nat := firstF (swAt xs M i) xs.length
def swN (xs : List (Int × Int)) (p : Int) : Option Nat := if offB xs p = true then firstF (fun i => (swRow xs (momF p xs) i).isSome) xs.length else none
def swI (xs : List (Int × Int)) (p : Int) : Int := match swN xs p with | none => 0 | some i => i
def swJ (xs : List (Int × Int)) (p : Int) : Int := match swN xs p with | none => 0 | some i => match swRow xs (momF p xs) i with | none => 0 | some j => j
theorem chg_bound {x y : Int × Int} (hx : (0 ≤ x.1 ∧ x.1 ≤ 60) ∧ 1 ≤ x.2 ∧ x.2 ≤ 99) (hy : (0 ≤ y.1 ∧ y.1 ≤ 60) ∧ 1 ≤ y.2 ∧ y.2 ≤ 99) : -5940 ≤ (x.2 - y.2) * (y.1 - x.1) ∧ (x.2 - y.2) * (y.1 - x.1) ≤ 5940 := by
  have h := Int.natAbs_mul (x.2 - y.2) (y.1 - x.1)
  have h2 : (x.2 - y.2).natAbs * (y.1 - x.1).natAbs ≤ 99 * 60 := Nat.mul_le_mul (by omega) (by omega)
  omega
/-- A seat that is not taken. -/
def seatB (k p : Int) : Bool := (decide (30 - k ≤ p) && decide (p ≤ 30 + k)) && decide (p ≠ 30)
def SeatsF (ws : List Int) (k : Int) (ss : List Int) : Prop := ss.length = ws.length ∧ ∀ i, i < ss.length → seatB k (ss.getD i 0) = true ∧ (ss.take i).contains (ss.getD i 0) = false
noncomputable def seatsB (ws : List Int) (k : Int) (ss : List Int) : Bool := propB (SeatsF ws k ss)
noncomputable def isSB (ws : List Int) (k : Int) (ss : List Int) : Bool := askW ws k && seatsB ws k ss
/-- A row of weights at places. -/
def rowW (ws ps : List Int) : List (Int × Int) := (List.range ws.length).map (fun i => (ps.getD i 0, ws.getD i 0))
theorem rowW_len (ws ps : List Int) : (rowW ws ps).length = ws.length := by simp [rowW]
theorem rowW_at (ws ps : List Int) (i : Nat) (h : i < ws.length) : (rowW ws ps).getD i (0, 0) = (ps.getD i 0, ws.getD i 0) := by simp [rowW, List.getD, h]
theorem rowW_take (ws ps : List Int) (i : Nat) (h : i < ws.length) : (rowW ws ps).take (i + 1) = (rowW ws ps).take i ++ [(ps.getD i 0, ws.getD i 0)] := by
  rw [List.take_add_one, List.getElem?_eq_getElem (by rw [rowW_len]; exact h)]
  simp [rowW]
noncomputable def seatR (ws : List Int) (k : Int) (ss : List Int) : List (Int × Int) := if isSB ws k ss = true then rowW ws ss else []
theorem seatR_len (ws : List Int) (k : Int) (ss : List Int) : (seatR ws k ss).length ≤ 2000000 := by
  unfold seatR
  split
  · rename_i h
    unfold isSB at h
    rw [Bool.and_eq_true, askW_iff] at h
    have := h.1.1.short
    rw [rowW_len]; omega
  · simp
/-- Signs of a tilt. -/
def TiltF (ws ss : List Int) : Prop := ss.length = ws.length ∧ ∀ i, i < ss.length → ss.getD i 0 = 1 ∨ ss.getD i 0 = -1
noncomputable def tiltB (ws qs ss : List Int) : Bool := armB ws qs && propB (TiltF ws ss)
def placesW (qs ss : List Int) : List Int := (List.range qs.length).map (fun i => 30 + ss.getD i 0 * qs.getD i 0)
noncomputable def tiltR (ws qs ss : List Int) : List (Int × Int) := if tiltB ws qs ss = true then rowW ws (placesW qs ss) else []
theorem tiltB_iff (ws qs ss : List Int) : tiltB ws qs ss = true ↔ ((WtsF ws ∧ ArmsF qs) ∧ qs.length = ws.length) ∧ TiltF ws ss := by
  unfold tiltB; rw [Bool.and_eq_true, armB_iff, propB_iff]
theorem tiltR_len (ws qs ss : List Int) : (tiltR ws qs ss).length ≤ 2000000 := by
  unfold tiltR
  split
  · rename_i h
    have := ((tiltB_iff ws qs ss).1 h).1.1.1.short
    rw [rowW_len]; omega
  · simp
theorem placesW_len (qs ss : List Int) : (placesW qs ss).length = qs.length := by simp [placesW]
theorem placesW_at (qs ss : List Int) (i : Nat) (h : i < qs.length) : (placesW qs ss).getD i 0 = 30 + ss.getD i 0 * qs.getD i 0 := by simp [placesW, List.getD, h]
/-- What each weight turns. -/
def tnF (ws qs : List Int) (i : Nat) : Int := ws.getD i 0 * qs.getD i 0
/-- The moments of all tilts. -/
def momsF (t : Nat → Int) : Nat → List Int
  | 0 => [0]
  | n + 1 => (momsF t n).flatMap (fun m => [m - t n, m + t n])
/-- Sign i of the tilt c of n. -/
def sgF (n c i : Nat) : Int := 2 * ((c / 2 ^ (n - 1 - i) % 2 : Nat) : Int) - 1
def tmF (t s : Nat → Int) : Nat → Int
  | 0 => 0
  | k + 1 => tmF t s k + t k * s k
theorem two_len (f g : Int → Int) (xs : List Int) : (xs.flatMap (fun m => [f m, g m])).length = 2 * xs.length := by
  induction xs with
  | nil => rfl
  | cons x l ih => rw [List.flatMap_cons, List.length_append, ih]; simp only [List.length_cons, List.length_nil]; omega
theorem two_at (f g : Int → Int) (xs : List Int) : ∀ c, c < 2 * xs.length → (xs.flatMap (fun m => [f m, g m])).getD c 0 = if c % 2 = 0 then f (xs.getD (c / 2) 0) else g (xs.getD (c / 2) 0) := by
  induction xs with
  | nil => intro c h; simp at h
  | cons x l ih =>
    intro c h
    match c with
    | 0 => rfl
    | 1 => rfl
    | c + 2 =>
      have := ih c (by simp only [List.length_cons] at h; omega)
      rw [show (c + 2) % 2 = c % 2 by omega, show (c + 2) / 2 = c / 2 + 1 by omega]
      simpa [List.flatMap_cons, List.getD] using this
theorem moms_len (t : Nat → Int) (n : Nat) : (momsF t n).length = 2 ^ n := by
  induction n with
  | zero => rfl
  | succ n ih => rw [momsF, two_len (fun m => m - t n) (fun m => m + t n), ih, Nat.pow_succ]; omega
theorem tm_congr (t : Nat → Int) {s u : Nat → Int} (n : Nat) (h : ∀ i, i < n → s i = u i) : tmF t s n = tmF t u n := by
  induction n with
  | zero => rfl
  | succ n ih => rw [tmF, tmF, ih (fun i hi => h i (by omega)), h n (by omega)]
theorem sg_down (n c i : Nat) (h : i < n) : sgF (n + 1) c i = sgF n (c / 2) i := by
  unfold sgF
  rw [show n + 1 - 1 - i = (n - 1 - i) + 1 by omega, Nat.pow_succ, Nat.mul_comm, Nat.div_div_eq_div_mul]
theorem sg_last (n c : Nat) : sgF (n + 1) c n = 2 * ((c % 2 : Nat) : Int) - 1 := by
  unfold sgF
  rw [show n + 1 - 1 - n = 0 by omega, Nat.pow_zero, Nat.div_one]
theorem moms_at (t : Nat → Int) (n : Nat) : ∀ c, c < 2 ^ n → (momsF t n).getD c 0 = tmF t (sgF n c) n := by
  induction n with
  | zero => intro c h; have : c = 0 := by simpa using h
            subst this; rfl
  | succ n ih =>
    intro c h
    rw [Nat.pow_succ] at h
    rw [momsF, two_at (fun m => m - t n) (fun m => m + t n) _ c (by rw [moms_len]; omega), ih (c / 2) (by omega), tmF, sg_last, tm_congr t n (fun i hi => sg_down n c i hi)]
    rcases Nat.mod_two_eq_zero_or_one c with e | e
    · rw [e, if_pos rfl]
      show _ = _ + t n * (-1)
      omega
    · rw [e, if_neg (by omega)]
      show _ = _ + t n * 1
      omega
theorem moms_take (t : Nat → Int) (n k : Nat) (h : k < 2 ^ n) : ((momsF t n).take (k + 1)).flatMap (fun m => [m - t n, m + t n]) = ((momsF t n).take k).flatMap (fun m => [m - t n, m + t n]) ++ [(momsF t n).getD k 0 - t n, (momsF t n).getD k 0 + t n] := by
  rw [take_snocI _ k (by rw [moms_len]; exact h), List.flatMap_append]
  simp
/-- The sum of all turns. -/
def totF (t : Nat → Int) : Nat → Int
  | 0 => 0
  | n + 1 => totF t n + t n
theorem tm_bound (t s : Nat → Int) (ht : ∀ i, 0 ≤ t i) (hs : ∀ i, s i = 1 ∨ s i = -1) (n : Nat) : -totF t n ≤ tmF t s n ∧ tmF t s n ≤ totF t n := by
  induction n with
  | zero => exact ⟨Int.le_refl _, Int.le_refl _⟩
  | succ n ih =>
    rw [tmF, totF]
    have h0 := ht n
    rcases hs n with e | e
    · rw [e]; omega
    · rw [e]; omega
theorem sg_sign (n c i : Nat) : sgF n c i = 1 ∨ sgF n c i = -1 := by
  unfold sgF
  rcases Nat.mod_two_eq_zero_or_one (c / 2 ^ (n - 1 - i)) with e | e
  · rw [e]; exact .inr rfl
  · rw [e]; exact .inl rfl
/-- The first of the least among the first k + 1. -/
def lsF (f : Nat → Int) : Nat → Nat × Int
  | 0 => (0, f 0)
  | k + 1 => if f (k + 1) < (lsF f k).2 then (k + 1, f (k + 1)) else lsF f k
theorem ls_all (f : Nat → Int) (k : Nat) : (lsF f k).1 ≤ k ∧ f (lsF f k).1 = (lsF f k).2 ∧ (∀ j, j ≤ k → (lsF f k).2 ≤ f j) ∧ ∀ j, j < (lsF f k).1 → (lsF f k).2 < f j := by
  induction k with
  | zero =>
    refine ⟨Nat.le_refl _, rfl, fun j hj => ?_, fun j hj => absurd hj (Nat.not_lt_zero _)⟩
    have : j = 0 := by omega
    subst this
    exact Int.le_refl _
  | succ k ih =>
    obtain ⟨h1, h2, h3, h4⟩ := ih
    rw [lsF]
    split
    · rename_i h
      refine ⟨Nat.le_refl _, rfl, fun j hj => ?_, fun j hj => ?_⟩
      · by_cases e : j = k + 1
        · subst e; exact Int.le_refl _
        · have := h3 j (by omega); simp only; omega
      · have := h3 j (by simp only at hj; omega); simp only; omega
    · rename_i h
      refine ⟨by omega, h2, fun j hj => ?_, h4⟩
      by_cases e : j = k + 1
      · subst e; omega
      · exact h3 j (by omega)
theorem ls_val (f : Nat → Int) (k i : Nat) (v : Int) (hi : i ≤ k) (hv : f i = v) (h : ∀ j, j ≤ k → v ≤ f j) : (lsF f k).2 = v := by
  obtain ⟨h1, h2, h3, _⟩ := ls_all f k
  have a := h _ h1
  have b := h3 i hi
  omega
theorem ls_idx (f : Nat → Int) (k i : Nat) (hv : f i = (lsF f k).2) (h : ∀ j, j < i → f j ≠ (lsF f k).2) : (lsF f k).1 = i := by
  obtain ⟨h1, h2, h3, h4⟩ := ls_all f k
  rcases Nat.lt_trichotomy (lsF f k).1 i with e | e | e
  · exact absurd h2 (h _ e)
  · exact e
  · have := h4 i e; omega
/-- The size of a moment. -/
def szT (z : Int) : Int := if z < -z then -z else z
theorem szT_nn (z : Int) : 0 ≤ szT z := by unfold szT; split <;> omega
/-- The tilts whose moment is x. -/
def cntF (t : Nat → Int) (n : Nat) (x : Int) : Nat := (momsF t n).countP (fun m => m == x)
theorem two_cnt (a b x : Int) (xs : List Int) : (xs.flatMap (fun m => [m - a, m + b])).countP (fun m => m == x) = xs.countP (fun m => m == x + a) + xs.countP (fun m => m == x - b) := by
  induction xs with
  | nil => rfl
  | cons y l ih =>
    rw [List.flatMap_cons, List.countP_append, ih]
    simp only [List.countP_cons, List.countP_nil]
    rw [show (y - a == x) = (y == x + a) by rw [Bool.eq_iff_iff]; simp; omega, show (y + b == x) = (y == x - b) by rw [Bool.eq_iff_iff]; simp; omega]
    omega
theorem cnt_succ (t : Nat → Int) (n : Nat) (x : Int) : cntF t (n + 1) x = cntF t n (x + t n) + cntF t n (x - t n) := by
  unfold cntF
  rw [momsF, two_cnt]
/-- The sets of the first n whose sum is s. -/
def subF (t : Nat → Int) : Nat → Int → Nat
  | 0, s => if s = 0 then 1 else 0
  | n + 1, s => subF t n s + subF t n (s - t n)
theorem cnt_sub (t : Nat → Int) (n : Nat) : ∀ s, cntF t n (2 * s - totF t n) = subF t n s := by
  induction n with
  | zero =>
    intro s
    unfold cntF
    rw [momsF, totF, subF]
    by_cases h : s = 0
    · subst h; rfl
    · rw [if_neg h]
      simp only [List.countP_cons, List.countP_nil]
      rw [show ((0 : Int) == 2 * s - 0) = false by rw [beq_eq_false_iff_ne]; omega]
      rfl
  | succ n ih =>
    intro s
    rw [cnt_succ, totF, subF, ← ih s, ← ih (s - t n)]
    rw [show 2 * s - (totF t n + t n) + t n = 2 * s - totF t n by omega, show 2 * s - (totF t n + t n) - t n = 2 * (s - t n) - totF t n by omega]
theorem cnt_odd (t : Nat → Int) (n : Nat) : ∀ x, (totF t n + x) % 2 ≠ 0 → cntF t n x = 0 := by
  induction n with
  | zero =>
    intro x hx
    rw [totF] at hx
    unfold cntF
    rw [momsF]
    simp only [List.countP_cons, List.countP_nil]
    rw [show ((0 : Int) == x) = false by rw [beq_eq_false_iff_ne]; omega]
    rfl
  | succ n ih =>
    intro x hx
    rw [totF] at hx
    rw [cnt_succ, ih _ (by omega), ih _ (by omega)]
theorem cnt_far (t : Nat → Int) (ht : ∀ i, 0 ≤ t i) (n : Nat) : ∀ x, (x < -totF t n ∨ totF t n < x) → cntF t n x = 0 := by
  induction n with
  | zero =>
    intro x hx
    rw [totF] at hx
    unfold cntF
    rw [momsF]
    simp only [List.countP_cons, List.countP_nil]
    rw [show ((0 : Int) == x) = false by rw [beq_eq_false_iff_ne]; omega]
    rfl
  | succ n ih =>
    intro x hx
    rw [totF] at hx
    have := ht n
    rw [cnt_succ, ih _ (by omega), ih _ (by omega)]
theorem sub_neg (t : Nat → Int) (ht : ∀ i, 0 ≤ t i) (n : Nat) : ∀ s, s < 0 → subF t n s = 0 := by
  induction n with
  | zero => intro s hs; rw [subF, if_neg (by omega)]
  | succ n ih => intro s hs; have := ht n; rw [subF, ih _ hs, ih _ (by omega)]
theorem sub_le (t : Nat → Int) (n : Nat) : ∀ s, subF t n s ≤ 2 ^ n := by
  induction n with
  | zero => intro s; rw [subF]; split <;> simp
  | succ n ih => intro s; have a := ih s; have b := ih (s - t n); rw [subF, Nat.pow_succ]; omega
theorem tot_nn (t : Nat → Int) (ht : ∀ i, 0 ≤ t i) (n : Nat) : 0 ≤ totF t n := by
  induction n with
  | zero => exact Int.le_refl _
  | succ n ih => have := ht n; rw [totF]; omega
theorem cnt_is (t : Nat → Int) (ht : ∀ i, 0 ≤ t i) (n : Nat) (x : Int) : cntF t n x = if (x < -totF t n ∨ totF t n < x) ∨ (totF t n + x) % 2 ≠ 0 then 0 else subF t n ((totF t n + x) / 2) := by
  split
  · rename_i h
    rcases h with h | h
    · exact cnt_far t ht n x h
    · exact cnt_odd t n x h
  · rename_i h
    rw [← cnt_sub]
    congr 1
    omega
theorem tn_bound {ws qs : List Int} (hw : WtsF ws) (ha : ArmsF qs) (hl : qs.length = ws.length) (i : Nat) : 0 ≤ tnF ws qs i ∧ tnF ws qs i ≤ 594 ∧ (i < ws.length → 1 ≤ tnF ws qs i) := by
  unfold tnF
  by_cases hi : i < ws.length
  · have h1 := hw.each i hi
    have h2 := ha i (by omega)
    have a := Int.mul_le_mul h1.2 h2.2 (by omega) (by omega)
    have b := Int.mul_le_mul h1.1 h2.1 (by omega) (by omega)
    omega
  · have : ws.getD i 0 = 0 := by simp [List.getD, List.getElem?_eq_none (show ws.length ≤ i by omega)]
    rw [this, Int.zero_mul]
    omega
theorem tot_bound {t : Nat → Int} (h : ∀ i, 0 ≤ t i ∧ t i ≤ 594) (n : Nat) : 0 ≤ totF t n ∧ totF t n ≤ 594 * n := by
  induction n with
  | zero => exact ⟨Int.le_refl _, Int.le_refl _⟩
  | succ n ih => have := h n; rw [totF]; omega
def tiltL (n c : Nat) : List Int := (List.range n).map (sgF n c)
theorem tiltL_len (n c : Nat) : (tiltL n c).length = n := by simp [tiltL]
theorem tiltL_at (n c i : Nat) (h : i < n) : (tiltL n c).getD i 0 = sgF n c i := by simp [tiltL, List.getD, h]
theorem tiltL_take (n c i : Nat) (h : i < n) : (tiltL n c).take (i + 1) = (tiltL n c).take i ++ [sgF n c i] := by
  rw [take_snocI _ i (by rw [tiltL_len]; exact h), tiltL_at n c i h]
/-- The size of the moment of the tilt c. -/
def fT (ws qs : List Int) (c : Nat) : Int := szT (tmF (tnF ws qs) (sgF ws.length c) ws.length)
noncomputable def ltS (ws qs : List Int) : List Int := if armB ws qs = true then tiltL ws.length (lsF (fT ws qs) (2 ^ ws.length - 1)).1 else []
noncomputable def ltV (ws qs : List Int) : Int := if armB ws qs = true then (lsF (fT ws qs) (2 ^ ws.length - 1)).2 else 0
theorem ltS_len (ws qs : List Int) : (ltS ws qs).length ≤ 2000000 := by
  unfold ltS
  split
  · rename_i h
    have := ((armB_iff ws qs).1 h).1.1.short
    rw [tiltL_len]; omega
  · simp
noncomputable def ctB (ws qs : List Int) (m : Int) : Bool := armB ws qs && (decide (-10000 ≤ m) && decide (m ≤ 10000))
noncomputable def ctN (ws qs : List Int) (m : Int) : Int := if ctB ws qs m = true then (cntF (tnF ws qs) ws.length m : Nat) else 0
theorem tm_tilt (t : Nat → Int) (n c : Nat) : tmF t (fun i => (tiltL n c).getD i 0) n = tmF t (sgF n c) n := tm_congr t n (fun i hi => tiltL_at n c i hi)
theorem szT_most (z : Int) : (if -z < z then z else -z) = szT z := by unfold szT; split <;> split <;> omega
theorem two_pow_le {n : Nat} (h : n ≤ 12) : 2 ^ n ≤ 4096 := Nat.le_trans (Nat.pow_le_pow_right (by omega) h) (by decide)
theorem two_pow_pos (n : Nat) : 1 ≤ 2 ^ n := Nat.one_le_two_pow
end Go.Proofs.Ytcfbnadefdcjaaa
