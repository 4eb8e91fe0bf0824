/- LvQ, LvR, Rod5, Mob5, as one text. -/
import Derived.Test.YthncgcdnljoakaaG12
import Derived.Test.YthncgcdnljoakaaG15
import Derived.Lib.Slices
import Derived.Test.YthncgcdnljoakaaG14
namespace Go.Proofs.Ythncgcdnljoakaa
def armN (m : MobV) (t : Nat) : Nat := (avM m t).toNat
/-- The other end of the rod of end T. -/
def otE (T : Nat) : Nat := 2 * (T / 2) + (1 - T % 2)
def cutN (a b : Nat) : Nat × Nat := (a / Nat.gcd a b, b / Nat.gcd a b)
/-- The share of each rod when the first T ends have been seen. -/
def shR (m : MobV) : Nat → Nat → Nat × Nat
  | 0 => fun j => if j = 0 then (1, 1) else (0, 0)
  | T + 1 => fun j => if hvM m T < 0 ∧ (-hvM m T).toNat = j then cutN ((shR m T (T / 2)).1 * armN m (otE T)) ((shR m T (T / 2)).2 * bothN m (T / 2)) else shR m T j
/-- The share of end T. -/
def shE (m : MobV) (T : Nat) : Nat × Nat := cutN ((shR m T (T / 2)).1 * armN m (otE T)) ((shR m T (T / 2)).2 * bothN m (T / 2))
theorem shR_succ (m : MobV) (T j : Nat) : shR m (T + 1) j = if hvM m T < 0 ∧ (-hvM m T).toNat = j then shE m T else shR m T j := rfl
/-- The number of each rod, when rod 0 has P. -/
def wnR (m : MobV) (P : Nat) : Nat → Nat → Nat
  | 0 => fun j => if j = 0 then P else 0
  | T + 1 => fun j => if hvM m T < 0 ∧ (-hvM m T).toNat = j then wnR m P T (T / 2) / bothN m (T / 2) * armN m (otE T) else wnR m P T j
def wnE (m : MobV) (P : Nat) (T : Nat) : Nat := wnR m P T (T / 2) / bothN m (T / 2) * armN m (otE T)
theorem wnR_succ (m : MobV) (P T j : Nat) : wnR m P (T + 1) j = if hvM m T < 0 ∧ (-hvM m T).toNat = j then wnE m P T else wnR m P T j := rfl
/-- What a rod or an end has: its share and its number, of rods before j. -/
structure ShF (m : MobV) (P j : Nat) (p : Nat × Nat) (x : Nat) : Prop where
  top : 1 ≤ p.1
  le : p.1 ≤ p.2
  dvd : p.2 ∣ prodN m j
  div : P ∣ x * prodN m j
  eq : x * p.2 = P * p.1
def seenM (m : MobV) (T j : Nat) : Prop := j = 0 ∨ ∃ t, t < T ∧ hvM m t = -(j : Int)
theorem ends_seen {m : MobV} (hf : MobF m) (T : Nat) (hT : T < 2 * m.am.length) : seenM m T (T / 2) := by
  rcases Nat.eq_zero_or_pos (T / 2) with e | e
  · exact .inl e
  · refine .inr ?_
    have h1 := hf.once (T / 2) e (by omega)
    rcases Classical.em (∃ t, t < 2 * m.am.length ∧ hvM m t = -((T / 2 : Nat) : Int)) with ⟨t, ht, hh⟩ | hn
    · have := (hf.ends t ht).2
      exact ⟨t, by omega, hh⟩
    · rw [cntM_zero m (T / 2) _ (fun t ht hh => hn ⟨t, ht, hh⟩)] at h1
      omega
theorem prodN_dvd (m : MobV) (i d : Nat) : prodN m i ∣ prodN m (i + d) := by
  induction d with
  | zero => exact Nat.dvd_refl _
  | succ d ih => exact Nat.dvd_trans ih ⟨bothN m (i + d), rfl⟩
theorem prodN_dvd_le (m : MobV) {i j : Nat} (h : i ≤ j) : prodN m i ∣ prodN m j := by
  have := prodN_dvd m i (j - i)
  rwa [show i + (j - i) = j by omega] at this
theorem ShF.up {m : MobV} {P i j x : Nat} {p : Nat × Nat} (h : ShF m P i p x) (hij : i ≤ j) : ShF m P j p x :=
  ⟨h.top, h.le, Nat.dvd_trans h.dvd (prodN_dvd_le m hij), Nat.dvd_trans h.div (Nat.mul_dvd_mul_left x (prodN_dvd_le m hij)), h.eq⟩
theorem arm_le {m : MobV} (hf : MobF m) (T : Nat) (hT : T < 2 * m.am.length) : 1 ≤ armN m (otE T) ∧ armN m (otE T) ≤ bothN m (T / 2) ∧ armN m (otE T) ≤ 12 := by
  have a := (hf.ends (2 * (T / 2)) (by omega)).1
  have b := (hf.ends (2 * (T / 2) + 1) (by omega)).1
  unfold armN bothN otE
  rcases (show T % 2 = 0 ∨ T % 2 = 1 by omega) with e | e <;> rw [e]
  · rw [show 2 * (T / 2) + (1 - 0) = 2 * (T / 2) + 1 by omega]; omega
  · rw [show 2 * (T / 2) + (1 - 1) = 2 * (T / 2) by omega]; omega
/-- One step: from a rod to what hangs at an end. -/
theorem ShF.step {m : MobV} {P i x a c : Nat} {p : Nat × Nat} (h : ShF m P i p x) (hc : prodN m (i + 1) = prodN m i * c) (hP : prodN m (i + 1) ∣ P) (hp : 0 < P) (a1 : 1 ≤ a) (a2 : a ≤ c) :
    ShF m P (i + 1) (cutN (p.1 * a) (p.2 * c)) (x / c * a) := by
  have hA : 1 ≤ p.1 * a := Nat.mul_pos h.top a1
  have hAB : p.1 * a ≤ p.2 * c := Nat.mul_le_mul h.le a2
  have hc0 : 0 < c := by omega
  have hi0 : 0 < prodN m i := by
    rcases Nat.eq_zero_or_pos (prodN m i) with e | e
    · rw [hc, e, Nat.zero_mul] at hP
      have := Nat.eq_zero_of_zero_dvd hP
      omega
    · exact e
  have hcx : c ∣ x := by
    obtain ⟨k, hk⟩ := hP
    have := h.div
    rw [hk, hc, Nat.mul_assoc, Nat.mul_comm x] at this
    exact Nat.dvd_trans ⟨k, rfl⟩ (Nat.dvd_of_mul_dvd_mul_left hi0 this)
  obtain ⟨y, rfl⟩ := hcx
  rw [Nat.mul_div_cancel_left y hc0]
  have hg : 0 < Nat.gcd (p.1 * a) (p.2 * c) := Nat.gcd_pos_of_pos_left _ hA
  refine ⟨Nat.div_pos (Nat.gcd_le_left _ hA) hg, Nat.div_le_div_right hAB, ?_, ?_, ?_⟩
  · refine Nat.dvd_trans (Nat.div_dvd_of_dvd (Nat.gcd_dvd_right _ _)) ?_
    rw [hc]
    exact Nat.mul_dvd_mul_right h.dvd c
  · rw [hc, show y * a * (prodN m i * c) = c * y * prodN m i * a by ac_rfl]
    exact Nat.dvd_trans h.div (Nat.dvd_mul_right _ _)
  · refine Nat.eq_of_mul_eq_mul_right hg ?_
    show y * a * (p.2 * c / Nat.gcd (p.1 * a) (p.2 * c)) * Nat.gcd (p.1 * a) (p.2 * c) = P * (p.1 * a / Nat.gcd (p.1 * a) (p.2 * c)) * Nat.gcd (p.1 * a) (p.2 * c)
    rw [Nat.mul_assoc, Nat.mul_assoc P, Nat.div_mul_cancel (Nat.gcd_dvd_right _ _), Nat.div_mul_cancel (Nat.gcd_dvd_left _ _), show y * a * (p.2 * c) = c * y * p.2 * a by ac_rfl, h.eq]
    ac_rfl
theorem shR_all {m : MobV} (hf : MobF m) : ∀ T, T ≤ 2 * m.am.length → ∀ j, seenM m T j → ShF m (prodN m m.am.length) j (shR m T j) (wnR m (prodN m m.am.length) T j) := by
  intro T
  induction T with
  | zero =>
    intro _ j hj
    rcases hj with rfl | ⟨t, ht, _⟩
    · exact ⟨Nat.le_refl _, Nat.le_refl _, Nat.dvd_refl _, Nat.dvd_mul_right _ _, rfl⟩
    · omega
  | succ T ih =>
    intro hT j hj
    rw [shR_succ, wnR_succ]
    by_cases c : hvM m T < 0 ∧ (-hvM m T).toNat = j
    · rw [if_pos c, if_pos c]
      have he := (hf.ends T (by omega)).2
      have hs := ih (by omega) (T / 2) (ends_seen hf T (by omega))
      obtain ⟨a1, a2, _⟩ := arm_le hf T (by omega)
      exact (hs.step (c := bothN m (T / 2)) rfl (prodN_dvd_le m (by omega)) (prodN_bnd hf _ (Nat.le_refl _)).1 a1 a2).up (by omega)
    · rw [if_neg c, if_neg c]
      refine ih (by omega) j ?_
      rcases hj with h | ⟨t, ht, hh⟩
      · exact .inl h
      · by_cases e : t = T
        · subst e
          rcases Nat.eq_zero_or_pos j with h | h
          · exact .inl h
          · exact absurd ⟨by omega, by omega⟩ c
        · exact .inr ⟨t, by omega, hh⟩
theorem shR_end {m : MobV} (hf : MobF m) (T : Nat) (hT : T < 2 * m.am.length) : ShF m (prodN m m.am.length) (T / 2) (shR m T (T / 2)) (wnR m (prodN m m.am.length) T (T / 2)) :=
  shR_all hf T (by omega) _ (ends_seen hf T hT)
theorem shE_all {m : MobV} (hf : MobF m) (T : Nat) (hT : T < 2 * m.am.length) : ShF m (prodN m m.am.length) (T / 2 + 1) (shE m T) (wnE m (prodN m m.am.length) T) := by
  obtain ⟨a1, a2, _⟩ := arm_le hf T hT
  exact (shR_end hf T hT).step (c := bothN m (T / 2)) rfl (prodN_dvd_le m (by omega)) (prodN_bnd hf _ (Nat.le_refl _)).1 a1 a2
theorem ShF.pos {m : MobV} {P j x : Nat} {p : Nat × Nat} (h : ShF m P j p x) : 0 < p.2 := Nat.lt_of_lt_of_le h.top h.le
theorem ShF.num {m : MobV} {P j x : Nat} {p : Nat × Nat} (h : ShF m P j p x) (hP : 0 < P) : 1 ≤ x ∧ x ≤ P := by
  have h2 := h.pos
  have e := h.eq
  constructor
  · rcases Nat.eq_zero_or_pos x with z | z
    · rw [z, Nat.zero_mul] at e
      have := Nat.mul_pos hP h.top
      omega
    · exact z
  · refine Nat.le_of_mul_le_mul_right (c := p.2) ?_ h2
    rw [e]
    exact Nat.mul_le_mul (Nat.le_refl _) h.le
theorem both_cast {m : MobV} (hf : MobF m) (i : Nat) (h : i < m.am.length) : avM m (2 * i) + avM m (2 * i + 1) = ((bothN m i : Nat) : Int) := by
  have a := (hf.ends (2 * i) (by omega)).1
  have b := (hf.ends (2 * i + 1) (by omega)).1
  unfold bothN
  omega
theorem arm_cast {m : MobV} (hf : MobF m) (t : Nat) (h : t < 2 * m.am.length) : avM m t = ((armN m t : Nat) : Int) := by
  have a := (hf.ends t h).1
  unfold armN
  omega
theorem otE_lt {n T : Nat} (h : T < 2 * n) : otE T < 2 * n := by unfold otE; omega
/-- The least common multiple, as it is made one by one. -/
def lcmL (bs : List Nat) : Nat := bs.foldl (fun w b => w / Nat.gcd w b * b) 1
theorem lcm_step {P w b : Nat} (hw : 0 < w) (hb : 0 < b) (h1 : w ∣ P) (h2 : b ∣ P) : 0 < w / Nat.gcd w b * b ∧ w / Nat.gcd w b * b ∣ P ∧ w ∣ w / Nat.gcd w b * b ∧ b ∣ w / Nat.gcd w b * b := by
  have e : w / Nat.gcd w b * b = Nat.lcm w b := by
    unfold Nat.lcm
    rw [Nat.div_mul_right_comm (Nat.gcd_dvd_left w b)]
  rw [e]
  exact ⟨Nat.lcm_pos hw hb, Nat.lcm_dvd h1 h2, Nat.dvd_lcm_left w b, Nat.dvd_lcm_right w b⟩
theorem lcm_fold {P : Nat} : ∀ (bs : List Nat) (w : Nat), 0 < w → w ∣ P → (∀ b, b ∈ bs → 0 < b ∧ b ∣ P) →
    0 < bs.foldl (fun w b => w / Nat.gcd w b * b) w ∧ bs.foldl (fun w b => w / Nat.gcd w b * b) w ∣ P ∧ w ∣ bs.foldl (fun w b => w / Nat.gcd w b * b) w ∧ ∀ b, b ∈ bs → b ∣ bs.foldl (fun w b => w / Nat.gcd w b * b) w := by
  intro bs
  induction bs with
  | nil => intro w h0 h1 _; exact ⟨h0, h1, Nat.dvd_refl _, fun b h => by cases h⟩
  | cons c bs ih =>
    intro w h0 h1 h2
    obtain ⟨c0, c1⟩ := h2 c List.mem_cons_self
    obtain ⟨s0, s1, s2, s3⟩ := lcm_step h0 c0 h1 c1
    obtain ⟨r0, r1, r2, r3⟩ := ih _ s0 s1 (fun b hb => h2 b (List.mem_cons_of_mem _ hb))
    rw [List.foldl_cons]
    refine ⟨r0, r1, Nat.dvd_trans s2 r2, fun b hb => ?_⟩
    rcases List.mem_cons.1 hb with rfl | hb
    · exact Nat.dvd_trans s3 r2
    · exact r3 b hb
/-- The ends of the leaves, their shares, the least common bottom, their numbers. -/
def lfT (m : MobV) : List Nat := endT (rodF m) (2 * m.am.length)
def allN (m : MobV) : Nat := prodN m m.am.length
def lcmM (m : MobV) : Nat := lcmL ((lfT m).map (fun t => (shE m t).2))
def outN (m : MobV) (t : Nat) : Nat := lcmM m / (shE m t).2 * (shE m t).1
/-- The least weights. -/
def lvR (m : MobV) : List Nat := primL ((lfT m).map (wnE m (allN m)))
theorem lfT_lt {m : MobV} {t : Nat} (h : t ∈ lfT m) : t < 2 * m.am.length := (endT_mem.1 h).1
theorem lcmM_all {m : MobV} (hf : MobF m) : 0 < lcmM m ∧ lcmM m ∣ allN m ∧ ∀ t, t ∈ lfT m → (shE m t).2 ∣ lcmM m := by
  have h := lcm_fold (P := allN m) ((lfT m).map (fun t => (shE m t).2)) 1 (by omega) (Nat.one_dvd _) (fun b hb => by
    obtain ⟨t, ht, rfl⟩ := List.mem_map.1 hb
    have hs := shE_all hf t (lfT_lt ht)
    have hl := lfT_lt ht
    exact ⟨hs.pos, Nat.dvd_trans hs.dvd (prodN_dvd_le m (by omega))⟩)
  exact ⟨h.1, h.2.1, fun t ht => h.2.2.2 _ (List.mem_map.2 ⟨t, ht, rfl⟩)⟩
/-- The weights that the shares give, over their greatest common divisor, are the least ones. -/
theorem lvR_out {m : MobV} (hf : MobF m) : primL ((lfT m).map (outN m)) = lvR m := by
  obtain ⟨l0, l1, l2⟩ := lcmM_all hf
  have p0 : 0 < allN m := (prodN_bnd hf _ (Nat.le_refl _)).1
  refine (prim_same l0 p0 ?_).symm
  rw [List.map_map, List.map_map]
  refine List.map_congr_left (fun t ht => ?_)
  have hs := shE_all hf t (lfT_lt ht)
  obtain ⟨k, hk⟩ := l2 t ht
  show lcmM m * wnE m (allN m) t = allN m * outN m t
  unfold outN
  have he : wnE m (allN m) t * (shE m t).2 = allN m * (shE m t).1 := hs.eq
  have hb := hs.pos
  generalize wnE m (allN m) t = x at *
  generalize (shE m t).1 = a at *
  generalize (shE m t).2 = b at *
  rw [hk, Nat.mul_div_cancel_left k hb, show b * k * x = x * b * k by ac_rfl, he]
  ac_rfl
end Go.Proofs.Ythncgcdnljoakaa
namespace Go.Proofs.Ythncgcdnljoakaa
open Go.RowKit
theorem foldl_take {α β : Type} (f : β → α → β) (b : β) (d : α) (xs : List α) (k : Nat) (h : k < xs.length) : (xs.take (k + 1)).foldl f b = f ((xs.take k).foldl f b) (xs.getD k d) := by
  rw [List.take_add_one, List.getElem?_eq_getElem h, List.foldl_append]
  simp [List.getD, h]
theorem getD_map {α β : Type} (f : α → β) (d : β) (d0 : α) (xs : List α) (k : Nat) (h : k < xs.length) : (xs.map f).getD k d = f (xs.getD k d0) := by
  simp [List.getD, h]
theorem getD_mem {α : Type} (xs : List α) (d : α) (k : Nat) (h : k < xs.length) : xs.getD k d ∈ xs := by
  simp [List.getD, h]
theorem lv_snoc (xs : List Int) (k : Nat) (h : k < xs.length) : xs.take (k + 1) = xs.take k ++ [xs.getD k 0] := by
  rw [List.take_add_one, List.getElem?_eq_getElem h]
  simp [List.getD, h]
theorem mix_set (ys xs : List Int) (k : Nat) (h : k < xs.length) (hl : ys.length = xs.length) : (ys.take k ++ xs.drop k).set k (ys.getD k 0) = ys.take (k + 1) ++ xs.drop (k + 1) := by
  rw [List.set_append_right _ _ (by rw [List.length_take]; omega), List.length_take, Nat.min_eq_left (by omega), Nat.sub_self, List.drop_eq_getElem_cons h, List.set_cons_zero, lv_snoc ys k (by omega), List.append_assoc]
  rfl
theorem mix_at (ys xs : List Int) (k : Nat) (h : k < xs.length) (hl : ys.length = xs.length) : (ys.take k ++ xs.drop k).getD k 0 = xs.getD k 0 := by
  simp only [List.getD]
  rw [List.getElem?_append_right (by rw [List.length_take]; omega), List.length_take, Nat.min_eq_left (by omega), Nat.sub_self, List.getElem?_drop, Nat.add_zero]
theorem mix_len (ys xs : List Int) (k : Nat) (h : k ≤ xs.length) (hl : ys.length = xs.length) : (ys.take k ++ xs.drop k).length = xs.length := by
  rw [List.length_append, List.length_take, List.length_drop]
  omega
theorem icells_set (xs : List Int) (k : Nat) (y : Int) : (icells xs).set k (.int .i64 y) = icells (xs.set k y) := by
  unfold icells
  rw [List.map_set]
theorem gcd_le_max {M c x : Nat} (h1 : c ≤ M) (h2 : x ≤ M) : Nat.gcd c x ≤ M := by
  rcases Nat.eq_zero_or_pos c with h | h
  · rw [h, Nat.gcd_zero_left]; exact h2
  · exact Nat.le_trans (Nat.gcd_le_left x h) h1
theorem gcds_le {M : Nat} : ∀ (xs : List Nat) (c : Nat), c ≤ M → (∀ x, x ∈ xs → x ≤ M) → xs.foldl Nat.gcd c ≤ M := by
  intro xs
  induction xs with
  | nil => intro c hc _; exact hc
  | cons x xs ih => intro c hc h; exact ih _ (gcd_le_max hc (h x List.mem_cons_self)) (fun y hy => h y (List.mem_cons_of_mem _ hy))
theorem foldl_max_le (c : Int) : ∀ (zs : List Int) (a : Int), zs.foldl max a ≤ c ↔ a ≤ c ∧ ∀ x, x ∈ zs → x ≤ c := by
  intro zs
  induction zs with
  | nil => intro a; exact ⟨fun h => ⟨h, fun x hx => by cases hx⟩, fun h => h.1⟩
  | cons z zs ih =>
    intro a
    rw [List.foldl_cons, ih]
    constructor
    · rintro ⟨h1, h2⟩
      exact ⟨by omega, fun x hx => by
        rcases List.mem_cons.1 hx with rfl | hx
        · omega
        · exact h2 x hx⟩
    · rintro ⟨h1, h2⟩
      have := h2 z List.mem_cons_self
      exact ⟨by omega, fun x hx => h2 x (List.mem_cons_of_mem _ hx)⟩
theorem maxOf_le (c : Int) (zs : List Int) (h : 0 < zs.length) : Lib.maxOf zs ≤ c ↔ ∀ x, x ∈ zs → x ≤ c := by
  cases zs with
  | nil => simp at h
  | cons z zs =>
    unfold Lib.maxOf
    rw [foldl_max_le]
    constructor
    · exact fun h => h.2
    · exact fun h => ⟨h z List.mem_cons_self, h⟩
/-- The numbers of a list of natural numbers. -/
def intsN (xs : List Nat) : List Int := xs.map (fun (x : Nat) => (x : Int))
theorem intsN_len (xs : List Nat) : (intsN xs).length = xs.length := by unfold intsN; simp
theorem intsN_at (xs : List Nat) (k : Nat) (h : k < xs.length) : (intsN xs).getD k 0 = ((xs.getD k 0 : Nat) : Int) := getD_map _ _ _ _ _ h
def lvOk (m : MobV) : Bool := (lvR m).all (fun x => decide (x ≤ 99))
noncomputable def lvB (m : MobV) : Bool := goodB m && lvOk m
noncomputable def lvYs (m : MobV) : List Int := if lvB m = true then intsN (lvR m) else []
theorem lvOk_iff (m : MobV) : lvOk m = true ↔ ∀ x, x ∈ intsN (lvR m) → x ≤ 99 := by
  unfold lvOk intsN
  rw [List.all_eq_true]
  constructor
  · intro h x hx
    obtain ⟨y, hy, rfl⟩ := List.mem_map.1 hx
    have := h y hy
    simp only [decide_eq_true_eq] at this
    omega
  · intro h x hx
    have := h (x : Int) (List.mem_map.2 ⟨x, hx, rfl⟩)
    simp only [decide_eq_true_eq]
    omega
theorem lvR_len (m : MobV) : (lvR m).length = (lfT m).length := by unfold lvR primL; simp
theorem lfT_len (m : MobV) : (lfT m).length ≤ 2 * m.am.length := endT_len _ _
/-- What the program divides, and by what. -/
def numN (m : MobV) : List Nat := (lfT m).map (wnE m (allN m))
theorem numN_at {m : MobV} (hf : MobF m) (k : Nat) (h : k < (numN m).length) : 1 ≤ (numN m).getD k 0 ∧ (numN m).getD k 0 ≤ 191102976 := by
  have hm := getD_mem (numN m) 0 k h
  obtain ⟨t, ht, he⟩ := List.mem_map.1 hm
  rw [← he]
  have hp := prodN_all hf
  have := (shE_all hf t (lfT_lt ht)).num (prodN_bnd hf _ (Nat.le_refl _)).1
  unfold allN
  omega
theorem numN_le {m : MobV} (hf : MobF m) (x : Nat) (h : x ∈ numN m) : x ≤ 191102976 := by
  obtain ⟨t, ht, he⟩ := List.mem_map.1 h
  rw [← he]
  have hp := prodN_all hf
  have := (shE_all hf t (lfT_lt ht)).num (prodN_bnd hf _ (Nat.le_refl _)).1
  unfold allN
  omega
theorem numN_gcd {m : MobV} (hf : MobF m) (h : 0 < (numN m).length) : 1 ≤ gcdL (numN m) ∧ gcdL (numN m) ≤ 191102976 := by
  have h0 := numN_at hf 0 h
  have hm := getD_mem (numN m) 0 0 h
  exact ⟨gcdL_pos hm (by omega), Nat.le_trans (gcdL_le hm (by omega)) h0.2⟩
theorem gcd_take_le {m : MobV} (hf : MobF m) (k : Nat) : ((numN m).take k).foldl Nat.gcd 0 ≤ 191102976 :=
  gcds_le _ 0 (by omega) (fun x hx => numN_le hf x (List.mem_of_mem_take hx))
theorem lvR_num (m : MobV) : lvR m = primL (numN m) := rfl
theorem lvR_at (m : MobV) (k : Nat) (h : k < (numN m).length) : (lvR m).getD k 0 = (numN m).getD k 0 / gcdL (numN m) := by
  rw [lvR_num]
  exact getD_map _ _ _ _ _ h
theorem numN_len (m : MobV) : (numN m).length = (lfT m).length := by unfold numN; simp
/-- What the model divides. -/
def outL (m : MobV) : List Nat := (lfT m).map (outN m)
theorem lvR_outL {m : MobV} (hf : MobF m) : lvR m = primL (outL m) := (lvR_out hf).symm
theorem outL_len (m : MobV) : (outL m).length = (lfT m).length := by unfold outL; simp
theorem lcmM_le {m : MobV} (hf : MobF m) : lcmM m ≤ 191102976 := Nat.le_trans (Nat.le_of_dvd (prodN_bnd hf _ (Nat.le_refl _)).1 (lcmM_all hf).2.1) (prodN_all hf)
theorem outN_bnd {m : MobV} (hf : MobF m) (t : Nat) (ht : t ∈ lfT m) : 1 ≤ outN m t ∧ outN m t ≤ 191102976 := by
  obtain ⟨l0, l1, l2⟩ := lcmM_all hf
  have hs := shE_all hf t (lfT_lt ht)
  obtain ⟨k, hk⟩ := l2 t ht
  have hl := lcmM_le hf
  have hb := hs.pos
  have ht := hs.top
  have hle := hs.le
  unfold outN
  rw [hk] at hl l0
  rw [hk, Nat.mul_div_cancel_left k hb]
  have k0 : 0 < k := by
    rcases Nat.eq_zero_or_pos k with e | e
    · rw [e, Nat.mul_zero] at l0; omega
    · exact e
  refine ⟨Nat.mul_pos k0 ht, Nat.le_trans (Nat.mul_le_mul (Nat.le_refl k) hle) ?_⟩
  rw [Nat.mul_comm]
  exact hl
theorem outL_le {m : MobV} (hf : MobF m) (x : Nat) (h : x ∈ outL m) : 1 ≤ x ∧ x ≤ 191102976 := by
  obtain ⟨t, ht, he⟩ := List.mem_map.1 h
  rw [← he]
  exact outN_bnd hf t ht
theorem outL_gcd {m : MobV} (hf : MobF m) (h : 0 < (outL m).length) : 1 ≤ gcdL (outL m) ∧ gcdL (outL m) ≤ 191102976 := by
  have hm := getD_mem (outL m) 0 0 h
  have h0 := outL_le hf _ hm
  exact ⟨gcdL_pos hm (by omega), Nat.le_trans (gcdL_le hm (by omega)) h0.2⟩
theorem outG_take_le {m : MobV} (hf : MobF m) (k : Nat) : ((outL m).take k).foldl Nat.gcd 0 ≤ 191102976 :=
  gcds_le _ 0 (by omega) (fun x hx => (outL_le hf x (List.mem_of_mem_take hx)).2)
/-- The least common bottom of the first k shares. -/
def botL (m : MobV) : List Nat := (lfT m).map (fun t => (shE m t).2)
def lcmK (m : MobV) (k : Nat) : Nat := lcmL ((botL m).take k)
theorem botL_len (m : MobV) : (botL m).length = (lfT m).length := by unfold botL; simp
theorem botL_mem {m : MobV} (hf : MobF m) (b : Nat) (h : b ∈ botL m) : 0 < b ∧ b ∣ allN m := by
  obtain ⟨t, ht, rfl⟩ := List.mem_map.1 h
  have hs := shE_all hf t (lfT_lt ht)
  have hl := lfT_lt ht
  exact ⟨hs.pos, Nat.dvd_trans hs.dvd (prodN_dvd_le m (by omega))⟩
theorem lcmK_bnd {m : MobV} (hf : MobF m) (k : Nat) : 1 ≤ lcmK m k ∧ lcmK m k ∣ allN m ∧ lcmK m k ≤ 191102976 := by
  have h := lcm_fold (P := allN m) ((botL m).take k) 1 (by omega) (Nat.one_dvd _) (fun b hb => botL_mem hf b (List.mem_of_mem_take hb))
  exact ⟨h.1, h.2.1, Nat.le_trans (Nat.le_of_dvd (prodN_bnd hf _ (Nat.le_refl _)).1 h.2.1) (prodN_all hf)⟩
theorem lcmK_step (m : MobV) (k : Nat) (h : k < (botL m).length) : lcmK m (k + 1) = lcmK m k / Nat.gcd (lcmK m k) ((botL m).getD k 0) * (botL m).getD k 0 := foldl_take _ _ _ _ _ h
theorem lcmK_all (m : MobV) : lcmK m (botL m).length = lcmM m := by unfold lcmK; rw [List.take_length]; rfl
end Go.Proofs.Ythncgcdnljoakaa
namespace Go.Proofs.Ythncgcdnljoakaa
open Go.RowKit
theorem be_rodF {m : MobV} (hf : MobF m) (t : Nat) (ht : t < 2 * m.am.length) : (rodF m).be t = 0 ↔ 0 < hvM m t := by
  have := (hf.ends t ht).2
  simp only [rodF]
  omega
theorem leaves_ends {m : MobV} (hf : MobF m) : ∀ T, T ≤ 2 * m.am.length → leavesF m T = (endT (rodF m) T).map (rodF m).le := by
  intro T
  induction T with
  | zero => intro _; rfl
  | succ T ih =>
    intro hT
    have ih := ih (by omega)
    have hb := be_rodF hf T (by omega)
    rw [leavesF]
    by_cases h : 0 < hvM m T
    · rw [if_pos h, endT_yes (hb.2 h), List.map_append, ← ih]
      simp [rodF, h]
    · rw [if_neg h, endT_no (fun e => h (hb.1 e)), ih]
theorem endP2_at (S : RodF) (T k : Nat) (h : k < (endT S T).length) : ((endT S T).map endP2).getD k (0, 0) = endP2 ((endT S T).getD k 0) := by
  simp [List.getD, h]
theorem endT_at (S : RodF) (T k : Nat) (h : k < (endT S T).length) : (endT S T).getD k 0 < T ∧ S.be ((endT S T).getD k 0) = 0 := by
  have : (endT S T).getD k 0 ∈ endT S T := by simp only [List.getD, List.getElem?_eq_getElem h, Option.getD_some]; exact List.getElem_mem h
  exact endT_mem.1 this
theorem take_snoc (f : Nat → Int) (ts : List Nat) (k : Nat) (h : k < ts.length) : (ts.take (k + 1)).map f = (ts.take k).map f ++ [f (ts.getD k 0)] := by
  rw [List.take_add_one, List.getElem?_eq_getElem h, List.map_append, List.getD, List.getElem?_eq_getElem h]; rfl
end Go.Proofs.Ythncgcdnljoakaa
namespace Go.Proofs.Ythncgcdnljoakaa
open Go.RowKit
noncomputable def rodB (m : MobV) (i e : Int) : Bool := goodB m && (decide (0 ≤ i) && decide (i ≤ (m.am.length : Int) - 1)) && (decide (0 ≤ e) && decide (e ≤ 1))
/-- The other end of an end, and what is asked there. -/
def othM (t : Nat) : Nat := if t % 2 = 0 then t + 1 else t - 1
noncomputable def fixO (m : MobV) (t : Nat) : Int := avM m (othM t) * atM (hvM m (othM t)) (wtM m)
noncomputable def fixB (m : MobV) (i e : Int) : Bool := rodB m i e && (decide (0 ≤ hvM m (2 * i.toNat + e.toNat)) && (decide (fixO m (2 * i.toNat + e.toNat) % avM m (2 * i.toNat + e.toNat) = 0) && decide (fixO m (2 * i.toNat + e.toNat) / avM m (2 * i.toNat + e.toNat) ≤ 99)))
noncomputable def fixV (m : MobV) (i e : Int) : Int := if fixB m i e = true then fixO m (2 * i.toNat + e.toNat) / avM m (2 * i.toNat + e.toNat) else 0
end Go.Proofs.Ythncgcdnljoakaa
