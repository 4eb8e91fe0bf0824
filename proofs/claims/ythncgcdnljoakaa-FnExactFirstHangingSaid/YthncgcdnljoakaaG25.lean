/- FhP, FhQ, as one text. -/
import Derived.Test.YthncgcdnljoakaaG16
import Derived.Test.YthncgcdnljoakaaG17
import Derived.Test.YthncgcdnljoakaaG24
namespace Go.Proofs.Ythncgcdnljoakaa
open Go.RowKit
theorem ShF.both {m : MobV} {P i x : Nat} {p : Nat × Nat} (h : ShF m P i p x) (hP : prodN m (i + 1) ∣ P) (hp : 0 < P) : bothN m i ∣ x := by
  have hi0 : 0 < prodN m i := by
    rcases Nat.eq_zero_or_pos (prodN m i) with e | e
    · rw [show prodN m (i + 1) = prodN m i * bothN m i from rfl, e, Nat.zero_mul] at hP
      have := Nat.eq_zero_of_zero_dvd hP
      omega
    · exact e
  obtain ⟨k, hk⟩ := hP
  have := h.div
  rw [hk, show prodN m (i + 1) = prodN m i * bothN m i from rfl, Nat.mul_assoc, Nat.mul_comm x] at this
  exact Nat.dvd_trans ⟨k, rfl⟩ (Nat.dvd_of_mul_dvd_mul_left hi0 this)
/-- The weight at an end. -/
def atE (q : MobV) (t : Nat) : Int := atM (hvM q t) (wtM q)
/-- At a level rod, an end has its share of the weight. -/
theorem level_step {m : MobV} {xs : List Int} (hf : MobF m) (hq : MobF (hangM m xs)) (T : Nat) (hT : T < 2 * m.am.length) (ht : turnM (hangM m xs) (T / 2) = 0) :
    atE (hangM m xs) T * (bothN m (T / 2) : Int) = wtM (hangM m xs) (T / 2) * (armN m (otE T) : Int) := by
  have hw := wtM_eq hq (T / 2) (show T / 2 < m.am.length by omega)
  have hb := both_cast hf (T / 2) (by omega)
  have ha := arm_cast hf (otE T) (otE_lt hT)
  have ht' : avM m (2 * (T / 2) + 1) * atE (hangM m xs) (2 * (T / 2) + 1) - avM m (2 * (T / 2)) * atE (hangM m xs) (2 * (T / 2)) = 0 := ht
  have hw' : wtM (hangM m xs) (T / 2) = atE (hangM m xs) (2 * (T / 2)) + atE (hangM m xs) (2 * (T / 2) + 1) := hw
  rw [← hb, ← ha, hw']
  unfold otE
  rcases (show T % 2 = 0 ∨ T % 2 = 1 by omega) with e | e <;> rw [e]
  · rw [show 2 * (T / 2) + (1 - 0) = 2 * (T / 2) + 1 by omega]
    have e2 : 2 * (T / 2) = T := by omega
    rw [e2] at ht' ⊢
    generalize atE (hangM m xs) T = x at *
    generalize atE (hangM m xs) (T + 1) = y at *
    generalize avM m T = a at *
    generalize avM m (T + 1) = b at *
    rw [Int.mul_add, Int.add_mul, Int.mul_comm x a, Int.mul_comm y b]
    omega
  · rw [show 2 * (T / 2) + (1 - 1) = 2 * (T / 2) by omega]
    have e2 : 2 * (T / 2) + 1 = T := by omega
    rw [e2] at ht' ⊢
    generalize 2 * (T / 2) = s at *
    generalize atE (hangM m xs) T = x at *
    generalize atE (hangM m xs) s = y at *
    generalize avM m T = a at *
    generalize avM m s = b at *
    rw [Int.mul_add, Int.add_mul, Int.mul_comm x a, Int.mul_comm y b]
    omega
theorem level_end {m : MobV} {xs : List Int} (hf : MobF m) (hq : MobF (hangM m xs)) (T : Nat) (hT : T < 2 * m.am.length) (ht : turnM (hangM m xs) (T / 2) = 0)
    (h : wtM (hangM m xs) (T / 2) * (allN m : Int) = wtM (hangM m xs) 0 * (wnR m (allN m) T (T / 2) : Int)) :
    atE (hangM m xs) T * (allN m : Int) = wtM (hangM m xs) 0 * (wnE m (allN m) T : Int) := by
  have hs := level_step hf hq T hT ht
  have hb := bothN_bnd hf (T / 2) (by omega)
  obtain ⟨y, hy⟩ := (shR_end hf T hT).both (prodN_dvd_le m (by omega)) (prodN_bnd hf _ (Nat.le_refl _)).1
  have hy' : wnR m (allN m) T (T / 2) = bothN m (T / 2) * y := hy
  unfold wnE
  rw [hy'] at h
  rw [hy', Nat.mul_div_cancel_left y (by omega)]
  have hb0 : (bothN m (T / 2) : Int) ≠ 0 := by omega
  refine Int.eq_of_mul_eq_mul_right hb0 ?_
  rw [Int.natCast_mul] at h ⊢
  generalize (bothN m (T / 2) : Int) = b at *
  generalize (armN m (otE T) : Int) = a at *
  generalize (allN m : Int) = P at *
  generalize wtM (hangM m xs) (T / 2) = w at *
  generalize wtM (hangM m xs) 0 = W at *
  generalize atE (hangM m xs) T = x at *
  generalize (y : Int) = z at *
  calc x * P * b = x * b * P := by ac_rfl
    _ = w * a * P := by rw [hs]
    _ = w * P * a := by ac_rfl
    _ = W * (b * z) * a := by rw [h]
    _ = W * (z * a) * b := by ac_rfl
theorem hv_hang_neg {m : MobV} {xs : List Int} (t : Nat) (ht : t < 2 * m.am.length) (h : hvM m t < 0) : hvM (hangM m xs) t = hvM m t := by
  rw [hvM_hang m xs t ht]
  exact if_neg (by omega)
theorem level_all {m : MobV} {xs : List Int} (hf : MobF m) (hq : MobF (hangM m xs)) (hl : ∀ i, i < m.am.length → turnM (hangM m xs) i = 0) : ∀ T, T ≤ 2 * m.am.length → ∀ j, seenM m T j →
    wtM (hangM m xs) j * (allN m : Int) = wtM (hangM m xs) 0 * (wnR m (allN m) T j : Int) := by
  intro T
  induction T with
  | zero =>
    intro _ j hj
    rcases hj with rfl | ⟨t, ht, _⟩
    · rfl
    · omega
  | succ T ih =>
    intro hT j hj
    rw [wnR_succ]
    by_cases c : hvM m T < 0 ∧ (-hvM m T).toNat = j
    · rw [if_pos c]
      have he := level_end hf hq T (by omega) (hl _ (by omega)) (ih (by omega) _ (ends_seen hf T (by omega)))
      have hx : atE (hangM m xs) T = wtM (hangM m xs) j := by
        unfold atE
        rw [hv_hang_neg T (by omega) c.1]
        unfold atM
        rw [if_pos c.1, c.2]
      rw [← hx]
      exact he
    · rw [if_neg c]
      refine ih (by omega) j ?_
      rcases hj with h | ⟨t, ht, hh⟩
      · exact .inl h
      · by_cases e : t = T
        · subst e
          rcases Nat.eq_zero_or_pos j with h | h
          · exact .inl h
          · exact absurd ⟨by omega, by omega⟩ c
        · exact .inr ⟨t, by omega, hh⟩
/-- A leaf, by its number among the leaves. -/
theorem leaf_at {m : MobV} (hf : MobF m) (k : Nat) (hk : k < (lfT m).length) : (lfT m).getD k 0 < 2 * m.am.length ∧ 0 < hvM m ((lfT m).getD k 0) ∧ (leavesF m ((lfT m).getD k 0)).length = k := by
  obtain ⟨ht, hbe⟩ := endT_at (rodF m) (2 * m.am.length) k hk
  have hpos := pos_at (endT_rise (rodF m) (2 * m.am.length)) hk
  refine ⟨ht, (be_rodF hf _ ht).1 hbe, ?_⟩
  have h1 := ends_len hf _ (Nat.le_of_lt ht)
  have h2 := (endT_idx (rodF m) _ _ ht hbe).1
  show (leavesF m ((endT (rodF m) (2 * m.am.length)).getD k 0)).length = k
  rw [← h1, ← h2]
  exact hpos
theorem atE_leaf {m : MobV} {xs : List Int} (t : Nat) (ht : t < 2 * m.am.length) (h : 0 < hvM m t) (hx : 0 < xs.getD (leavesF m t).length 0) : atE (hangM m xs) t = xs.getD (leavesF m t).length 0 := by
  unfold atE
  rw [hvM_hang m xs t ht, show hgM m xs t = xs.getD (leavesF m t).length 0 from if_pos h]
  unfold atM
  rw [if_neg (by omega)]
theorem lfT_total {m : MobV} (hf : MobF m) : (lfT m).length = m.am.length + 1 := by
  show (endT (rodF m) (2 * m.am.length)).length = _
  rw [ends_len hf _ (Nat.le_refl _), leaf_total hf]
/-- The least weights times a number. -/
def timesL (m : MobV) (c : Nat) : List Int := intsN ((lvR m).map (c * ·))
theorem ints_toNat (xs : List Int) (h : ∀ i, i < xs.length → 0 ≤ xs.getD i 0) : intsN (xs.map Int.toNat) = xs := by
  induction xs with
  | nil => rfl
  | cons x xs ih =>
    have h0 := h 0 (by simp)
    have ih := ih (fun i hi => by have := h (i + 1) (by simp; omega); simpa [List.getD] using this)
    unfold intsN at *
    simp only [List.map_cons]
    rw [ih]
    congr 1
    simp [List.getD] at h0
    omega
theorem gcd_times (xs : List Nat) : (primL xs).map (gcdL xs * ·) = xs := by
  unfold primL
  rw [List.map_map]
  have : ∀ x, x ∈ xs → ((gcdL xs * ·) ∘ (· / gcdL xs)) x = id x := fun x hx => Nat.mul_div_cancel' ((foldl_gcd_dvd xs 0).2 x hx)
  rw [List.map_congr_left this, List.map_id]
theorem list_ext0 {α : Type} (d : α) (xs ys : List α) (hl : xs.length = ys.length) (h : ∀ k, k < xs.length → xs.getD k d = ys.getD k d) : xs = ys := by
  refine List.ext_getElem hl (fun k h1 h2 => ?_)
  have := h k h1
  simpa [List.getD, h1, h2] using this
/-- Level leaves are the least weights times a number. -/
theorem level_times {m : MobV} {xs : List Int} (hf : MobF m) (hl : xs.length = m.am.length + 1) (hx : ∀ i, i < xs.length → 1 ≤ xs.getD i 0 ∧ xs.getD i 0 ≤ 99) (hq : MobF (hangM m xs)) (hlev : levelB (hangM m xs) = true) :
    ∃ c, 1 ≤ c ∧ xs = timesL m c := by
  have hlv : ∀ i, i < m.am.length → turnM (hangM m xs) i = 0 := (propB_iff _).1 hlev
  have hP0 : 0 < allN m := (prodN_bnd hf _ (Nat.le_refl _)).1
  have hW : 1 ≤ wtM (hangM m xs) 0 := wtM_pos hq 0 (by have := hf.one; exact this)
  have hlf := lfT_total hf
  obtain ⟨W, hWn⟩ : ∃ W : Nat, wtM (hangM m xs) 0 = (W : Int) := ⟨(wtM (hangM m xs) 0).toNat, by omega⟩
  have key : (xs.map Int.toNat).map (allN m * ·) = (numN m).map (W * ·) := by
    refine list_ext0 0 _ _ (by simp [numN, hl, hlf]) (fun k hk => ?_)
    have hk' : k < xs.length := by simpa using hk
    have hkl : k < (lfT m).length := by omega
    rw [getD_map _ _ 0 _ _ (by simpa using hk'), getD_map _ _ 0 _ _ hk', getD_map _ _ 0 _ _ (by simp [numN]; omega)]
    unfold numN
    rw [getD_map _ _ 0 _ _ hkl]
    obtain ⟨t1, t2, t3⟩ := leaf_at hf k hkl
    generalize (lfT m).getD k 0 = t at *
    have hxk := hx k hk'
    have he := level_end hf hq t t1 (hlv _ (by omega)) (level_all hf hq hlv t (by omega) _ (ends_seen hf t t1))
    rw [atE_leaf t t1 t2 (by rw [t3]; omega), t3, hWn] at he
    have e2 : xs.getD k 0 = ((xs.getD k 0).toNat : Int) := by omega
    rw [e2, ← Int.natCast_mul, ← Int.natCast_mul] at he
    have := Int.ofNat.inj he
    rw [Nat.mul_comm]
    exact this
  have hprim := prim_same hP0 (show 0 < W by omega) key
  have hpos : 0 < (xs.map Int.toNat).length := by simp; omega
  have h0 := hx 0 (by omega)
  have hm := getD_mem (xs.map Int.toNat) 0 0 hpos
  refine ⟨gcdL (xs.map Int.toNat), gcdL_pos hm ?_, ?_⟩
  · rw [getD_map _ _ 0 _ _ (by omega)]; omega
  · unfold timesL
    rw [lvR_num, ← hprim, gcd_times]
    exact (ints_toNat xs (fun i hi => by have := hx i hi; omega)).symm
theorem wn_final {m : MobV} (hf : MobF m) (P t : Nat) (ht : t < 2 * m.am.length) (hn : hvM m t < 0) : ∀ d, t + 1 + d ≤ 2 * m.am.length → wnR m P (t + 1 + d) (-hvM m t).toNat = wnE m P t := by
  intro d
  induction d with
  | zero =>
    intro _
    rw [Nat.add_zero, wnR_succ, if_pos ⟨hn, rfl⟩]
  | succ d ih =>
    intro hd
    rw [← Nat.add_assoc, wnR_succ, if_neg ?_]
    · exact ih (by omega)
    · rintro ⟨h1, h2⟩
      have h3 := (treeR_rodF hf).once (t + 1 + d) t (by omega) ht h2 (by show (-hvM m (t + 1 + d)).toNat ≠ 0; omega)
      omega
theorem wn_zero (m : MobV) (P : Nat) : ∀ T, T ≤ 2 * m.am.length → wnR m P T 0 = P := by
  intro T
  induction T with
  | zero => intro _; rfl
  | succ T ih =>
    intro hT
    rw [wnR_succ, if_neg (by rintro ⟨h1, h2⟩; omega)]
    exact ih (by omega)
theorem wn_rod {m : MobV} (hf : MobF m) (P t : Nat) (ht : t < 2 * m.am.length) : wnR m P t (t / 2) = wnR m P (2 * m.am.length) (t / 2) := by
  rcases ends_seen hf t ht with h | ⟨s, hs, hh⟩
  · rw [h, wn_zero m P t (by omega), wn_zero m P _ (Nat.le_refl _)]
  · rcases Nat.eq_zero_or_pos (t / 2) with e | e
    · rw [e, wn_zero m P t (by omega), wn_zero m P _ (Nat.le_refl _)]
    · have e1 : (-hvM m s).toNat = t / 2 := by omega
      have a := wn_final hf P s (by omega) (by omega) (t - (s + 1)) (by omega)
      have b := wn_final hf P s (by omega) (by omega) (2 * m.am.length - (s + 1)) (by omega)
      rw [e1, show s + 1 + (t - (s + 1)) = t by omega] at a
      rw [e1, show s + 1 + (2 * m.am.length - (s + 1)) = 2 * m.am.length by omega] at b
      rw [a, b]
end Go.Proofs.Ythncgcdnljoakaa
namespace Go.Proofs.Ythncgcdnljoakaa
open Go.RowKit
theorem timesL_at (m : MobV) (c k : Nat) (hk : k < (lfT m).length) : (timesL m c).getD k 0 = ((c * ((numN m).getD k 0 / gcdL (numN m)) : Nat) : Int) ∧ gcdL (numN m) ∣ (numN m).getD k 0 ∧ (numN m).getD k 0 = wnE m (allN m) ((lfT m).getD k 0) := by
  have hk2 : k < (numN m).length := by rw [numN_len]; exact hk
  refine ⟨?_, (foldl_gcd_dvd (numN m) 0).2 _ (getD_mem (numN m) 0 k hk2), getD_map _ _ 0 _ _ hk⟩
  unfold timesL
  rw [intsN_at _ _ (by simp [lvR_len]; exact hk), getD_map _ _ 0 _ _ (by rw [lvR_len]; exact hk), lvR_at m k hk2]
theorem leaf_num {m : MobV} (hf : MobF m) (t : Nat) (ht : t < 2 * m.am.length) (h : 0 < hvM m t) : (leavesF m t).length < (lfT m).length ∧ (lfT m).getD (leavesF m t).length 0 = t := by
  have hz := (be_rodF hf t ht).2 h
  obtain ⟨e1, e2⟩ := endT_idx (rodF m) (2 * m.am.length) t ht hz
  rw [ends_len hf t (by omega)] at e1 e2
  refine ⟨e2, ?_⟩
  have := pos_mem (endT_mem.2 ⟨ht, hz⟩ : t ∈ endT (rodF m) (2 * m.am.length))
  rw [e1] at this
  exact this
theorem times_end {m : MobV} (hf : MobF m) (c : Nat) (hx : ∀ i, i < (timesL m c).length → 1 ≤ (timesL m c).getD i 0) (t : Nat) (ht : t < 2 * m.am.length)
    (ih : hvM m t < 0 → (gcdL (numN m) : Int) * wtM (hangM m (timesL m c)) (-hvM m t).toNat = (c : Int) * (wnR m (allN m) (2 * m.am.length) (-hvM m t).toNat : Int)) :
    (gcdL (numN m) : Int) * atE (hangM m (timesL m c)) t = (c : Int) * (wnE m (allN m) t : Int) := by
  have he := (hf.ends t ht).2
  by_cases hn : hvM m t < 0
  · have h1 := ih hn
    have h2 := wn_final hf (allN m) t ht hn (2 * m.am.length - (t + 1)) (by omega)
    rw [show t + 1 + (2 * m.am.length - (t + 1)) = 2 * m.am.length by omega] at h2
    rw [h2] at h1
    unfold atE
    rw [hv_hang_neg t ht hn]
    unfold atM
    rw [if_pos hn]
    exact h1
  · have hp : 0 < hvM m t := by omega
    obtain ⟨k1, k2⟩ := leaf_num hf t ht hp
    have hlen : (timesL m c).length = (lfT m).length := by unfold timesL; rw [intsN_len, List.length_map, lvR_len]
    have hxk := hx (leavesF m t).length (by omega)
    rw [atE_leaf t ht hp (by omega)]
    obtain ⟨a1, ⟨y, hy⟩, a3⟩ := timesL_at m c _ k1
    rw [k2] at a3
    have hg := (numN_gcd hf (by rw [numN_len]; omega)).1
    rw [a1, ← a3, hy, Nat.mul_div_cancel_left y (by omega), ← Int.natCast_mul, ← Int.natCast_mul]
    congr 1
    ac_rfl
theorem times_all {m : MobV} (hf : MobF m) (c : Nat) (hx : ∀ i, i < (timesL m c).length → 1 ≤ (timesL m c).getD i 0) (hq : MobF (hangM m (timesL m c))) :
    ∀ d, d ≤ m.am.length → ∀ j, m.am.length - d ≤ j → j < m.am.length → (gcdL (numN m) : Int) * wtM (hangM m (timesL m c)) j = (c : Int) * (wnR m (allN m) (2 * m.am.length) j : Int) := by
  intro d
  induction d with
  | zero => intro _ j h1 h2; omega
  | succ d ih =>
    intro hd j h1 h2
    have ih := ih (by omega)
    have dn := fun t (ht : t < 2 * m.am.length) (h : hvM m t < 0) => (wtR_rodF hf).down t ht (by show (-hvM m t).toNat ≠ 0; omega)
    have e0 := times_end hf c hx (2 * j) (by omega) (fun h => by
      have := dn (2 * j) (by omega) h
      exact ih _ (by show _ ≤ (rodF m).be (2 * j); omega) this.2)
    have e1 := times_end hf c hx (2 * j + 1) (by omega) (fun h => by
      have := dn (2 * j + 1) (by omega) h
      exact ih _ (by show _ ≤ (rodF m).be (2 * j + 1); omega) this.2)
    have hw : wtM (hangM m (timesL m c)) j = atE (hangM m (timesL m c)) (2 * j) + atE (hangM m (timesL m c)) (2 * j + 1) := wtM_eq hq j h2
    rw [hw, Int.mul_add, e0, e1, ← Int.mul_add]
    congr 1
    have r0 := wn_rod hf (allN m) (2 * j) (by omega)
    have r1 := wn_rod hf (allN m) (2 * j + 1) (by omega)
    have hb := (shR_end hf (2 * j) (by omega)).both (prodN_dvd_le m (by omega)) (prodN_bnd hf _ (Nat.le_refl _)).1
    have hb' : bothN m (2 * j / 2) ∣ wnR m (allN m) (2 * j) (2 * j / 2) := hb
    rw [r0, show 2 * j / 2 = j by omega] at hb'
    rw [show 2 * j / 2 = j by omega] at r0
    rw [show (2 * j + 1) / 2 = j by omega] at r1
    obtain ⟨y, hy⟩ := hb'
    have hbb := bothN_bnd hf j h2
    unfold wnE
    rw [show 2 * j / 2 = j by omega, show (2 * j + 1) / 2 = j by omega, r0, r1, hy, Nat.mul_div_cancel_left y (by omega)]
    have ha : armN m (otE (2 * j)) + armN m (otE (2 * j + 1)) = bothN m j := by
      have a1 := (hf.ends (2 * j) (by omega)).1
      have a2 := (hf.ends (2 * j + 1) (by omega)).1
      unfold armN bothN otE
      rw [show 2 * (2 * j / 2) + (1 - 2 * j % 2) = 2 * j + 1 by omega, show 2 * ((2 * j + 1) / 2) + (1 - (2 * j + 1) % 2) = 2 * j by omega]
      omega
    rw [← Int.natCast_add, ← Nat.mul_add, ha]
    congr 1
    ac_rfl
/-- The least weights times a number are level. -/
theorem times_level {m : MobV} (hf : MobF m) (c : Nat) (hx : ∀ i, i < (timesL m c).length → 1 ≤ (timesL m c).getD i 0) (hq : MobF (hangM m (timesL m c))) : levelB (hangM m (timesL m c)) = true := by
  refine (propB_iff _).2 (fun i hi => ?_)
  have hi' : i < m.am.length := hi
  have al := fun t (ht : t < 2 * m.am.length) => times_end hf c hx t ht (fun h => by
    have := (wtR_rodF hf).down t ht (by show (-hvM m t).toNat ≠ 0; omega)
    exact times_all hf c hx hq m.am.length (Nat.le_refl _) _ (by omega) this.2)
  have e0 := al (2 * i) (by omega)
  have e1 := al (2 * i + 1) (by omega)
  have hg := (numN_gcd hf (by rw [numN_len, lfT_total hf]; omega)).1
  show avM m (2 * i + 1) * atE (hangM m (timesL m c)) (2 * i + 1) - avM m (2 * i) * atE (hangM m (timesL m c)) (2 * i) = 0
  have r0 := wn_rod hf (allN m) (2 * i) (by omega)
  have r1 := wn_rod hf (allN m) (2 * i + 1) (by omega)
  rw [show 2 * i / 2 = i by omega] at r0
  rw [show (2 * i + 1) / 2 = i by omega] at r1
  have a0 : ((armN m (2 * i) : Nat) : Int) = avM m (2 * i) := (arm_cast hf _ (by omega)).symm
  have a1 : ((armN m (2 * i + 1) : Nat) : Int) = avM m (2 * i + 1) := (arm_cast hf _ (by omega)).symm
  unfold wnE at e0 e1
  rw [show 2 * i / 2 = i by omega, r0, show otE (2 * i) = 2 * i + 1 by unfold otE; omega, Int.natCast_mul, a1] at e0
  rw [show (2 * i + 1) / 2 = i by omega, r1, show otE (2 * i + 1) = 2 * i by unfold otE; omega, Int.natCast_mul, a0] at e1
  have hg0 : ((gcdL (numN m) : Nat) : Int) ≠ 0 := by omega
  refine Int.eq_of_mul_eq_mul_left hg0 ?_
  rw [Int.mul_zero, Int.mul_sub]
  generalize ((gcdL (numN m) : Nat) : Int) = g at *
  generalize atE (hangM m (timesL m c)) (2 * i + 1) = x at *
  generalize atE (hangM m (timesL m c)) (2 * i) = y at *
  generalize avM m (2 * i + 1) = a at *
  generalize avM m (2 * i) = b at *
  generalize ((wnR m (allN m) (2 * m.am.length) i / bothN m i : Nat) : Int) = z at *
  have h1 : g * (a * x) = (c : Int) * (z * b) * a := by rw [← e1]; ac_rfl
  have h2 : g * (b * y) = (c : Int) * (z * a) * b := by rw [← e0]; ac_rfl
  rw [h1, h2, show (c : Int) * (z * b) * a = (c : Int) * (z * a) * b by ac_rfl]
  omega
end Go.Proofs.Ythncgcdnljoakaa
