/- FhR, as one text. -/
import Derived.Test.YthncgcdnljoakaaG25
namespace Go.Proofs.Ythncgcdnljoakaa
open Go.RowKit
/-- A list without its element k. -/
def restL (xs : List Int) (k : Nat) : List Int := xs.take k ++ xs.drop (k + 1)
theorem restL_len (xs : List Int) (k : Nat) (h : k < xs.length) : (restL xs k).length + 1 = xs.length := by
  unfold restL
  rw [List.length_append, List.length_take, List.length_drop]
  omega
theorem restL_perm (xs : List Int) (k : Nat) (h : k < xs.length) : (xs.getD k 0 :: restL xs k).Perm xs := by
  unfold restL
  have e : xs.take k ++ xs.getD k 0 :: xs.drop (k + 1) = xs := by
    have h1 : xs.drop k = xs.getD k 0 :: xs.drop (k + 1) := by
      rw [List.drop_eq_getElem_cons h]
      simp [List.getD, h]
    rw [← h1, List.take_append_drop]
  have p := (List.perm_middle (a := xs.getD k 0) (l₁ := xs.take k) (l₂ := xs.drop (k + 1))).symm
  rwa [e] at p
/-- No order of the rest is level. -/
def NoLev (m : MobV) (begun left : List Int) : Prop := ∀ p : List Int, p.Perm left → levelB (hangM m (begun ++ p)) = false
def HasLev (m : MobV) (begun left all : List Int) : Prop := ∃ p : List Int, p.Perm left ∧ all = begun ++ p ∧ levelB (hangM m all) = true
theorem noLev_nil {m : MobV} {begun : List Int} (h : levelB (hangM m begun) = false) : NoLev m begun [] := fun p hp => by
  rw [List.perm_nil.1 hp, List.append_nil]
  exact h
theorem hasLev_nil {m : MobV} {begun : List Int} (h : levelB (hangM m begun) = true) : HasLev m begun [] begun := ⟨[], List.Perm.refl _, (List.append_nil _).symm, h⟩
theorem hasLev_step {m : MobV} {begun left all : List Int} {k : Nat} (hk : k < left.length) (h : HasLev m (begun ++ [left.getD k 0]) (restL left k) all) : HasLev m begun left all := by
  obtain ⟨p, hp, ha, hl⟩ := h
  exact ⟨left.getD k 0 :: p, (List.Perm.cons _ hp).trans (restL_perm left k hk), by rw [ha, List.append_assoc]; rfl, hl⟩
theorem noLev_same {m : MobV} {begun left : List Int} {k : Nat} (hk : k + 1 < left.length) (he : left.getD (k + 1) 0 = left.getD k 0) (h : NoLev m (begun ++ [left.getD k 0]) (restL left k)) : NoLev m (begun ++ [left.getD (k + 1) 0]) (restL left (k + 1)) := by
  have h1 := restL_perm left k (by omega)
  have h2 := restL_perm left (k + 1) hk
  rw [he] at h2 ⊢
  exact fun p hp => h p (hp.trans (List.Perm.cons_inv (h2.trans h1.symm)))
theorem noLev_all {m : MobV} {begun left : List Int} (h0 : 0 < left.length) (h : ∀ k, k < left.length → NoLev m (begun ++ [left.getD k 0]) (restL left k)) : NoLev m begun left := fun p hp => by
  cases p with
  | nil => have := hp.length_eq; simp at this; omega
  | cons x p =>
    have hx : x ∈ left := hp.subset List.mem_cons_self
    obtain ⟨k, hk, he⟩ := List.getElem_of_mem hx
    have hg : left.getD k 0 = x := by simp [List.getD, hk, he]
    have h1 := restL_perm left k hk
    have h2 := h k hk
    rw [hg] at h1 h2
    have h3 := h2 p (List.Perm.cons_inv (hp.trans h1.symm))
    rwa [List.append_assoc] at h3
def sumI : List Int → Int
  | [] => 0
  | x :: xs => x + sumI xs
theorem sumI_app (xs ys : List Int) : sumI (xs ++ ys) = sumI xs + sumI ys := by
  induction xs with
  | nil => simp [sumI]
  | cons x xs ih => simp only [List.cons_append, sumI, ih]; omega
theorem sumI_take (xs : List Int) (k : Nat) (h : k < xs.length) : sumI (xs.take (k + 1)) = sumI (xs.take k) + xs.getD k 0 := by
  rw [lv_snoc xs k h, sumI_app]
  simp [sumI]
theorem sumI_perm {xs ys : List Int} (h : xs.Perm ys) : sumI xs = sumI ys := by
  induction h with
  | nil => rfl
  | cons x _ ih => simp only [sumI, ih]
  | swap x y l => simp only [sumI]; omega
  | trans _ _ h1 h2 => exact h1.trans h2
theorem sumI_bnd (a b : Int) : ∀ xs : List Int, (∀ x, x ∈ xs → a ≤ x ∧ x ≤ b) → a * (xs.length : Int) ≤ sumI xs ∧ sumI xs ≤ b * (xs.length : Int) := by
  intro xs
  induction xs with
  | nil => intro _; simp [sumI]
  | cons x xs ih =>
    intro h
    have h1 := h x List.mem_cons_self
    have h2 := ih (fun y hy => h y (List.mem_cons_of_mem _ hy))
    simp only [sumI, List.length_cons]
    push_cast
    rw [Int.mul_add, Int.mul_add]
    omega
theorem sumI_times (m : MobV) (c : Nat) : sumI (timesL m c) = (c : Int) * sumI (intsN (lvR m)) := by
  unfold timesL
  generalize lvR m = rs
  induction rs with
  | nil => simp [intsN, sumI]
  | cons x xs ih =>
    unfold intsN at *
    simp only [List.map_cons, sumI]
    rw [ih, Int.mul_add, Int.natCast_mul]
theorem lvR_pos {m : MobV} (hf : MobF m) (x : Nat) (h : x ∈ lvR m) : 1 ≤ x := by
  have h' : x ∈ primL (numN m) := h
  unfold primL at h'
  obtain ⟨y, hy, rfl⟩ := List.mem_map.1 h'
  have hl : 0 < (numN m).length := List.length_pos_of_mem hy
  have hg := numN_gcd hf hl
  have hd := (foldl_gcd_dvd (numN m) 0).2 y hy
  obtain ⟨t, ht, he⟩ := List.mem_map.1 hy
  have hn := (shE_all hf t (lfT_lt ht)).num (prodN_bnd hf _ (Nat.le_refl _)).1
  have hy1 : 1 ≤ y := by rw [← he]; exact hn.1
  exact Nat.div_pos (Nat.le_of_dvd hy1 hd) hg.1
theorem sum_lv {m : MobV} (hf : MobF m) : 1 ≤ sumI (intsN (lvR m)) := by
  have h := sumI_bnd 1 (sumI (intsN (lvR m)) + 1000000000000) (intsN (lvR m)) 
  have hp : ∀ xs : List Nat, (∀ x, x ∈ xs → 1 ≤ x) → (xs.length : Int) ≤ sumI (intsN xs) := by
    intro xs
    induction xs with
    | nil => intro _; simp [intsN, sumI]
    | cons x xs ih =>
      intro h
      have h1 := h x List.mem_cons_self
      have h2 := ih (fun y hy => h y (List.mem_cons_of_mem _ hy))
      unfold intsN at *
      simp only [List.map_cons, sumI, List.length_cons]
      push_cast
      omega
  have := hp (lvR m) (fun x hx => lvR_pos hf x hx)
  rw [lvR_len, lfT_total hf] at this
  have h1 := hf.one
  omega
/-- What FirstHanging asks. -/
def fhP (m : MobV) (ws : List Int) : Prop := ∃ p : List Int, p.Perm ws ∧ levelB (hangM m p) = true
noncomputable def fhB (m : MobV) (ws : List Int) : Bool := hangB m ws && propB (fhP m ws)
def fhC (m : MobV) (ws : List Int) : Nat := (sumI ws / sumI (intsN (lvR m))).toNat
noncomputable def fhYs (m : MobV) (ws : List Int) : List Int := if fhB m ws = true then timesL m (fhC m ws) else []
theorem areB_iff (xs : List Int) (k : Int) : areB xs k = true ↔ (∀ i, i < xs.length → 1 ≤ xs.getD i 0 ∧ xs.getD i 0 ≤ 99) ∧ (xs.length : Int) = k := by
  unfold areB
  rw [Bool.and_eq_true, propB_iff, decide_eq_true_eq]
theorem areB_perm {xs ys : List Int} (h : xs.Perm ys) (k : Int) (ha : areB ys k = true) : areB xs k = true := by
  rw [areB_iff] at *
  obtain ⟨h1, h2⟩ := ha
  refine ⟨fun i hi => ?_, by rw [h.length_eq]; exact h2⟩
  have hm := h.subset (getD_mem xs 0 i hi)
  obtain ⟨j, hj, he⟩ := List.getElem_of_mem hm
  have := h1 j hj
  rw [show ys.getD j 0 = ys[j] by simp [List.getD, hj], he] at this
  exact this
/-- A level order is the least weights times the quotient of the sums. -/
theorem fh_only {m : MobV} {ws p : List Int} (hf : MobF m) (ha : areB ws ((m.am.length : Int) + 1) = true) (hp : p.Perm ws) (hl : levelB (hangM m p) = true) : 1 ≤ fhC m ws ∧ p = timesL m (fhC m ws) ∧ lvOk m = true := by
  have hap := areB_perm hp _ ha
  obtain ⟨h1, h2⟩ := (areB_iff _ _).1 hap
  have hlen : p.length = m.am.length + 1 := by omega
  have hq : MobF (hangM m p) := (goodB_iff _).1 (by rw [hang_good hf p hlen]; exact hap)
  obtain ⟨c, hc, hpc⟩ := level_times hf hlen h1 hq hl
  have hs : sumI ws = (c : Int) * sumI (intsN (lvR m)) := by rw [← sumI_perm hp, hpc, sumI_times]
  have hs1 := sum_lv hf
  have e : fhC m ws = c := by
    unfold fhC
    rw [hs, Int.mul_ediv_cancel _ (by omega)]
    omega
  rw [e]
  refine ⟨hc, hpc, (lvOk_iff m).2 (fun x hx => ?_)⟩
  obtain ⟨y, hy, rfl⟩ := List.mem_map.1 hx
  have hm : ((c * y : Nat) : Int) ∈ p := by
    rw [hpc]
    exact List.mem_map.2 ⟨c * y, List.mem_map.2 ⟨y, hy, rfl⟩, rfl⟩
  obtain ⟨j, hj, he⟩ := List.getElem_of_mem hm
  have h99 := (h1 j hj).2
  rw [show p.getD j 0 = p[j] by simp [List.getD, hj], he] at h99
  have : y ≤ c * y := Nat.le_mul_of_pos_left y hc
  omega
/-- Just if the least weights times that number are an order of the list. -/
theorem fh_iff {m : MobV} {ws : List Int} (hf : MobF m) (ha : areB ws ((m.am.length : Int) + 1) = true) : fhP m ws ↔ (timesL m (fhC m ws)).Perm ws := by
  constructor
  · rintro ⟨p, hp, hl⟩
    have := (fh_only hf ha hp hl).2.1
    rw [← this]
    exact hp
  · intro h
    have hap := areB_perm h _ ha
    obtain ⟨h1, h2⟩ := (areB_iff _ _).1 hap
    have hlen : (timesL m (fhC m ws)).length = m.am.length + 1 := by omega
    have hq : MobF (hangM m (timesL m (fhC m ws))) := (goodB_iff _).1 (by rw [hang_good hf _ hlen]; exact hap)
    exact ⟨_, h, times_level hf _ (fun i hi => (h1 i hi).1) hq⟩
end Go.Proofs.Ythncgcdnljoakaa
