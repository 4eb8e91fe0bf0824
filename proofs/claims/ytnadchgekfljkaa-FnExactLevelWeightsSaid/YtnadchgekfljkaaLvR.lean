/- Lists that are gone through one by one: what has been taken, divided, the greatest of them. No program stands here. -/
import Derived.Test.YtnadchgekfljkaaLvQ
import Derived.Lib.Slices
namespace Go.Proofs.Ytnadchgekfljkaa
open Go.RowKit
theorem foldl_take {α β : Type} (f : β → α → β) (b : β) (d : α) (xs : List α) (k : Nat) (h : k < xs.length) : (xs.take (k + 1)).foldl f b = f ((xs.take k).foldl f b) (xs.getD k d) := by
  rw [List.take_add_one, List.getElem?_eq_getElem h, List.foldl_append]
  simp [List.getD, h]
theorem getD_map {α β : Type} (f : α → β) (d : β) (d0 : α) (xs : List α) (k : Nat) (h : k < xs.length) : (xs.map f).getD k d = f (xs.getD k d0) := by
  simp [List.getD, h]
theorem getD_mem {α : Type} (xs : List α) (d : α) (k : Nat) (h : k < xs.length) : xs.getD k d ∈ xs := by
  simp [List.getD, h]
theorem lv_snoc (xs : List Int) (k : Nat) (h : k < xs.length) : xs.take (k + 1) = xs.take k ++ [xs.getD k 0] := by
  rw [List.take_add_one, List.getElem?_eq_getElem h]
  simp [List.getD, h]
theorem mix_set (ys xs : List Int) (k : Nat) (h : k < xs.length) (hl : ys.length = xs.length) : (ys.take k ++ xs.drop k).set k (ys.getD k 0) = ys.take (k + 1) ++ xs.drop (k + 1) := by
  rw [List.set_append_right _ _ (by rw [List.length_take]; omega), List.length_take, Nat.min_eq_left (by omega), Nat.sub_self, List.drop_eq_getElem_cons h, List.set_cons_zero, lv_snoc ys k (by omega), List.append_assoc]
  rfl
theorem mix_at (ys xs : List Int) (k : Nat) (h : k < xs.length) (hl : ys.length = xs.length) : (ys.take k ++ xs.drop k).getD k 0 = xs.getD k 0 := by
  simp only [List.getD]
  rw [List.getElem?_append_right (by rw [List.length_take]; omega), List.length_take, Nat.min_eq_left (by omega), Nat.sub_self, List.getElem?_drop, Nat.add_zero]
theorem mix_len (ys xs : List Int) (k : Nat) (h : k ≤ xs.length) (hl : ys.length = xs.length) : (ys.take k ++ xs.drop k).length = xs.length := by
  rw [List.length_append, List.length_take, List.length_drop]
  omega
theorem icells_set (xs : List Int) (k : Nat) (y : Int) : (icells xs).set k (.int .i64 y) = icells (xs.set k y) := by
  unfold icells
  rw [List.map_set]
theorem gcd_le_max {M c x : Nat} (h1 : c ≤ M) (h2 : x ≤ M) : Nat.gcd c x ≤ M := by
  rcases Nat.eq_zero_or_pos c with h | h
  · rw [h, Nat.gcd_zero_left]; exact h2
  · exact Nat.le_trans (Nat.gcd_le_left x h) h1
theorem gcds_le {M : Nat} : ∀ (xs : List Nat) (c : Nat), c ≤ M → (∀ x, x ∈ xs → x ≤ M) → xs.foldl Nat.gcd c ≤ M := by
  intro xs
  induction xs with
  | nil => intro c hc _; exact hc
  | cons x xs ih => intro c hc h; exact ih _ (gcd_le_max hc (h x List.mem_cons_self)) (fun y hy => h y (List.mem_cons_of_mem _ hy))
theorem foldl_max_le (c : Int) : ∀ (zs : List Int) (a : Int), zs.foldl max a ≤ c ↔ a ≤ c ∧ ∀ x, x ∈ zs → x ≤ c := by
  intro zs
  induction zs with
  | nil => intro a; exact ⟨fun h => ⟨h, fun x hx => by cases hx⟩, fun h => h.1⟩
  | cons z zs ih =>
    intro a
    rw [List.foldl_cons, ih]
    constructor
    · rintro ⟨h1, h2⟩
      exact ⟨by omega, fun x hx => by
        rcases List.mem_cons.1 hx with rfl | hx
        · omega
        · exact h2 x hx⟩
    · rintro ⟨h1, h2⟩
      have := h2 z List.mem_cons_self
      exact ⟨by omega, fun x hx => h2 x (List.mem_cons_of_mem _ hx)⟩
theorem maxOf_le (c : Int) (zs : List Int) (h : 0 < zs.length) : Lib.maxOf zs ≤ c ↔ ∀ x, x ∈ zs → x ≤ c := by
  cases zs with
  | nil => simp at h
  | cons z zs =>
    unfold Lib.maxOf
    rw [foldl_max_le]
    constructor
    · exact fun h => h.2
    · exact fun h => ⟨h z List.mem_cons_self, h⟩
/-- The numbers of a list of natural numbers. -/
def intsN (xs : List Nat) : List Int := xs.map (fun (x : Nat) => (x : Int))
theorem intsN_len (xs : List Nat) : (intsN xs).length = xs.length := by unfold intsN; simp
theorem intsN_at (xs : List Nat) (k : Nat) (h : k < xs.length) : (intsN xs).getD k 0 = ((xs.getD k 0 : Nat) : Int) := getD_map _ _ _ _ _ h
def lvOk (m : MobV) : Bool := (lvR m).all (fun x => decide (x ≤ 99))
noncomputable def lvB (m : MobV) : Bool := goodB m && lvOk m
noncomputable def lvYs (m : MobV) : List Int := if lvB m = true then intsN (lvR m) else []
theorem lvOk_iff (m : MobV) : lvOk m = true ↔ ∀ x, x ∈ intsN (lvR m) → x ≤ 99 := by
  unfold lvOk intsN
  rw [List.all_eq_true]
  constructor
  · intro h x hx
    obtain ⟨y, hy, rfl⟩ := List.mem_map.1 hx
    have := h y hy
    simp only [decide_eq_true_eq] at this
    omega
  · intro h x hx
    have := h (x : Int) (List.mem_map.2 ⟨x, hx, rfl⟩)
    simp only [decide_eq_true_eq]
    omega
theorem lvR_len (m : MobV) : (lvR m).length = (lfT m).length := by unfold lvR primL; simp
theorem lfT_len (m : MobV) : (lfT m).length ≤ 2 * m.am.length := endT_len _ _
/-- What the program divides, and by what. -/
def numN (m : MobV) : List Nat := (lfT m).map (wnE m (allN m))
theorem numN_at {m : MobV} (hf : MobF m) (k : Nat) (h : k < (numN m).length) : 1 ≤ (numN m).getD k 0 ∧ (numN m).getD k 0 ≤ 191102976 := by
  have hm := getD_mem (numN m) 0 k h
  obtain ⟨t, ht, he⟩ := List.mem_map.1 hm
  rw [← he]
  have hp := prodN_all hf
  have := (shE_all hf t (lfT_lt ht)).num (prodN_bnd hf _ (Nat.le_refl _)).1
  unfold allN
  omega
theorem numN_le {m : MobV} (hf : MobF m) (x : Nat) (h : x ∈ numN m) : x ≤ 191102976 := by
  obtain ⟨t, ht, he⟩ := List.mem_map.1 h
  rw [← he]
  have hp := prodN_all hf
  have := (shE_all hf t (lfT_lt ht)).num (prodN_bnd hf _ (Nat.le_refl _)).1
  unfold allN
  omega
theorem numN_gcd {m : MobV} (hf : MobF m) (h : 0 < (numN m).length) : 1 ≤ gcdL (numN m) ∧ gcdL (numN m) ≤ 191102976 := by
  have h0 := numN_at hf 0 h
  have hm := getD_mem (numN m) 0 0 h
  exact ⟨gcdL_pos hm (by omega), Nat.le_trans (gcdL_le hm (by omega)) h0.2⟩
theorem gcd_take_le {m : MobV} (hf : MobF m) (k : Nat) : ((numN m).take k).foldl Nat.gcd 0 ≤ 191102976 :=
  gcds_le _ 0 (by omega) (fun x hx => numN_le hf x (List.mem_of_mem_take hx))
theorem lvR_num (m : MobV) : lvR m = primL (numN m) := rfl
theorem lvR_at (m : MobV) (k : Nat) (h : k < (numN m).length) : (lvR m).getD k 0 = (numN m).getD k 0 / gcdL (numN m) := by
  rw [lvR_num]
  exact getD_map _ _ _ _ _ h
theorem numN_len (m : MobV) : (numN m).length = (lfT m).length := by unfold numN; simp
/-- What the model divides. -/
def outL (m : MobV) : List Nat := (lfT m).map (outN m)
theorem lvR_outL {m : MobV} (hf : MobF m) : lvR m = primL (outL m) := (lvR_out hf).symm
theorem outL_len (m : MobV) : (outL m).length = (lfT m).length := by unfold outL; simp
theorem lcmM_le {m : MobV} (hf : MobF m) : lcmM m ≤ 191102976 := Nat.le_trans (Nat.le_of_dvd (prodN_bnd hf _ (Nat.le_refl _)).1 (lcmM_all hf).2.1) (prodN_all hf)
theorem outN_bnd {m : MobV} (hf : MobF m) (t : Nat) (ht : t ∈ lfT m) : 1 ≤ outN m t ∧ outN m t ≤ 191102976 := by
  obtain ⟨l0, l1, l2⟩ := lcmM_all hf
  have hs := shE_all hf t (lfT_lt ht)
  obtain ⟨k, hk⟩ := l2 t ht
  have hl := lcmM_le hf
  have hb := hs.pos
  have ht := hs.top
  have hle := hs.le
  unfold outN
  rw [hk] at hl l0
  rw [hk, Nat.mul_div_cancel_left k hb]
  have k0 : 0 < k := by
    rcases Nat.eq_zero_or_pos k with e | e
    · rw [e, Nat.mul_zero] at l0; omega
    · exact e
  refine ⟨Nat.mul_pos k0 ht, Nat.le_trans (Nat.mul_le_mul (Nat.le_refl k) hle) ?_⟩
  rw [Nat.mul_comm]
  exact hl
theorem outL_le {m : MobV} (hf : MobF m) (x : Nat) (h : x ∈ outL m) : 1 ≤ x ∧ x ≤ 191102976 := by
  obtain ⟨t, ht, he⟩ := List.mem_map.1 h
  rw [← he]
  exact outN_bnd hf t ht
theorem outL_gcd {m : MobV} (hf : MobF m) (h : 0 < (outL m).length) : 1 ≤ gcdL (outL m) ∧ gcdL (outL m) ≤ 191102976 := by
  have hm := getD_mem (outL m) 0 0 h
  have h0 := outL_le hf _ hm
  exact ⟨gcdL_pos hm (by omega), Nat.le_trans (gcdL_le hm (by omega)) h0.2⟩
theorem outG_take_le {m : MobV} (hf : MobF m) (k : Nat) : ((outL m).take k).foldl Nat.gcd 0 ≤ 191102976 :=
  gcds_le _ 0 (by omega) (fun x hx => (outL_le hf x (List.mem_of_mem_take hx)).2)
/-- The least common bottom of the first k shares. -/
def botL (m : MobV) : List Nat := (lfT m).map (fun t => (shE m t).2)
def lcmK (m : MobV) (k : Nat) : Nat := lcmL ((botL m).take k)
theorem botL_len (m : MobV) : (botL m).length = (lfT m).length := by unfold botL; simp
theorem botL_mem {m : MobV} (hf : MobF m) (b : Nat) (h : b ∈ botL m) : 0 < b ∧ b ∣ allN m := by
  obtain ⟨t, ht, rfl⟩ := List.mem_map.1 h
  have hs := shE_all hf t (lfT_lt ht)
  have hl := lfT_lt ht
  exact ⟨hs.pos, Nat.dvd_trans hs.dvd (prodN_dvd_le m (by omega))⟩
theorem lcmK_bnd {m : MobV} (hf : MobF m) (k : Nat) : 1 ≤ lcmK m k ∧ lcmK m k ∣ allN m ∧ lcmK m k ≤ 191102976 := by
  have h := lcm_fold (P := allN m) ((botL m).take k) 1 (by omega) (Nat.one_dvd _) (fun b hb => botL_mem hf b (List.mem_of_mem_take hb))
  exact ⟨h.1, h.2.1, Nat.le_trans (Nat.le_of_dvd (prodN_bnd hf _ (Nat.le_refl _)).1 h.2.1) (prodN_all hf)⟩
theorem lcmK_step (m : MobV) (k : Nat) (h : k < (botL m).length) : lcmK m (k + 1) = lcmK m k / Nat.gcd (lcmK m k) ((botL m).getD k 0) * (botL m).getD k 0 := foldl_take _ _ _ _ _ h
theorem lcmK_all (m : MobV) : lcmK m (botL m).length = lcmM m := by unfold lcmK; rw [List.take_length]; rfl
end Go.Proofs.Ytnadchgekfljkaa
