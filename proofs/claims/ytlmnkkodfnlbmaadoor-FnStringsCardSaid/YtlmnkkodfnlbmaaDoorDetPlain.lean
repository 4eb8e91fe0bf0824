/- Plain facts: a sealed text with one byte changed is no sealed text. No program stands here. -/
import Derived.Test.YtlmnkkodfnlbmaaDoorSealPlain
import Derived.Test.YtlmnkkodfnlbmaaDoorReadPlain
namespace Go.Proofs.YtlmnkkodfnlbmaaDoor
theorem ckStep_left {h h' : Int} {c : UInt8} (a : 0 ≤ h) (b : h ≤ 999978) (a' : 0 ≤ h') (b' : h' ≤ 999978) (e : ckStep h c = ckStep h' c) : h = h' := by
  unfold ckStep at e; omega
theorem ckStep_right {h : Int} {c c' : UInt8} (e : ckStep h c = ckStep h c') : c = c' := by
  unfold ckStep at e
  have h1 := byte_lt c
  have h2 := byte_lt c'
  exact UInt8.toNat_inj.1 (by omega)
theorem ckFold_left (l : List UInt8) : ∀ {h h' : Int}, 0 ≤ h → h ≤ 999978 → 0 ≤ h' → h' ≤ 999978 → l.foldl ckStep h = l.foldl ckStep h' → h = h' := by
  induction l with
  | nil => intro h h' _ _ _ _ e; exact e
  | cons c l ih =>
    intro h h' a b a' b' e
    have e2 := ih (ckStep_bd h c).1 (ckStep_bd h c).2 (ckStep_bd h' c).1 (ckStep_bd h' c).2 e
    exact ckStep_left a b a' b' e2
theorem ck_det (A B : List UInt8) (c c' : UInt8) (e : ck (A ++ c :: B) = ck (A ++ c' :: B)) : c = c' := by
  unfold ck at e
  rw [List.foldl_append, List.foldl_append, List.foldl_cons, List.foldl_cons] at e
  have h1 := ck_bd A
  unfold ck at h1
  exact ckStep_right (ckFold_left B (ckStep_bd _ c).1 (ckStep_bd _ c).2 (ckStep_bd _ c').1 (ckStep_bd _ c').2 e)
theorem has_append (b : Int) (x y : List UInt8) : has b (x ++ y) = (has b x || has b y) := by simp [has]
theorem pre_at (A B : List UInt8) (h : has 35 A = false) : preT 35 (A ++ 35 :: B) = A := by
  induction A with
  | nil => simp [preT]
  | cons c A ih =>
    unfold has at h
    rw [List.any_cons, Bool.or_eq_false_iff] at h
    have hc : ¬ (c.toNat : Int) = 35 := by simpa using h.1
    have := ih h.2
    unfold preT at *
    simp [hc, this]
theorem pre_none (A : List UInt8) (h : has 35 A = false) : preT 35 A = A := by
  induction A with
  | nil => rfl
  | cons c A ih =>
    unfold has at h
    rw [List.any_cons, Bool.or_eq_false_iff] at h
    have hc : ¬ (c.toNat : Int) = 35 := by simpa using h.1
    have := ih h.2
    unfold preT at *
    simp [hc, this]
theorem itoa_has (n : Int) (h : 0 ≤ n) : has 35 (Lib.itoa n) = false := by
  unfold Lib.itoa
  rw [if_neg (by omega)]
  have hd := dec_dig n.toNat
  unfold has
  rw [List.any_eq_false]
  intro c hc
  have := hd c hc
  simp; omega
theorem itoa_inj {a b : Int} (ha : 0 ≤ a ∧ a ≤ 999978) (hb : 0 ≤ b ∧ b ≤ 999978) (h : Lib.itoa a = Lib.itoa b) : a = b := by
  have h1 := scan_itoa a (by omega) (by omega)
  have h2 := scan_itoa b (by omega) (by omega)
  rw [h] at h1
  exact h1.symm.trans h2
theorem is35 {c : UInt8} (h : (c.toNat : Int) = 35) : c = 35 := UInt8.toNat_inj.1 (show c.toNat = (35 : UInt8).toNat from by have : c.toNat = 35 := by omega
                                                                                                                             exact this)
def sealL (X : List UInt8) : List UInt8 := X ++ 35 :: Lib.itoa (ck X)
theorem sealL_has (X : List UInt8) (h : has 35 X = false) (A B : List UInt8) (e : sealL X = A ++ 35 :: B) (hA : has 35 A = false) : A = X ∧ B = Lib.itoa (ck X) := by
  have h1 := pre_at A B hA
  rw [← e] at h1
  unfold sealL at h1
  rw [pre_at X _ h] at h1
  subst h1
  unfold sealL at e
  have := List.append_cancel_left e
  exact ⟨rfl, (List.cons.inj this).2.symm⟩
/-- One byte of a sealed text is another one: what is left is not sealed. -/
theorem seal_det (X A B : List UInt8) (c c' : UInt8) (hX : has 35 X = false) (e : sealL X = A ++ c :: B) (hc : c ≠ c') : sealL (preT 35 (A ++ c' :: B)) ≠ A ++ c' :: B := by
  intro hs
  have hP := pre_has (A ++ c' :: B)
  generalize preT 35 (A ++ c' :: B) = P at hs hP
  -- where the mark of the first text stands
  have hm : X ++ 35 :: Lib.itoa (ck X) = A ++ c :: B := e
  have hd := itoa_has (ck X) (ck_bd X).1
  have hd' := itoa_has (ck P) (ck_bd P).1
  rcases List.append_eq_append_iff.1 hm with ⟨Y, hA, hr⟩ | ⟨Y, hXA, hr⟩
  · -- A = X ++ Y : the change stands at the mark or behind it
    cases Y with
    | nil =>
      simp only [List.append_nil] at hA
      subst hA
      simp only [List.nil_append] at hr
      obtain ⟨rfl, rfl⟩ := List.cons.inj hr
      have hc' : ¬ (c'.toNat : Int) = 35 := fun x => hc (is35 x).symm
      have h0 : has 35 (A ++ c' :: Lib.itoa (ck A)) = false := by
        rw [has_append, hX]
        have : has 35 (c' :: Lib.itoa (ck A)) = (((c'.toNat : Int) == 35) || has 35 (Lib.itoa (ck A))) := by simp [has]
        rw [this, hd]; simp [hc']
      have h1 : has 35 (sealL P) = true := by unfold sealL; rw [has_append]; simp [has]
      rw [hs, h0] at h1
      cases h1
    | cons y Y =>
      simp only [List.cons_append] at hr
      obtain ⟨rfl, hr2⟩ := List.cons.inj hr
      subst hA
      have e2 : sealL P = X ++ 35 :: (Y ++ c' :: B) := by rw [hs]; simp
      obtain ⟨rfl, h2⟩ := sealL_has P hP X _ e2 hX
      rw [← h2] at hr2
      have := List.append_cancel_left hr2
      exact hc (List.cons.inj this).1.symm
  · -- X = A ++ Y
    cases Y with
    | nil =>
      simp only [List.append_nil] at hXA
      subst hXA
      simp only [List.nil_append] at hr
      obtain ⟨rfl, rfl⟩ := List.cons.inj hr
      have hc' : ¬ (c'.toNat : Int) = 35 := fun x => hc (is35 x).symm
      have h0 : has 35 (X ++ c' :: Lib.itoa (ck X)) = false := by
        rw [has_append, hX]
        have : has 35 (c' :: Lib.itoa (ck X)) = (((c'.toNat : Int) == 35) || has 35 (Lib.itoa (ck X))) := by simp [has]
        rw [this, hd]; simp [hc']
      have h1 : has 35 (sealL P) = true := by unfold sealL; rw [has_append]; simp [has]
      rw [hs, h0] at h1
      cases h1
    | cons y Y =>
      simp only [List.cons_append] at hr
      obtain ⟨rfl, hr2⟩ := List.cons.inj hr
      subst hXA
      rw [has_append, Bool.or_eq_false_iff] at hX
      have hY : has 35 Y = false := by
        have : has 35 (c :: Y) = (((c.toNat : Int) == 35) || has 35 Y) := by simp [has]
        rw [this, Bool.or_eq_false_iff] at hX
        exact hX.2.2
      by_cases hc' : (c'.toNat : Int) = 35
      · obtain rfl : c' = 35 := is35 hc'
        obtain ⟨_, h2⟩ := sealL_has P hP A _ hs hX.1
        rw [← h2, hr2] at hd'
        have : has 35 (Y ++ 35 :: Lib.itoa (ck (A ++ c :: Y))) = true := by rw [has_append]; simp [has]
        rw [this] at hd'
        cases hd'
      · have h3 : has 35 (A ++ c' :: Y) = false := by
          rw [has_append, hX.1]
          have : has 35 (c' :: Y) = (((c'.toNat : Int) == 35) || has 35 Y) := by simp [has]
          rw [this, hY]; simp [hc']
        have e2 : sealL P = (A ++ c' :: Y) ++ 35 :: Lib.itoa (ck (A ++ c :: Y)) := by rw [hs, hr2]; simp
        obtain ⟨h4, h5⟩ := sealL_has P hP _ _ e2 h3
        rw [← h4] at h5
        have := itoa_inj (ck_bd _) (ck_bd _) h5
        exact hc (ck_det A Y c c' this)
end Go.Proofs.YtlmnkkodfnlbmaaDoor
