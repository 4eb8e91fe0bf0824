/- Plain facts on reading a decimal text: no program stands here. -/
import Derived.Lib.ItoaLen
namespace Go.Proofs.YtlmnkkodfnlbmaaDoor
def stepV (v : Int) (c : UInt8) : Int := 10 * v + ((c.toNat : Int) - 48)
def valF (v : Int) (l : List UInt8) : Int := l.foldl stepV v
def Dig (l : List UInt8) : Prop := ∀ c ∈ l, 48 ≤ c.toNat ∧ c.toNat ≤ 57
theorem Dig.nil : Dig [] := fun _ h => by cases h
theorem dig_cons {c : UInt8} {l : List UInt8} : Dig (c :: l) ↔ (48 ≤ c.toNat ∧ c.toNat ≤ 57) ∧ Dig l := by simp [Dig]
theorem dig_append {a b : List UInt8} : Dig (a ++ b) ↔ Dig a ∧ Dig b := by
  constructor
  · intro h; exact ⟨fun c hc => h c (List.mem_append_left _ hc), fun c hc => h c (List.mem_append_right _ hc)⟩
  · rintro ⟨h1, h2⟩ c hc
    rcases List.mem_append.1 hc with h | h
    · exact h1 c h
    · exact h2 c h
theorem valF_nil (v : Int) : valF v [] = v := rfl
theorem valF_cons (v : Int) (c : UInt8) (l : List UInt8) : valF v (c :: l) = valF (stepV v c) l := rfl
theorem valF_snoc (v : Int) (l : List UInt8) (c : UInt8) : valF v (l ++ [c]) = stepV (valF v l) c := by simp [valF, List.foldl_append]
theorem valF_ge (l : List UInt8) : ∀ v : Int, Dig l → 0 ≤ v → v ≤ valF v l := by
  induction l with
  | nil => intro v _ _; exact Int.le_refl _
  | cons c l ih =>
    intro v h h0
    obtain ⟨hc, hl⟩ := dig_cons.1 h
    rw [valF_cons]
    have h1 : v ≤ stepV v c := by unfold stepV; omega
    have := ih (stepV v c) hl (by omega)
    omega
def p10 : Nat → Int
  | 0 => 1
  | k + 1 => 10 * p10 k
theorem p10_pos (k : Nat) : 1 ≤ p10 k := by
  induction k with
  | zero => exact Int.le_refl _
  | succ k ih => unfold p10; omega
theorem p10_mono (a b : Nat) (h : a ≤ b) : p10 a ≤ p10 b := by
  induction h with
  | refl => exact Int.le_refl _
  | step _ ih => have := p10_pos a; rw [p10]; omega
theorem valF_lt (l : List UInt8) : ∀ v : Int, Dig l → valF v l + 1 ≤ (v + 1) * p10 l.length := by
  induction l with
  | nil => intro v _; simp [valF, p10]
  | cons c l ih =>
    intro v h
    obtain ⟨hc, hl⟩ := dig_cons.1 h
    rw [valF_cons]
    have h1 := ih (stepV v c) hl
    have h2 : stepV v c + 1 ≤ (v + 1) * 10 := by unfold stepV; omega
    have h3 : (stepV v c + 1) * p10 l.length ≤ (v + 1) * 10 * p10 l.length := Int.mul_le_mul_of_nonneg_right h2 (by have := p10_pos l.length; omega)
    rw [List.length_cons, p10, ← Int.mul_assoc]
    omega
theorem valF_le6 (l : List UInt8) (h : Dig l) (hl : l.length ≤ 6) : 0 ≤ valF 0 l ∧ valF 0 l ≤ 999999 := by
  have h1 := valF_lt l 0 h
  have h2 := valF_ge l 0 h (Int.le_refl _)
  have h3 := p10_mono _ _ hl
  rw [show p10 6 = 1000000 from rfl] at h3
  refine ⟨h2, ?_⟩
  omega
theorem dec_dig (u : Nat) : Dig (Lib.decDigits u) := by
  induction u using Nat.strongRecOn with
  | _ u ih =>
    rw [Lib.decDigits]
    by_cases h : u < 10
    · rw [dif_pos h]
      intro c hc
      simp only [List.mem_singleton] at hc
      subst hc
      rw [UInt8.toNat_ofNat']
      omega
    · rw [dif_neg h, dig_append]
      refine ⟨ih _ (by omega), fun c hc => ?_⟩
      simp only [List.mem_singleton] at hc
      subst hc
      rw [UInt8.toNat_ofNat']
      omega
theorem dec_val (u : Nat) : valF 0 (Lib.decDigits u) = u := by
  induction u using Nat.strongRecOn with
  | _ u ih =>
    rw [Lib.decDigits]
    by_cases h : u < 10
    · rw [dif_pos h, valF_cons, valF_nil]
      unfold stepV
      rw [UInt8.toNat_ofNat']
      omega
    · rw [dif_neg h, valF_snoc, ih _ (by omega)]
      unfold stepV
      rw [UInt8.toNat_ofNat']
      omega
theorem dec_ne_nil (u : Nat) : Lib.decDigits u ≠ [] := by
  intro h
  have := Lib.decDigits_length u
  rw [h] at this
  have := Lib.nDigits_pos u
  simp at *
  omega
theorem dec_len6 (u : Nat) (h : u ≤ 999999) : (Lib.decDigits u).length ≤ 6 := by
  rw [Lib.decDigits_length]
  rcases Nat.lt_or_ge 6 (Lib.nDigits u) with h6 | h6
  · have h7 : 10 ^ 6 ≤ u := by
      clear h
      induction u using Nat.strongRecOn with
      | _ u _ =>
        rcases Nat.lt_or_ge u 10 with a | a
        · rw [Lib.nDigits_small a] at h6; omega
        rw [Lib.nDigits_big (by omega)] at h6
        rcases Nat.lt_or_ge (u / 10) 10 with b | b
        · rw [Lib.nDigits_small b] at h6; omega
        rw [Lib.nDigits_big (by omega)] at h6
        rcases Nat.lt_or_ge (u / 10 / 10) 10 with c | c
        · rw [Lib.nDigits_small c] at h6; omega
        rw [Lib.nDigits_big (by omega)] at h6
        rcases Nat.lt_or_ge (u / 10 / 10 / 10) 10 with d | d
        · rw [Lib.nDigits_small d] at h6; omega
        rw [Lib.nDigits_big (by omega)] at h6
        rcases Nat.lt_or_ge (u / 10 / 10 / 10 / 10) 10 with e | e
        · rw [Lib.nDigits_small e] at h6; omega
        rw [Lib.nDigits_big (by omega)] at h6
        rcases Nat.lt_or_ge (u / 10 / 10 / 10 / 10 / 10) 10 with f | f
        · rw [Lib.nDigits_small f] at h6; omega
        omega
    omega
  · exact h6
/-- The program's own scan. -/
def scan (i : Nat) (sz sg : Int) : List UInt8 → Int × Int
  | [] => (sz, sg)
  | c :: l => if c.toNat = 45 ∧ i = 0 then scan (i + 1) sz (-1) l else if c.toNat < 48 ∨ 57 < c.toNat ∨ 999999 < sz then (sz, sg) else scan (i + 1) (stepV sz c) sg l
theorem scan_dig (l : List UInt8) : ∀ (i : Nat) (sz sg : Int), Dig l → 0 ≤ sz → valF sz l ≤ 999999 → scan i sz sg l = (valF sz l, sg) := by
  induction l with
  | nil => intro i sz sg _ _ _; rfl
  | cons c l ih =>
    intro i sz sg h h0 hv
    obtain ⟨hc, hl⟩ := dig_cons.1 h
    have hs : sz ≤ stepV sz c := by unfold stepV; omega
    have hg := valF_ge l (stepV sz c) hl (by omega)
    rw [valF_cons] at hv ⊢
    rw [scan, if_neg (by omega), if_neg (by omega)]
    exact ih _ _ _ hl (by omega) hv
theorem scan_itoa (n : Int) (h0 : -999999 ≤ n) (h1 : n ≤ 999999) : (scan 0 0 1 (Lib.itoa n)).2 * (scan 0 0 1 (Lib.itoa n)).1 = n := by
  unfold Lib.itoa
  by_cases hn : n < 0
  · rw [if_pos hn, scan, if_pos (by decide), scan_dig _ _ _ _ (dec_dig _) (Int.le_refl _) (by rw [dec_val]; omega), dec_val]
    simp only
    omega
  · rw [if_neg hn, scan_dig _ _ _ _ (dec_dig _) (Int.le_refl _) (by rw [dec_val]; omega), dec_val]
    simp only
    omega
/-- What a reading of a text tells. -/
def IsRead (l : List UInt8) : Option Int → Prop
  | some n => (-999999 ≤ n ∧ n ≤ 999999) ∧ Lib.itoa n = l
  | none => ∀ n : Int, -999999 ≤ n → n ≤ 999999 → Lib.itoa n ≠ l
theorem isRead_one {l : List UInt8} {a b : Option Int} (ha : IsRead l a) (hb : IsRead l b) : a = b := by
  cases a with
  | none =>
    cases b with
    | none => rfl
    | some n => exact absurd hb.2 (ha n hb.1.1 hb.1.2)
  | some m =>
    cases b with
    | none => exact absurd ha.2 (hb m ha.1.1 ha.1.2)
    | some n =>
      have h1 := scan_itoa m ha.1.1 ha.1.2
      have h2 := scan_itoa n hb.1.1 hb.1.2
      rw [ha.2] at h1
      rw [hb.2] at h2
      rw [← h1, ← h2]
def tOf (l : List UInt8) : List UInt8 := match l with
  | c :: d :: r => if c.toNat = 45 then d :: r else l
  | _ => l
theorem tOf_itoa (n : Int) (h0 : -999999 ≤ n) (h1 : n ≤ 999999) : tOf (Lib.itoa n) = Lib.decDigits n.natAbs ∧ ((tOf (Lib.itoa n)).length < (Lib.itoa n).length ↔ n < 0) := by
  unfold Lib.itoa
  by_cases hn : n < 0
  · rw [if_pos hn]
    have hne := dec_ne_nil n.natAbs
    cases hd : Lib.decDigits n.natAbs with
    | nil => exact absurd hd hne
    | cons d r => simp [tOf, hn]
  · rw [if_neg hn, show n.toNat = n.natAbs by omega]
    have hdig := dec_dig n.natAbs
    cases hd : Lib.decDigits n.natAbs with
    | nil => exact absurd hd (dec_ne_nil _)
    | cons d r =>
      rw [hd] at hdig
      have hc := (dig_cons.1 hdig).1
      cases r with
      | nil => simp [tOf]; omega
      | cons e r => simp only [tOf]; rw [if_neg (by omega)]; simp; omega
theorem read_some {l : List UInt8} {n : Int} (hb : -999999 ≤ n ∧ n ≤ 999999) (h : Lib.itoa n = l) : IsRead l (some n) := ⟨hb, h⟩
theorem read_none_scan {l : List UInt8} {n : Int} (hn : n = (scan 0 0 1 l).2 * (scan 0 0 1 l).1) (h : ¬ ((-999999 ≤ n ∧ n ≤ 999999) ∧ Lib.itoa n = l)) : IsRead l none := by
  intro m h0 h1 he
  have := scan_itoa m h0 h1
  rw [he] at this
  rw [this] at hn
  subst hn
  exact h ⟨⟨h0, h1⟩, he⟩
theorem read_none_len {l : List UInt8} (h : ¬ (1 ≤ (tOf l).length ∧ (tOf l).length ≤ 6)) : IsRead l none := by
  intro m h0 h1 he
  obtain ⟨e1, _⟩ := tOf_itoa m h0 h1
  rw [he] at e1
  rw [e1] at h
  have h2 := dec_len6 m.natAbs (by omega)
  have h3 := List.length_pos_iff.2 (dec_ne_nil m.natAbs)
  omega
theorem read_none_dig {l : List UInt8} {k : Nat} {c : UInt8} (hk : (tOf l)[k]? = some c) (h : c.toNat < 48 ∨ 57 < c.toNat) : IsRead l none := by
  intro m h0 h1 he
  obtain ⟨e1, _⟩ := tOf_itoa m h0 h1
  rw [he] at e1
  have := dec_dig m.natAbs c (by rw [← e1]; exact List.mem_of_getElem? hk)
  omega
theorem read_none_val {l : List UInt8} {n : Int} (hn : n = if (tOf l).length < l.length then -(valF 0 (tOf l)) else valF 0 (tOf l)) (h : Lib.itoa n ≠ l) : IsRead l none := by
  intro m h0 h1 he
  obtain ⟨e1, e2⟩ := tOf_itoa m h0 h1
  rw [he] at e1 e2
  rw [e1, dec_val] at hn
  apply h
  rw [← he]
  congr 1
  rw [hn, ← e1]
  by_cases hm : m < 0
  · rw [if_pos (e2.2 hm)]; omega
  · rw [if_neg (fun x => hm (e2.1 x))]; omega
end Go.Proofs.YtlmnkkodfnlbmaaDoor
