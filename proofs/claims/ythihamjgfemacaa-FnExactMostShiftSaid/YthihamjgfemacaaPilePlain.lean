/- Plain facts on piles of bricks. No program stands here. -/
import Derived.Test.YthihamjgfemacaaKitPlain
import Derived.Test.YthihamjgfemacaaRowPlain
namespace Go.Proofs.Ythihamjgfemacaa
structure PileV where
  wd : Int
  ls : List Int
  ws : List Int
structure PileF (p : PileV) : Prop where
  w1 : 1 ≤ p.wd
  w2 : p.wd ≤ 24
  one : 1 ≤ p.ls.length
  short : p.ls.length ≤ 8
  same : p.ws.length = p.ls.length
  each : ∀ j, j < p.ls.length → (-99 ≤ p.ls.getD j 0 ∧ p.ls.getD j 0 ≤ 99) ∧ 1 ≤ p.ws.getD j 0 ∧ p.ws.getD j 0 ≤ 99
noncomputable def pileB (p : PileV) : Bool := propB (PileF p)
/-- The list has at most so many elements: what the walks ask of a pile that comes in. -/
def SmallP (p : PileV) : Prop := p.ls.length ≤ 2000000 ∧ p.ws.length ≤ 2000000
def nilP : PileV := ⟨0, [], []⟩
theorem PileF.small {p : PileV} (h : PileF p) : SmallP p := ⟨by have := h.short; omega, by have := h.short; have := h.same; omega⟩
theorem smallP_nil : SmallP nilP := ⟨by simp [nilP], by simp [nilP]⟩
def momP (wd : Int) : List Int → List Int → Int
  | l :: ls, w :: ws => w * (2 * l + wd) + momP wd ls ws
  | _, _ => 0
def weiP : List Int → Int
  | w :: ws => w + weiP ws
  | [] => 0
theorem momP_snoc (wd : Int) (l w : Int) : ∀ (ls ws : List Int), ls.length = ws.length → momP wd (ls ++ [l]) (ws ++ [w]) = momP wd ls ws + w * (2 * l + wd) := by
  intro ls
  induction ls with
  | nil =>
    intro ws h
    match ws, h with
    | [], _ => simp [momP]
  | cons a ls ih =>
    intro ws h
    match ws, h with
    | b :: ws, h =>
      simp only [List.cons_append, momP]
      rw [ih ws (by simpa using h)]
      omega
theorem weiP_snoc (w : Int) : ∀ ws : List Int, weiP (ws ++ [w]) = weiP ws + w := by
  intro ws
  induction ws with
  | nil => simp [weiP]
  | cons a ws ih => simp only [List.cons_append, weiP]; rw [ih]; omega
theorem take_snocP (xs : List Int) (k : Nat) (h : k < xs.length) : xs.take (k + 1) = xs.take k ++ [xs.getD k 0] := by
  rw [List.take_add_one, List.getElem?_eq_getElem h, List.getD, List.getElem?_eq_getElem h]; rfl
theorem momP_take (wd : Int) (ls ws : List Int) (k : Nat) (h : k < ls.length) (e : ws.length = ls.length) : momP wd (ls.take (k + 1)) (ws.take (k + 1)) = momP wd (ls.take k) (ws.take k) + ws.getD k 0 * (2 * ls.getD k 0 + wd) := by
  rw [take_snocP ls k h, take_snocP ws k (by omega), momP_snoc _ _ _ _ _ (by simp [List.length_take]; omega)]
theorem weiP_take (ws : List Int) (k : Nat) (h : k < ws.length) : weiP (ws.take (k + 1)) = weiP (ws.take k) + ws.getD k 0 := by
  rw [take_snocP ws k h, weiP_snoc]
theorem getD_dropP (xs : List Int) (i j : Nat) : (xs.drop i).getD j 0 = xs.getD (i + j) 0 := by
  simp [List.getD, List.getElem?_drop]
theorem weiP_bound (ws : List Int) (h : ∀ j, j < ws.length → 1 ≤ ws.getD j 0 ∧ ws.getD j 0 ≤ 99) : ∀ k, k ≤ ws.length → (k : Int) ≤ weiP (ws.take k) ∧ weiP (ws.take k) ≤ 99 * k := by
  intro k
  induction k with
  | zero => intro _; simp [weiP]
  | succ k ih =>
    intro hk
    have h1 := ih (by omega)
    have h2 := h k (by omega)
    rw [weiP_take ws k (by omega)]
    constructor <;> omega
theorem prod_bound (w l wd : Int) (h1 : 1 ≤ w) (h2 : w ≤ 99) (l1 : -99 ≤ l) (l2 : l ≤ 99) (d1 : 1 ≤ wd) (d2 : wd ≤ 24) : -22000 ≤ w * (2 * l + wd) ∧ w * (2 * l + wd) ≤ 22000 := by
  generalize hx : 2 * l + wd = x
  have x1 : -197 ≤ x := by omega
  have x2 : x ≤ 222 := by omega
  have a := Int.mul_le_mul_of_nonneg_left x2 (show 0 ≤ w by omega)
  have b := Int.mul_le_mul_of_nonneg_left x1 (show 0 ≤ w by omega)
  constructor <;> omega
/-- The upper part of a brick. -/
structure UpF (wd : Int) (ls ws : List Int) : Prop where
  w1 : 1 ≤ wd
  w2 : wd ≤ 24
  short : ls.length ≤ 8
  same : ws.length = ls.length
  each : ∀ j, j < ls.length → (-99 ≤ ls.getD j 0 ∧ ls.getD j 0 ≤ 99) ∧ 1 ≤ ws.getD j 0 ∧ ws.getD j 0 ≤ 99
theorem PileF.up {p : PileV} (h : PileF p) (i : Nat) : UpF p.wd (p.ls.drop i) (p.ws.drop i) :=
  ⟨h.w1, h.w2, by simp only [List.length_drop]; have := h.short; omega, by simp only [List.length_drop]; rw [h.same], fun j hj => by
    rw [getD_dropP, getD_dropP]
    simp only [List.length_drop] at hj
    exact h.each (i + j) (by omega)⟩
theorem momP_bound {wd : Int} {ls ws : List Int} (h : UpF wd ls ws) : ∀ k, k ≤ ls.length → -22000 * (k : Int) ≤ momP wd (ls.take k) (ws.take k) ∧ momP wd (ls.take k) (ws.take k) ≤ 22000 * k := by
  intro k
  induction k with
  | zero => intro _; simp [momP]
  | succ k ih =>
    intro hk
    have h1 := ih (by omega)
    obtain ⟨⟨a, b⟩, c, d⟩ := h.each k (by omega)
    have h2 := prod_bound _ _ _ c d a b h.w1 h.w2
    rw [momP_take wd ls ws k (by omega) h.same]
    constructor <;> omega
theorem UpF.wei {wd : Int} {ls ws : List Int} (h : UpF wd ls ws) (k : Nat) (hk : k ≤ ls.length) : (k : Int) ≤ weiP (ws.take k) ∧ weiP (ws.take k) ≤ 99 * k :=
  weiP_bound ws (fun j hj => (h.each j (by have := h.same; omega)).2) k (by have := h.same; omega)
/-- The sum over an upper part, and its weight. -/
def upSum (p : PileV) (i : Nat) : Int := momP p.wd (p.ls.drop i) (p.ws.drop i)
def upWei (p : PileV) (i : Nat) : Int := weiP (p.ws.drop i)
theorem upSum_bounds {p : PileV} (h : PileF p) (i : Nat) (hi : i < p.ls.length) : -176000 ≤ upSum p i ∧ upSum p i ≤ 176000 ∧ 1 ≤ upWei p i ∧ upWei p i ≤ 792 := by
  have u := h.up i
  have m := momP_bound u (p.ls.drop i).length (Nat.le_refl _)
  have v := u.wei (p.ls.drop i).length (Nat.le_refl _)
  rw [List.take_length, show (p.ls.drop i).length = (p.ws.drop i).length from u.same.symm, List.take_length] at m
  rw [show (p.ls.drop i).length = (p.ws.drop i).length from u.same.symm, List.take_length] at v
  have hl := u.short
  have hs := u.same
  have hone : 1 ≤ (p.ws.drop i).length := by rw [hs]; simp only [List.length_drop]; omega
  unfold upSum upWei
  refine ⟨?_, ?_, ?_, ?_⟩ <;> omega
/-- The contact of a brick. -/
def lowF (p : PileV) (i : Nat) : Int := if i = 0 then p.ls.getD 0 0 else if p.ls.getD (i - 1) 0 < p.ls.getD i 0 then p.ls.getD i 0 else p.ls.getD (i - 1) 0
def highF (p : PileV) (i : Nat) : Int := if i = 0 then (if p.ls.getD 0 0 + p.wd < 0 then p.ls.getD 0 0 + p.wd else 0) else (if p.ls.getD i 0 < p.ls.getD (i - 1) 0 then p.ls.getD i 0 else p.ls.getD (i - 1) 0) + p.wd
def meetB (p : PileV) (i : Nat) : Bool := decide (lowF p i ≤ highF p i)
def holdsB (p : PileV) (i : Nat) : Bool := decide (lowF p i ≤ highF p i) && (decide (2 * upWei p i * lowF p i ≤ upSum p i) && decide (upSum p i ≤ 2 * upWei p i * highF p i))
theorem contact_bounds {p : PileV} (h : PileF p) (i : Nat) (hi : i < p.ls.length) : -99 ≤ lowF p i ∧ lowF p i ≤ 99 ∧ -99 ≤ highF p i ∧ highF p i ≤ 123 := by
  have a := (h.each 0 (by omega)).1
  have b := (h.each i hi).1
  have c := (h.each (i - 1) (by omega)).1
  have := h.w1
  have := h.w2
  unfold lowF highF
  refine ⟨?_, ?_, ?_, ?_⟩ <;> (repeat' split) <;> omega
/-- A fraction against a number: by its cut form, or as it is. -/
theorem cut_ge (a b x : Int) (hb : 0 < b) : x * cutB a b ≤ cutA a b ↔ b * x ≤ a := by
  have h := cut_mul a b
  have g := gc_pos a b hb
  generalize cutA a b = u at *
  generalize cutB a b = v at *
  generalize gcF a b = c at *
  obtain ⟨h1, h2⟩ := h
  subst h1
  subst h2
  have e : v * c * x = (x * v) * c := by rw [Int.mul_comm (v * c) x, Int.mul_assoc]
  rw [e]
  exact ⟨fun k => Int.mul_le_mul_of_nonneg_right k (by omega), fun k => Int.le_of_mul_le_mul_right k g⟩
theorem cut_le (a b x : Int) (hb : 0 < b) : cutA a b ≤ x * cutB a b ↔ a ≤ b * x := by
  have h := cut_mul a b
  have g := gc_pos a b hb
  generalize cutA a b = u at *
  generalize cutB a b = v at *
  generalize gcF a b = c at *
  obtain ⟨h1, h2⟩ := h
  subst h1
  subst h2
  have e : v * c * x = (x * v) * c := by rw [Int.mul_comm (v * c) x, Int.mul_assoc]
  rw [e]
  exact ⟨fun k => Int.mul_le_mul_of_nonneg_right k (by omega), fun k => Int.le_of_mul_le_mul_right k g⟩
theorem cut_size (a b : Int) (hb : 0 < b) (n : Nat) (ha : a.natAbs ≤ n) (hb2 : b.natAbs ≤ n) : -(n : Int) ≤ cutA a b ∧ cutA a b ≤ n ∧ 1 ≤ cutB a b ∧ cutB a b ≤ n := by
  have h := cut_mul a b
  have g := gc_pos a b hb
  have ha' : (cutA a b).natAbs ≤ a.natAbs := by unfold cutA; rw [Int.natAbs_tdiv]; exact Nat.div_le_self _ _
  have hb' : (cutB a b).natAbs ≤ b.natAbs := by unfold cutB; rw [Int.natAbs_tdiv]; exact Nat.div_le_self _ _
  have hp : 0 < cutB a b := by
    rcases Int.lt_or_le 0 (cutB a b) with k | k
    · exact k
    · have : cutB a b * gcF a b ≤ 0 := Int.mul_nonpos_of_nonpos_of_nonneg k (by omega)
      omega
  refine ⟨?_, ?_, ?_, ?_⟩ <;> omega
/-- The highest brick that does not hold, as one past it; 0 if all hold. -/
def looseF (p : PileV) : Nat → Nat
  | 0 => 0
  | n + 1 => if holdsB p n then looseF p n else n + 1
def looseP (p : PileV) : Nat := looseF p p.ls.length
theorem looseF_le (p : PileV) : ∀ n, looseF p n ≤ n := by
  intro n
  induction n with
  | zero => exact Nat.le_refl _
  | succ n ih => unfold looseF; split <;> omega
theorem looseF_zero (p : PileV) : ∀ n, looseF p n = 0 ↔ ∀ i, i < n → holdsB p i = true := by
  intro n
  induction n with
  | zero => simp [looseF]
  | succ n ih =>
    unfold looseF
    cases h : holdsB p n with
    | true =>
      simp only [if_true]
      rw [ih]
      exact ⟨fun k i hi => by rcases Nat.lt_or_ge i n with e | e; exact k i e; have : i = n := by omega
                              subst this; exact h, fun k i hi => k i (by omega)⟩
    | false =>
      simp only [Bool.false_eq_true, if_false]
      exact ⟨fun k => by omega, fun k => by have := k n (by omega); rw [h] at this; cases this⟩
noncomputable def firmB (p : PileV) : Bool := pileB p && decide (looseP p = 0)
/-- The overhang. -/
def overF (wd : Int) : List Int → Int → Int
  | [], m => m
  | l :: ls, m => overF wd ls (if m < l + wd then l + wd else m)
/-- What is made of piles. -/
def movedP (p : PileV) (by_ : Int) : PileV := ⟨p.wd, p.ls.map (· + by_), p.ws⟩
def mirP (p : PileV) : PileV := ⟨p.wd, p.ls.map (fun l => 2 * p.ls.getD 0 0 - l), p.ws⟩
def topP (p : PileV) (left weight : Int) : PileV := ⟨p.wd, p.ls ++ [left], p.ws ++ [weight]⟩
def dropP (p : PileV) : PileV := ⟨p.wd, p.ls.dropLast, p.ws.dropLast⟩
noncomputable def keptP (b : Bool) (p : PileV) : PileV := if b && pileB p then p else nilP
theorem keptP_small (b : Bool) (p : PileV) : SmallP (keptP b p) := by
  unfold keptP
  split
  · rename_i h
    simp only [Bool.and_eq_true] at h
    exact ((propB_iff _).1 h.2).small
  · exact smallP_nil
end Go.Proofs.Ythihamjgfemacaa
