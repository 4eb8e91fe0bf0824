/- Plain facts on bodies without a cell, with one more, and stacked. No program stands here. -/
import Derived.Test.YtmcjichpeijiaaaBoQ
namespace Go.Proofs.Ytmcjichpeijiaaa
/-- All cells but one. -/
def otL (xs : List (Int × Int)) (i : Nat) : List (Int × Int) := xs.take i ++ xs.drop (i + 1)
theorem otL_len {xs : List (Int × Int)} {i : Nat} (h : i < xs.length) : (otL xs i).length + 1 = xs.length := by
  unfold otL; rw [List.length_append, List.length_take, List.length_drop]; omega
theorem otL_sub (xs : List (Int × Int)) (i : Nat) : (otL xs i).Sublist xs := by
  unfold otL
  have h : (xs.take i ++ xs.drop (i + 1)).Sublist (xs.take i ++ xs.drop i) := by
    refine List.Sublist.append (List.Sublist.refl _) ?_
    rw [show xs.drop (i + 1) = (xs.drop i).drop 1 from by rw [List.drop_drop]]
    exact List.drop_sublist _ _
  rwa [List.take_append_drop] at h
theorem otL_nodup {xs : List (Int × Int)} (h : RiseC xs) (i : Nat) : (otL xs i).Nodup := List.Nodup.sublist (otL_sub xs i) h.nodup
/-- When a body without a cell is one. -/
theorem ot_bod {xs : List (Int × Int)} (h : BodF xs) {i : Nat} (hi : i < xs.length) : BodF (downL (otL xs i)) ↔ 1 ≤ (otL xs i).length ∧ ConnC (otL xs i) := by
  rw [down_bod]
  have := otL_len hi
  have := h.short
  exact ⟨fun k => ⟨k.1.1, k.2.2⟩, fun k => ⟨⟨k.1, by omega⟩, otL_nodup h.rise i, k.2⟩⟩
noncomputable def looB (stand : Bool) (xs : List (Int × Int)) (i : Nat) : Bool := bodB (downL (otL xs i)) && (!stand || decide (sideL (downL (otL xs i)) = 0))
/-- The places of all loose cells. -/
noncomputable def looL (stand : Bool) (xs : List (Int × Int)) (n : Nat) : List Int := ((List.range n).filter (looB stand xs)).map fun i : Nat => (i : Int)
theorem looL_succ (stand : Bool) (xs : List (Int × Int)) (n : Nat) : looL stand xs (n + 1) = looL stand xs n ++ (if looB stand xs n = true then [(n : Int)] else []) := by
  unfold looL
  rw [List.range_succ, List.filter_append, List.map_append]
  congr 1
  cases e : looB stand xs n <;> simp [e]
theorem looL_len (stand : Bool) (xs : List (Int × Int)) (n : Nat) : (looL stand xs n).length ≤ n := by
  unfold looL
  rw [List.length_map]
  exact Nat.le_trans (List.length_filter_le _ _) (by simp)
/-- A neighbor of a cell that is not in a list. -/
def edgB (xs : List (Int × Int)) (c : Int × Int) : Bool := xs.any (fun b => nearB b c) && !(xs.contains c)
theorem edgB_iff (xs : List (Int × Int)) (c : Int × Int) : edgB xs c = true ↔ (∃ b ∈ xs, nearB b c = true) ∧ c ∉ xs := by
  unfold edgB
  rw [Bool.and_eq_true, List.any_eq_true, Bool.not_eq_true']
  simp
/-- One column of places aa far aa -1 and 12, told aa the model goes. -/
def colL (p : Int × Int → Bool) (x : Int) (n : Nat) : List (Int × Int) := ((List.range n).map fun j : Nat => (x, (j : Int) - 1)).filter p
def gridL (p : Int × Int → Bool) (n : Nat) : List (Int × Int) := (List.range n).flatMap fun i : Nat => colL p ((i : Int) - 1) 14
theorem colL_succ (p : Int × Int → Bool) (x : Int) (n : Nat) : colL p x (n + 1) = colL p x n ++ (if p (x, (n : Int) - 1) = true then [(x, (n : Int) - 1)] else []) := by
  unfold colL
  rw [List.range_succ, List.map_append, List.filter_append]
  congr 1
  cases e : p (x, (n : Int) - 1) <;> simp [e]
theorem gridL_succ (p : Int × Int → Bool) (n : Nat) : gridL p (n + 1) = gridL p n ++ colL p ((n : Int) - 1) 14 := by
  unfold gridL; rw [List.range_succ, List.flatMap_append]; simp
theorem mem_colL {p : Int × Int → Bool} {x : Int} {n : Nat} {c : Int × Int} : c ∈ colL p x n ↔ p c = true ∧ c.1 = x ∧ -1 ≤ c.2 ∧ c.2 < (n : Int) - 1 := by
  unfold colL
  rw [List.mem_filter, List.mem_map]
  constructor
  · rintro ⟨⟨j, hj, rfl⟩, h⟩
    rw [List.mem_range] at hj
    exact ⟨h, rfl, by simp only; omega, by simp only; omega⟩
  · rintro ⟨h, h1, h2, h3⟩
    exact ⟨⟨(c.2 + 1).toNat, by rw [List.mem_range]; omega, cell_ext h1.symm (by simp only; omega)⟩, h⟩
theorem mem_gridL {p : Int × Int → Bool} {n : Nat} {c : Int × Int} : c ∈ gridL p n ↔ p c = true ∧ (-1 ≤ c.1 ∧ c.1 < (n : Int) - 1) ∧ -1 ≤ c.2 ∧ c.2 ≤ 12 := by
  unfold gridL
  rw [List.mem_flatMap]
  constructor
  · rintro ⟨i, hi, h⟩
    rw [List.mem_range] at hi
    rw [mem_colL] at h
    exact ⟨h.1, by omega, by omega, by omega⟩
  · rintro ⟨h, ⟨h1, h2⟩, h3, h4⟩
    exact ⟨(c.1 + 1).toNat, by rw [List.mem_range]; omega, mem_colL.2 ⟨h, by omega, h3, by omega⟩⟩
theorem colL_rise (p : Int × Int → Bool) (x : Int) (n : Nat) : RiseC (colL p x n) := by
  unfold colL RiseC
  refine List.Pairwise.filter _ ?_
  rw [List.pairwise_map]
  refine List.Pairwise.imp (fun {a b} h => ?_) List.pairwise_lt_range
  rw [bfC_iff]; exact .inr ⟨rfl, by simp only; omega⟩
theorem gridL_rise (p : Int × Int → Bool) (n : Nat) : RiseC (gridL p n) := by
  induction n with
  | zero => simp [gridL, RiseC]
  | succ n ih =>
    rw [gridL_succ]
    unfold RiseC
    rw [List.pairwise_append]
    refine ⟨ih, colL_rise _ _ _, fun a ha b hb => ?_⟩
    rw [mem_gridL] at ha
    rw [mem_colL] at hb
    rw [bfC_iff]; omega
theorem colL_len (p : Int × Int → Bool) (x : Int) (n : Nat) : (colL p x n).length ≤ n := by
  unfold colL; exact Nat.le_trans (List.length_filter_le _ _) (by simp)
theorem gridL_len (p : Int × Int → Bool) (n : Nat) : (gridL p n).length ≤ 14 * n := by
  induction n with
  | zero => simp [gridL]
  | succ n ih => rw [gridL_succ, List.length_append]; have := colL_len p ((n : Int) - 1) 14; omega
/-- All neighbors of a body's cells that are not in it. -/
def edgL (xs : List (Int × Int)) : List (Int × Int) := gridL (edgB xs) 14
theorem BodF.mem_edg {xs : List (Int × Int)} (h : BodF xs) (c : Int × Int) : c ∈ edgL xs ↔ (∃ b ∈ xs, nearB b c = true) ∧ c ∉ xs := by
  unfold edgL
  rw [mem_gridL, edgB_iff]
  constructor
  · exact fun k => k.1
  · intro k
    obtain ⟨b, hb, hn⟩ := k.1
    have := h.hi b hb
    rw [nearB_iff] at hn
    exact ⟨k, by omega, by omega, by omega⟩
theorem edgL_rise (xs : List (Int × Int)) : RiseC (edgL xs) := gridL_rise _ _
/-- One cell more. -/
theorem grow_conn {xs : List (Int × Int)} (h : ConnC xs) {c b : Int × Int} (hb : b ∈ xs) (hn : nearB b c = true) : ConnC (xs ++ [c]) := by
  refine connC_of (a := b) (by simp [hb]) fun d hd => ?_
  rcases List.mem_append.1 hd with hd | hd
  · exact (h b hb d hd).sub fun e he => by simp [he]
  · rw [List.mem_singleton] at hd; subst hd
    exact .step .refl (by simp) hn
theorem grow_bod {xs : List (Int × Int)} (h : BodF xs) (hl : xs.length < 12) {c : Int × Int} (he : edgB xs c = true) : BodF (downL (xs ++ [c])) := by
  rw [edgB_iff] at he
  obtain ⟨⟨b, hb, hn⟩, hc⟩ := he
  rw [down_bod]
  refine ⟨by rw [List.length_append]; simp; omega, ?_, grow_conn h.conn hb hn⟩
  rw [List.nodup_append]
  refine ⟨h.rise.nodup, by simp, fun x hx y hy e => ?_⟩
  rw [List.mem_singleton] at hy
  subst hy; subst e; exact hc hx
theorem grow_same (xs : List (Int × Int)) (c : Int × Int) : downL (putL xs c) = downL (xs ++ [c]) := downL_of (putL_perm xs c)
/-- The cells with one of which more a body stands. -/
def ctsB (xs : List (Int × Int)) (c : Int × Int) : Bool := decide (0 ≤ c.2) && decide (sideL (downL (xs ++ [c])) = 0)
def ctsL (xs : List (Int × Int)) : List (Int × Int) := (edgL xs).filter (ctsB xs)
/-- The four neighbors of a cell, and those of the cells of a list that are not in another one. -/
def nb4 (c : Int × Int) : List (Int × Int) := [(c.1 - 1, c.2), (c.1, c.2 - 1), (c.1, c.2 + 1), (c.1 + 1, c.2)]
theorem mem_nb4 (c d : Int × Int) : d ∈ nb4 c ↔ nearB c d = true := by
  rw [nearB_iff]
  unfold nb4
  simp only [List.mem_cons, List.not_mem_nil, or_false]
  constructor
  · rintro (rfl | rfl | rfl | rfl) <;> simp only <;> omega
  · intro h
    obtain ⟨a, b⟩ := c
    obtain ⟨x, y⟩ := d
    simp only [Prod.mk.injEq] at *
    omega
def nbL (xs : List (Int × Int)) (k : Nat) : List (Int × Int) := (xs.take k).flatMap fun c => (nb4 c).filter fun d => !(xs.contains d)
theorem nbL_succ (xs : List (Int × Int)) (k : Nat) (h : k < xs.length) : nbL xs (k + 1) = nbL xs k ++ (nb4 (xs.getD k (0, 0))).filter fun d => !(xs.contains d) := by
  unfold nbL; rw [take_snocC xs k h, List.flatMap_append]; simp
theorem nbL_len (xs : List (Int × Int)) : ∀ k, (nbL xs k).length ≤ 4 * k := by
  intro k
  unfold nbL
  have key : ∀ l : List (Int × Int), (l.flatMap fun c => (nb4 c).filter fun d => !(xs.contains d)).length ≤ 4 * l.length := by
    intro l
    induction l with
    | nil => simp
    | cons c m ih =>
      rw [List.flatMap_cons, List.length_append, List.length_cons]
      have := List.length_filter_le (fun d => !(xs.contains d)) (nb4 c)
      have e : (nb4 c).length = 4 := rfl
      omega
  have := key (xs.take k)
  rw [List.length_take] at this
  omega
theorem mem_nbL {xs : List (Int × Int)} {d : Int × Int} : d ∈ nbL xs xs.length ↔ (∃ b ∈ xs, nearB b d = true) ∧ d ∉ xs := by
  unfold nbL
  rw [List.take_length, List.mem_flatMap]
  constructor
  · rintro ⟨c, hc, h⟩
    rw [List.mem_filter, mem_nb4] at h
    exact ⟨⟨c, hc, h.1⟩, by simpa using h.2⟩
  · rintro ⟨⟨c, hc, h⟩, hn⟩
    exact ⟨c, hc, List.mem_filter.2 ⟨(mem_nb4 _ _).2 h, by simpa using hn⟩⟩
/-- What rises and has the neighbors of a body's cells is the model's list. -/
theorem edg_same {xs ys : List (Int × Int)} (h : BodF xs) (hr : RiseC ys) (hm : ∀ c, c ∈ ys ↔ c ∈ nbL xs xs.length) : ys = edgL xs :=
  rise_same _ _ hr (edgL_rise xs) fun c => by rw [hm, mem_nbL, h.mem_edg]
/-- By how much a cell must be lifted over another one in the same column, moved to the right by d. -/
def upF (d : Int) (c a : Int × Int) : Int := if a.1 = c.1 + d then a.2 + 1 - c.2 else 0
def lift1 (d : Int) (aa : List (Int × Int)) (c : Int × Int) : Int := aa.foldl (fun u a => if a.1 = c.1 + d then max u (a.2 + 1 - c.2) else u) 0
def meetB (d u : Int) (aa bb : List (Int × Int)) : Bool := bb.any fun c => aa.any fun a => decide (a.1 = c.1 + d) && decide (c.2 + u ≤ a.2)
def liftF (d : Int) (aa bb : List (Int × Int)) : Int := bb.foldl (fun u c => aa.foldl (fun u a => if a.1 = c.1 + d then max u (a.2 + 1 - c.2) else u) u) 0
theorem lift_in (d : Int) (c : Int × Int) : ∀ (aa : List (Int × Int)) (u : Int), u ≤ aa.foldl (fun u a => if a.1 = c.1 + d then max u (a.2 + 1 - c.2) else u) u ∧
    (∀ a ∈ aa, a.1 = c.1 + d → a.2 + 1 - c.2 ≤ aa.foldl (fun u a => if a.1 = c.1 + d then max u (a.2 + 1 - c.2) else u) u) ∧
    (aa.foldl (fun u a => if a.1 = c.1 + d then max u (a.2 + 1 - c.2) else u) u = u ∨ ∃ a ∈ aa, a.1 = c.1 + d ∧ aa.foldl (fun u a => if a.1 = c.1 + d then max u (a.2 + 1 - c.2) else u) u = a.2 + 1 - c.2) := by
  intro aa
  induction aa with
  | nil => intro u; exact ⟨Int.le_refl _, by simp, .inl rfl⟩
  | cons a l ih =>
    intro u
    simp only [List.foldl_cons]
    by_cases h : a.1 = c.1 + d
    · rw [if_pos h]
      obtain ⟨h1, h2, h3⟩ := ih (max u (a.2 + 1 - c.2))
      refine ⟨by omega, fun b hb e => ?_, ?_⟩
      · rcases List.mem_cons.1 hb with rfl | hb
        · omega
        · exact h2 b hb e
      · rcases h3 with h3 | ⟨b, hb, e, h3⟩
        · by_cases hu : a.2 + 1 - c.2 ≤ u
          · exact .inl (by rw [h3]; omega)
          · exact .inr ⟨a, by simp, h, by rw [h3]; omega⟩
        · exact .inr ⟨b, by simp [hb], e, h3⟩
    · rw [if_neg h]
      obtain ⟨h1, h2, h3⟩ := ih u
      refine ⟨h1, fun b hb e => ?_, ?_⟩
      · rcases List.mem_cons.1 hb with rfl | hb
        · exact absurd e h
        · exact h2 b hb e
      · rcases h3 with h3 | ⟨b, hb, e, h3⟩
        · exact .inl h3
        · exact .inr ⟨b, by simp [hb], e, h3⟩
theorem lift_out (d : Int) (aa : List (Int × Int)) : ∀ (bb : List (Int × Int)) (u : Int), u ≤ bb.foldl (fun u c => aa.foldl (fun u a => if a.1 = c.1 + d then max u (a.2 + 1 - c.2) else u) u) u ∧
    (∀ c ∈ bb, ∀ a ∈ aa, a.1 = c.1 + d → a.2 + 1 - c.2 ≤ bb.foldl (fun u c => aa.foldl (fun u a => if a.1 = c.1 + d then max u (a.2 + 1 - c.2) else u) u) u) ∧
    (bb.foldl (fun u c => aa.foldl (fun u a => if a.1 = c.1 + d then max u (a.2 + 1 - c.2) else u) u) u = u ∨ ∃ c ∈ bb, ∃ a ∈ aa, a.1 = c.1 + d ∧ bb.foldl (fun u c => aa.foldl (fun u a => if a.1 = c.1 + d then max u (a.2 + 1 - c.2) else u) u) u = a.2 + 1 - c.2) := by
  intro bb
  induction bb with
  | nil => intro u; exact ⟨Int.le_refl _, by simp, .inl rfl⟩
  | cons c l ih =>
    intro u
    simp only [List.foldl_cons]
    obtain ⟨g1, g2, g3⟩ := lift_in d c aa u
    generalize aa.foldl (fun u a => if a.1 = c.1 + d then max u (a.2 + 1 - c.2) else u) u = v at g1 g2 g3 ⊢
    obtain ⟨h1, h2, h3⟩ := ih v
    refine ⟨by omega, fun b hb a ha e => ?_, ?_⟩
    · rcases List.mem_cons.1 hb with rfl | hb
      · have := g2 a ha e; omega
      · exact h2 b hb a ha e
    · rcases h3 with h3 | ⟨b, hb, a, ha, e, h3⟩
      · rcases g3 with g3 | ⟨a, ha, e, g3⟩
        · exact .inl (by rw [h3, g3])
        · exact .inr ⟨c, by simp, a, ha, e, by rw [h3, g3]⟩
      · exact .inr ⟨b, by simp [hb], a, ha, e, h3⟩
theorem meet_iff (d u : Int) (aa bb : List (Int × Int)) : meetB d u aa bb = true ↔ ∃ c ∈ bb, ∃ a ∈ aa, a.1 = c.1 + d ∧ c.2 + u ≤ a.2 := by
  unfold meetB
  rw [List.any_eq_true]
  simp only [List.any_eq_true, Bool.and_eq_true, decide_eq_true_eq]
/-- A body meets the other one exactly below the lift. -/
theorem lift_meet (d : Int) (aa bb : List (Int × Int)) : 0 ≤ liftF d aa bb ∧ ∀ u, 0 ≤ u → (meetB d u aa bb = true ↔ u < liftF d aa bb) := by
  unfold liftF
  obtain ⟨h1, h2, h3⟩ := lift_out d aa bb 0
  refine ⟨h1, fun u hu => ?_⟩
  rw [meet_iff]
  constructor
  · rintro ⟨c, hc, a, ha, e, h⟩
    have := h2 c hc a ha e; omega
  · intro h
    rcases h3 with h3 | ⟨c, hc, a, ha, e, h3⟩
    · omega
    · exact ⟨c, hc, a, ha, e, by omega⟩
theorem lift_small {d : Int} {aa bb : List (Int × Int)} (ha : ∀ c ∈ aa, c.2 ≤ 11) (hb : ∀ c ∈ bb, 0 ≤ c.2) : liftF d aa bb ≤ 12 := by
  unfold liftF
  obtain ⟨h1, h2, h3⟩ := lift_out d aa bb 0
  rcases h3 with h3 | ⟨c, hc, a, ha', e, h3⟩
  · omega
  · have := ha a ha'; have := hb c hc; omega
/-- All cells of the stack. -/
def stkL (d : Int) (aa bb : List (Int × Int)) : List (Int × Int) := aa ++ bb.map (mvC d (liftF d aa bb))
theorem stk_nodup {d : Int} {aa bb : List (Int × Int)} (ha : aa.Nodup) (hb : bb.Nodup) : (stkL d aa bb).Nodup := by
  unfold stkL
  rw [List.nodup_append]
  refine ⟨ha, (nodup_map (fun _ _ => mvC_inj)).2 hb, fun x hx y hy e => ?_⟩
  subst e
  obtain ⟨c, hc, rfl⟩ := List.mem_map.1 hy
  obtain ⟨h0, hm⟩ := lift_meet d aa bb
  have := (hm (liftF d aa bb) h0).1 ((meet_iff _ _ _ _).2 ⟨c, hc, _, hx, rfl, by unfold mvC; simp only; omega⟩)
  omega
theorem stk_bod {d : Int} {aa bb : List (Int × Int)} (ha : BodF aa) (hb : BodF bb) : BodF (downL (stkL d aa bb)) ↔ (stkL d aa bb).length ≤ 12 ∧ ConnC (stkL d aa bb) := by
  rw [down_bod]
  have h1 := ha.one
  have e : (stkL d aa bb).length = aa.length + bb.length := by simp [stkL]
  exact ⟨fun h => ⟨h.1.2, h.2.2⟩, fun h => ⟨⟨by omega, h.1⟩, stk_nodup ha.rise.nodup hb.rise.nodup, h.2⟩⟩
end Go.Proofs.Ytmcjichpeijiaaa
