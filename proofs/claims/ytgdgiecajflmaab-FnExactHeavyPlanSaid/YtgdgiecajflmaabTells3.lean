/- The model's l3Tells. -/
import Derived.Test.YtgdgiecajflmaabTells2
namespace Go.Proofs.Ytgdgiecajflmaab
open Go.RowKit Go.Maps
/-- A row of a table reads so, and does not lie in the table's own block. -/
def InnerR (w : World) (ob : Option Nat) (u : Value) (xs : List Int) : Prop :=
  ∃ a c, u = .slice a xs.length c ∧ (xs = [] ∨ ∃ g off, a = some ⟨g, off, none⟩ ∧ g < w.heap.size ∧ some g ≠ ob ∧ ∀ j, j < xs.length → w.cell? ⟨g, off + j, none⟩ = some (.int .i64 (xs.getD j 0)))
theorem InnerR.row {w : World} {ob : Option Nat} {u : Value} {xs : List Int} (h : InnerR w ob u xs) : IntRow w u xs := by
  obtain ⟨a, c, e, h⟩ := h
  refine ⟨a, c, e, ?_⟩
  rcases h with h | ⟨g, off, e1, h1, _, h2⟩
  · exact .inl h
  · exact .inr ⟨g, off, e1, h1, h2⟩
theorem InnerR.grown {w w' : World} {ob ob' : Option Nat} {u : Value} {xs : List Int} (h : InnerR w ob u xs) (hg : w.grownBy w' ob) (ho : ∀ g, ob' = some g → ob = some g ∨ w.heap.size ≤ g) : InnerR w' ob' u xs := by
  obtain ⟨a, c, e, h⟩ := h
  refine ⟨a, c, e, ?_⟩
  rcases h with h | ⟨g, off, e1, h2, h3, h4⟩
  · exact .inl h
  · refine .inr ⟨g, off, e1, Nat.lt_of_lt_of_le h2 hg.size, fun hh => ?_, fun j hj => ?_⟩
    · rcases ho g hh.symm with e1 | e1
      · exact h3 e1.symm
      · omega
    · rw [World.cell?_of_block (hg.block g h2 h3)]; exact h4 j hj
theorem InnerR.lo {w w' : World} {ob : Option Nat} {u : Value} {xs : List Int} (h : InnerR w ob u xs) (l : Below w.heap.size w w') : InnerR w' ob u xs := by
  obtain ⟨a, c, e, h⟩ := h
  refine ⟨a, c, e, ?_⟩
  rcases h with h | ⟨g, off, e1, h2, h3, h4⟩
  · exact .inl h
  · exact .inr ⟨g, off, e1, Nat.lt_of_lt_of_le h2 l.size, h3, fun j hj => by rw [l.cell (p := ⟨g, off + j, none⟩) h2]; exact h4 j hj⟩
theorem innerR_own {w : World} {B : Nat} {ob : Option Nat} {v : Value} {xs : List Int} (h : OwnI w B v xs) (hob : ∀ g, ob = some g → g < B) : InnerR w ob v xs := by
  unfold OwnI at h
  have h' := h
  rcases h.2 with ⟨e, h0⟩ | ⟨g, cap, cur, e, hb, hg, _⟩
  · exact ⟨none, 0, by rw [e, h0], .inl (List.eq_nil_of_length_eq_zero h0)⟩
  · subst e
    refine ⟨_, cap, rfl, .inr ⟨g, 0, rfl, (Array.getElem?_eq_some_iff.1 hg).1, fun e => ?_, fun j hj => ?_⟩⟩
    · have := hob g e.symm; omega
    · rw [Nat.zero_add, h'.cellAt j (by omega)]; exact icells_at xs j hj
theorem ownsRow_lo {w w' : World} {B : Nat} {e : TypeId} {s : Nat} {v : Value} {n : Nat} {xs : List Value} (h : w.ownsRow B e s v n xs) (l : Below w.heap.size w w') : w'.ownsRow B e s v n xs := by
  refine ⟨h.1, ?_⟩
  rcases h.2 with h | ⟨g, cap, cur, e, hb, hg, r⟩
  · exact .inl h
  · exact .inr ⟨g, cap, cur, e, hb, (l.block g (Array.getElem?_eq_some_iff.1 hg).1).trans hg, r⟩
theorem ownI_slice {w : World} {B : Nat} {u : Value} {xs : List Int} (h : OwnI w B u xs) : ∃ a c, u = .slice a xs.length c := by
  obtain ⟨a, c, e, _⟩ := innerR_own (ob := none) h (fun g hg => by cases hg)
  exact ⟨a, c, e⟩
/-- A table of such rows in memory of the call's own. -/
def OwnTabR (w : World) (B : Nat) (v : Value) (xss : List (List Int)) : Prop :=
  ∃ us : List Value, us.length = xss.length ∧ w.ownsRow B 30 1 v xss.length us ∧ ∀ j, j < xss.length → ∃ u, us[j]? = some u ∧ InnerR w v.ownBlock u (xss.getD j [])
theorem OwnTabR.lo {w w' : World} {B : Nat} {v : Value} {xss : List (List Int)} (h : OwnTabR w B v xss) (l : Below w.heap.size w w') : OwnTabR w' B v xss := by
  obtain ⟨us, hl, hown, hr⟩ := h
  refine ⟨us, hl, ⟨hown.1, ?_⟩, fun j hj => ?_⟩
  · rcases hown.2 with h | ⟨g, cap, cur, e, hb, hg, r⟩
    · exact .inl h
    · exact .inr ⟨g, cap, cur, e, hb, (l.block g (Array.getElem?_eq_some_iff.1 hg).1).trans hg, r⟩
  · obtain ⟨u, hu, hi⟩ := hr j hj
    exact ⟨u, hu, hi.lo l⟩
theorem OwnTabR.open {w : World} {B : Nat} {v : Value} {xss : List (List Int)} (h : OwnTabR w B v xss) (h0 : 0 < xss.length) : ∃ g c, v = .slice (some ⟨g, 0, none⟩) xss.length c ∧ g < w.heap.size ∧ ∀ j, j < xss.length → ∃ u, w.cell? ⟨g, j, none⟩ = some u ∧ IntRow w u (xss.getD j []) := by
  obtain ⟨us, hl, hown, hr⟩ := h
  have hown' := hown
  rcases hown.2 with ⟨_, h1⟩ | ⟨g, cap, cur, rfl, _, hb, _⟩
  · omega
  · refine ⟨g, cap, rfl, (Array.getElem?_eq_some_iff.1 hb).1, fun j hj => ?_⟩
    obtain ⟨u, hu, hi⟩ := hr j hj
    exact ⟨u, by rw [hown'.cellAt j (by omega)]; exact hu, hi.row⟩
/-- One more row, behind a call that made it and an append. -/
theorem tabR_step {w wx w1 w3 : World} {B k : Nat} {v v' u : Value} {xss : List (List Int)} {xs : List Int} {us : List Value} {o : Obj} (hBx : Below B w wx) (l1 : Below wx.heap.size wx w1) (ou : OwnI w1 wx.heap.size u xs) (hk : xss.length = k)
    (hl : us.length = xss.length) (hown : wx.ownsRow B 30 1 v xss.length us) (hr : ∀ j, j < xss.length → ∃ u, us[j]? = some u ∧ InnerR w1 v.ownBlock u (xss.getD j []))
    (hown' : w3.ownsRow B 30 1 v' (k + 1) (us ++ [u])) (hg : (w1.alloc o).grownBy w3 v.ownBlock) (hloc : v'.ownBlock = v.ownBlock ∨ v'.ownBlock = some (w1.alloc o).heap.size) (hB : B ≤ wx.heap.size) :
    OwnTabR w3 B v' (xss ++ [xs]) ∧ Below B w w3 := by
  have AL := (Below.refl w1.heap.size w1).alloc (Nat.le_refl _) o
  have hin : InnerR (w1.alloc o) v.ownBlock u xs := (innerR_own ou (fun g hg => (hown.lt g hg).2)).lo AL
  have hob : ∀ g, v'.ownBlock = some g → v.ownBlock = some g ∨ (w1.alloc o).heap.size ≤ g := fun g hg => by
    rcases hloc with e | e
    · exact .inl (by rw [← e]; exact hg)
    · rw [e] at hg; cases hg; exact .inr (Nat.le_refl _)
  refine ⟨⟨us ++ [u], by rw [List.length_append, List.length_append, hl]; rfl, by rw [List.length_append, hk]; exact hown', fun j hj => ?_⟩, ?_⟩
  · rw [List.length_append] at hj
    simp only [List.length_cons, List.length_nil] at hj
    by_cases e : j < xss.length
    · obtain ⟨y, hy, hi⟩ := hr j e
      refine ⟨y, by rw [List.getElem?_append_left (by omega)]; exact hy, ?_⟩
      have : (xss ++ [xs]).getD j [] = xss.getD j [] := by simp only [List.getD]; rw [List.getElem?_append_left e]
      rw [this]
      exact (hi.lo AL).grown hg hob
    · obtain rfl : j = xss.length := by omega
      refine ⟨u, by rw [List.getElem?_append_right (by omega), hl, Nat.sub_self]; rfl, ?_⟩
      have : (xss ++ [xs]).getD xss.length [] = xs := by simp only [List.getD]; rw [List.getElem?_append_right (Nat.le_refl _), Nat.sub_self]; rfl
      rw [this]
      exact hin.grown hg hob
  · have h1 := hBx.trans (l1.mono hB)
    exact (h1.alloc (by have := l1.size; omega) o).grown hg (by have := l1.size; simp; omega) (fun j hj => (hown.lt j hj).1)
end Go.Proofs.Ytgdgiecajflmaab
