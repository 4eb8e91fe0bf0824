/- Tables of lists of numbers whose every list is the call's own. -/
import Derived.Test.YtcfbnadefdcjaaaSr1
namespace Go.Proofs.Ytcfbnadefdcjaaa
open Go.RowKit
/-- A list of a table reads so, is the call's own, and does not lie in the table's own block. -/
def InnerM (w : World) (B : Nat) (ob : Option Nat) (u : Value) (xs : List Int) : Prop :=
  ∃ g c, u = .slice (some ⟨g, 0, none⟩) xs.length c ∧ B ≤ g ∧ g < w.heap.size ∧ some g ≠ ob ∧ (∀ j, j < xs.length → w.cell? ⟨g, j, none⟩ = some (.int .i64 (xs.getD j 0))) ∧ (∀ j, w.frozen? ⟨g, j, none⟩ = false) ∧ xs.length ≤ c
theorem InnerM.row {w : World} {B : Nat} {ob : Option Nat} {u : Value} {xs : List Int} (h : InnerM w B ob u xs) : RowS w u xs := by
  obtain ⟨g, c, e, _, h1, _, h2, _⟩ := h
  exact ⟨g, 0, c, e, h1, fun j hj => by rw [Nat.zero_add]; exact h2 j hj⟩
theorem InnerM.mine {w : World} {B : Nat} {ob : Option Nat} {u : Value} {xs : List Int} (h : InnerM w B ob u xs) : MineI w B w.heap.size u xs := by
  obtain ⟨g, c, e, h0, h1, _, h2, h3, _⟩ := h
  exact .inr ⟨g, c, e, h0, h1, Nat.le_refl _, h2, h3⟩
theorem InnerM.grown {w w' : World} {B : Nat} {ob ob' : Option Nat} {u : Value} {xs : List Int} (h : InnerM w B ob u xs) (hg : w.grownBy w' ob) (ho : ∀ g, ob' = some g → ob = some g ∨ w.heap.size ≤ g) : InnerM w' B ob' u xs := by
  obtain ⟨g, c, e, h0, h2, h3, h4, h5, h6⟩ := h
  refine ⟨g, c, e, h0, Nat.lt_of_lt_of_le h2 hg.size, fun hh => ?_, fun j hj => ?_, fun j => ?_, h6⟩
  · rcases ho g hh.symm with e1 | e1
    · exact h3 e1.symm
    · omega
  · rw [World.cell?_of_block (hg.block g h2 h3)]; exact h4 j hj
  · rw [World.frozen?_of_block (hg.block g h2 h3)]; exact h5 j
theorem InnerM.lo {w w' : World} {B : Nat} {ob : Option Nat} {u : Value} {xs : List Int} (h : InnerM w B ob u xs) (l : Below w.heap.size w w') : InnerM w' B ob u xs := by
  obtain ⟨g, c, e, h0, h2, h3, h4, h5, h6⟩ := h
  exact ⟨g, c, e, h0, Nat.lt_of_lt_of_le h2 l.size, h3, fun j hj => by rw [l.cell (p := ⟨g, j, none⟩) h2]; exact h4 j hj, fun j => by rw [l.frozen (p := ⟨g, j, none⟩) h2]; exact h5 j, h6⟩
/-- A table of such lists, with its cells. -/
def OwnTabM (w : World) (B : Nat) (v : Value) (xss : List (List Int)) (us : List Value) : Prop :=
  us.length = xss.length ∧ w.ownsRow B 29 1 v xss.length us ∧ v ≠ .slice none 0 0 ∧ ∀ j, j < xss.length → ∃ u, us[j]? = some u ∧ InnerM w B v.ownBlock u (xss.getD j [])
theorem OwnTabM.lo {w w' : World} {B : Nat} {v : Value} {xss : List (List Int)} {us : List Value} (h : OwnTabM w B v xss us) (l : Below w.heap.size w w') : OwnTabM w' B v xss us := by
  obtain ⟨hl, hown, hnn, hr⟩ := h
  refine ⟨hl, ⟨hown.1, ?_⟩, hnn, fun j hj => ?_⟩
  · rcases hown.2 with h | ⟨g, cap, cur, e, hb, hg, r⟩
    · exact .inl h
    · exact .inr ⟨g, cap, cur, e, hb, (l.block g (Array.getElem?_eq_some_iff.1 hg).1).trans hg, r⟩
  · obtain ⟨u, hu, hi⟩ := hr j hj
    exact ⟨u, hu, hi.lo l⟩
theorem OwnTabM.open {w : World} {B : Nat} {v : Value} {xss : List (List Int)} {us : List Value} (h : OwnTabM w B v xss us) : ∃ g c, v = .slice (some ⟨g, 0, none⟩) xss.length c ∧ B ≤ g ∧ g < w.heap.size ∧ ∀ j, j < xss.length → ∃ u, us[j]? = some u ∧ w.cell? ⟨g, j, none⟩ = some u ∧ InnerM w B v.ownBlock u (xss.getD j []) := by
  obtain ⟨hl, hown, hnn, hr⟩ := h
  have hown' := hown
  rcases hown.2 with ⟨rfl, h0⟩ | ⟨g, cap, cur, rfl, hb0, hb, _⟩
  · exact absurd rfl hnn
  · refine ⟨g, cap, rfl, hb0, (Array.getElem?_eq_some_iff.1 hb).1, fun j hj => ?_⟩
    obtain ⟨u, hu, hi⟩ := hr j hj
    exact ⟨u, hu, by rw [hown'.cellAt j (by omega)]; exact hu, hi⟩
/-- One more list. -/
theorem ownTabM_snoc {w w1 : World} {B k : Nat} {v v' u : Value} {xss : List (List Int)} {xs : List Int} {us : List Value} (hl : us.length = xss.length) (hk : xss.length = k) (hown : w1.ownsRow B 29 1 v' (k + 1) (us ++ [u]))
    (hg : w.grownBy w1 v.ownBlock) (hob : ∀ g, v'.ownBlock = some g → v.ownBlock = some g ∨ w.heap.size ≤ g) (hr : ∀ j, j < xss.length → ∃ u, us[j]? = some u ∧ InnerM w B v.ownBlock u (xss.getD j [])) (hu : InnerM w B v.ownBlock u xs) : OwnTabM w1 B v' (xss ++ [xs]) (us ++ [u]) := by
  have hnn : v' ≠ .slice none 0 0 := fun e => by
    subst e
    rcases hown.2 with ⟨_, h⟩ | ⟨g, cap, cur, h, _⟩
    · omega
    · cases h
  refine ⟨by rw [List.length_append, List.length_append, hl]; rfl, by rw [List.length_append, hk]; exact hown, hnn, fun j hj => ?_⟩
  rw [List.length_append] at hj
  simp only [List.length_cons, List.length_nil] at hj
  by_cases e : j < xss.length
  · obtain ⟨y, hy, hi⟩ := hr j e
    refine ⟨y, by rw [List.getElem?_append_left (by omega)]; exact hy, ?_⟩
    have : (xss ++ [xs]).getD j [] = xss.getD j [] := by simp only [List.getD]; rw [List.getElem?_append_left e]
    rw [this]
    exact hi.grown hg hob
  · obtain rfl : j = xss.length := by omega
    refine ⟨u, by rw [List.getElem?_append_right (by omega), hl, Nat.sub_self]; rfl, ?_⟩
    have : (xss ++ [xs]).getD xss.length [] = xs := by simp only [List.getD]; rw [List.getElem?_append_right (Nat.le_refl _), Nat.sub_self]; rfl
    rw [this]
    exact hu.grown hg hob
theorem ownI_innerM {w : World} {B C : Nat} {ob : Option Nat} {v : Value} {xs : List Int} (h : OwnI w B v xs) (hx : 0 < xs.length) (hob : ∀ g, ob = some g → g < B) (hC : C ≤ B) : InnerM w C ob v xs := by
  unfold OwnI at h
  have h' := h
  rcases h.2 with ⟨_, h0⟩ | ⟨g, cap, cur, rfl, hb, hg, hnc, _⟩
  · omega
  · refine ⟨g, cap, rfl, by omega, (Array.getElem?_eq_some_iff.1 hg).1, fun e => ?_, fun j hj => ?_, fun j => h'.frozenAt j, hnc⟩
    · have := hob g e.symm; omega
    · rw [h'.cellAt j (by omega)]; exact icells_at xs j hj
theorem first_tabM (w : World) (B : Nat) (hB : B ≤ w.heap.size) : OwnTabM ((w.alloc (.cells #[] 3)).alloc (.cells #[.slice (some ⟨w.heap.size, 0, none⟩) 0 0] 29)) B (.slice (some ⟨w.heap.size + 1, 0, none⟩) 1 1) [[]] [.slice (some ⟨w.heap.size, 0, none⟩) 0 0] := by
  have hs : (w.alloc (.cells #[] 3)).heap.size = w.heap.size + 1 := by simp
  refine ⟨rfl, ?_, by simp, fun j hj => ?_⟩
  · have := World.ownsRow_lit (base := B) (e := 29) (size := 1) (w.alloc (.cells #[] 3)) #[.slice (some ⟨w.heap.size, 0, none⟩) 0 0] 1 (by rw [hs]; omega) (by decide) rfl
    rw [hs] at this
    exact this
  · have : j = 0 := by simpa using hj
    subst this
    refine ⟨.slice (some ⟨w.heap.size, 0, none⟩) 0 0, rfl, w.heap.size, 0, rfl, hB, by simp; omega, fun h => ?_, fun j hj => by simp at hj, fun j => ?_, Nat.le_refl _⟩
    · have : w.heap.size = w.heap.size + 1 := Option.some.inj h
      omega
    · rw [((Below.refl (w.alloc (.cells #[] 3)).heap.size (w.alloc (.cells #[] 3))).alloc (Nat.le_refl _) _).frozen (p := ⟨w.heap.size, j, none⟩) (by simp)]
      exact World.frozen?_alloc_at _ _ _ _ rfl
/-- No two lists lie in one block. -/
def OwnTabD (w : World) (B : Nat) (v : Value) (xss : List (List Int)) (us : List Value) : Prop := OwnTabM w B v xss us ∧ us.Pairwise (fun a b => a.ownBlock ≠ b.ownBlock)
theorem OwnTabD.lo {w w' : World} {B : Nat} {v : Value} {xss : List (List Int)} {us : List Value} (h : OwnTabD w B v xss us) (l : Below w.heap.size w w') : OwnTabD w' B v xss us := ⟨h.1.lo l, h.2⟩
theorem OwnTabM.far {w : World} {B : Nat} {v : Value} {xss : List (List Int)} {us : List Value} (h : OwnTabM w B v xss us) : ∀ x, x ∈ us → ∃ g, x.ownBlock = some g ∧ g < w.heap.size := by
  obtain ⟨hl, _, _, hr⟩ := h
  intro x hx
  obtain ⟨j, hj, rfl⟩ := List.mem_iff_getElem.1 hx
  obtain ⟨u, hu, g, c, e, _, hg, _⟩ := hr j (by omega)
  rw [List.getElem?_eq_getElem hj] at hu
  cases hu
  exact ⟨g, by rw [e]; rfl, hg⟩
/-- One more list, in a block that is new. -/
theorem apart_snoc {us : List Value} {u : Value} {n g : Nat} (h : us.Pairwise (fun a b => a.ownBlock ≠ b.ownBlock)) (hf : ∀ x, x ∈ us → ∃ g, x.ownBlock = some g ∧ g < n) (hu : u.ownBlock = some g) (hg : n ≤ g) : (us ++ [u]).Pairwise (fun a b => a.ownBlock ≠ b.ownBlock) := by
  rw [List.pairwise_append]
  refine ⟨h, List.pairwise_singleton _ _, fun a ha b hb => ?_⟩
  rw [List.mem_singleton] at hb
  subst hb
  obtain ⟨k, hk, hlt⟩ := hf a ha
  rw [hk, hu]
  intro e
  have := Option.some.inj e
  omega
/-- Between the two appends of a round. -/
theorem asc_mid {w wx w2 : World} {u v2 : Value} {xss : List (List Int)} {us : List Value} {m : Nat} {xs : List Int} {sg : Int} {o : Obj} (HO : OwnTabD wx w.heap.size u xss us) (L0 : Below w.heap.size w wx) (hx : xs.length = m)
    (h2 : w2.ownsRow (wx.alloc o).heap.size 3 1 v2 (m + 1) (icells xs ++ [.int .i64 sg])) (hg : (wx.alloc o).grownBy w2 none) :
    InnerM w2 w.heap.size u.ownBlock v2 (xs ++ [sg]) ∧ OwnTabD w2 w.heap.size u xss us ∧ Below w.heap.size w w2 ∧ wx.heap.size + 1 ≤ w2.heap.size := by
  have L : Below wx.heap.size wx w2 := ((Below.refl _ _).alloc (Nat.le_refl _) o).grown hg (by simp) (fun j hj => by cases hj)
  refine ⟨ownI_innerM (ownI_snoc h2 hx) (by simp) (fun g hg => ?_) (by have := L0.size; simp; omega), HO.lo L, L0.trans (L.mono L0.size), by have := hg.size; simpa using this⟩
  have := (HO.1.2.1.lt g hg).2
  simp
  omega
end Go.Proofs.Ytcfbnadefdcjaaa
