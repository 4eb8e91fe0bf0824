/- A struct that the model makes with an empty row, in whatever order. -/
import Derived.Test.YthihamjgfemacaaOwn5
namespace Go.Proofs.Ythihamjgfemacaa
open Go.RowKit
/-- A struct with an empty row and a row of its own, just made, in whatever order. -/
def OutC (W : World) (wd : Int) (ws : List Int) (n : Nat) (u : Value) (w' : World) : Prop := ∃ (b e : Nat) (a : Option Addr) (c B2 E2 : Nat), u = .pointer (some ⟨b, 0, none⟩) ∧ Hid ((W.heap.size ≤ b ∧ W.heap.size ≤ e ∧ e ≠ b ∧ W.heap.size ≤ B2 ∧ (b < B2 ∨ E2 ≤ b) ∧ (e < B2 ∨ E2 ≤ e) ∧ E2 ≤ w'.heap.size) ∧
  FBox w' b (.int .i64 wd) (.slice (some ⟨e, 0, none⟩) 0 0) (.slice a n c) ∧ w'.heap[e]? = some (.cells #[] 3 (0, 0)) ∧ MineI w' B2 E2 (.slice a n c) ws ∧ Below W.heap.size W w')
theorem heap_lo {w w' : World} {e : Nat} {o : Obj} (h : w.heap[e]? = some o) (l : Below w.heap.size w w') : w'.heap[e]? = some o := (l.block e (heap_lt h)).trans h
theorem al (w : World) (o : Obj) : Below w.heap.size w (w.alloc o) := (Below.refl _ _).alloc (Nat.le_refl _) o
theorem fset (w : World) (b : Nat) {x y z : Value} (h : FBox w b x y z) (u v t : Value) : FBox (((w.setCell ⟨b, 0, none⟩ u).setCell ⟨b, 1, none⟩ v).setCell ⟨b, 2, none⟩ t) b u v t :=
  ⟨three_set w b h.1 u v t, fun j => by rw [World.frozen?_setCell, World.frozen?_setCell, World.frozen?_setCell]; exact h.2 j⟩
theorem pset (w : World) (b : Nat) (u v t : Value) : Part b (b + 1) w (((w.setCell ⟨b, 0, none⟩ u).setCell ⟨b, 1, none⟩ v).setCell ⟨b, 2, none⟩ t) :=
  (((only_set w b 0 u).part (Nat.le_refl _) (Nat.lt_succ_self _)).trans ((only_set _ b 1 v).part (Nat.le_refl _) (Nat.lt_succ_self _))).trans ((only_set _ b 2 t).part (Nat.le_refl _) (Nat.lt_succ_self _))
theorem heap_part {w w' : World} {e B E : Nat} {o : Obj} (h : w.heap[e]? = some o) (l : Part B E w w') (hb : e < B ∨ E ≤ e) : w'.heap[e]? = some o := (l.block e (heap_lt h) hb).trans h
theorem mine_block {w w' : World} {B E : Nat} {v : Value} {xs : List Int} (h : MineI w B E v xs) (hz : w.heap.size ≤ w'.heap.size) (hs : ∀ g, B ≤ g → g < E → g < w.heap.size → w'.heap[g]? = w.heap[g]?) : MineI w' B E v xs := by
  rcases h with h | ⟨g, c, e, h1, h2, h3, hc, hf⟩
  · exact .inl h
  · have q := hs g h1 h2 (by omega)
    exact .inr ⟨g, c, e, h1, h2, by omega, fun j hj => by rw [World.cell?_of_block q]; exact hc j hj, fun j => by rw [World.frozen?_of_block q]; exact hf j⟩
theorem ownsRow_set {w : World} {B : Nat} {e : TypeId} {s : Nat} {v : Value} {n : Nat} {xs : List Value} (h : w.ownsRow B e s v n xs) (g o : Nat) (u : Value) (hne : v.ownBlock ≠ some g) : (w.setCell ⟨g, o, none⟩ u).ownsRow B e s v n xs := by
  refine ⟨h.1, ?_⟩
  rcases h.2 with h | ⟨g', cap, cur, e, hb, hg, r⟩
  · exact .inl h
  · subst e
    exact .inr ⟨g', cap, cur, rfl, hb, ((only_set w g o u).block g' (fun e2 => hne (by rw [← e2]; rfl)) (Array.getElem?_eq_some_iff.1 hg).1).trans hg, r⟩
variable {W v5 : World} {wd : Int} {ws : List Int} {n c : Nat} {a : Option Addr}
/-- The box made last. -/
theorem outC_1 (X : World) (e : Nat) (hWX : Below W.heap.size W X) (he : X.heap[e]? = some (.cells #[] 3 (0, 0))) (hWe : W.heap.size ≤ e) (hl : Below X.heap.size X v5) (m5 : MineI v5 X.heap.size v5.heap.size (.slice a n c) ws) : OutC W wd ws n (.pointer (some ⟨v5.heap.size, 0, none⟩)) (v5.alloc (.cells #[.int .i64 wd, .slice (some ⟨e, 0, none⟩) 0 0, .slice a n c] 63)) := by
  have h1 := hWX.size
  have h2 := hl.size
  have h3 := heap_lt he
  exact ⟨_, e, a, c, X.heap.size, v5.heap.size, rfl, Lib.hid ⟨⟨by omega, hWe, by omega, h1, .inr (Nat.le_refl _), .inl h3, by simp⟩, fbox_new _ _ _ _ _, heap_lo (heap_lo he hl) (al _ _), m5.lo (al _ _), (hWX.trans (hl.mono h1)).trans ((al _ _).mono (by omega))⟩⟩
/-- The box made before the call. -/
theorem outC_2 (X : World) (b e : Nat) {x y z : Value} (hWX : Below W.heap.size W X) (he : X.heap[e]? = some (.cells #[] 3 (0, 0))) (hWe : W.heap.size ≤ e) (hb : FBox X b x y z) (hWb : W.heap.size ≤ b) (hne : e ≠ b) (hl : Below X.heap.size X v5) (m5 : MineI v5 X.heap.size v5.heap.size (.slice a n c) ws) : OutC W wd ws n (.pointer (some ⟨b, 0, none⟩)) (((v5.setCell ⟨b, 0, none⟩ (.int .i64 wd)).setCell ⟨b, 1, none⟩ (.slice (some ⟨e, 0, none⟩) 0 0)).setCell ⟨b, 2, none⟩ (.slice a n c)) := by
  have h1 := hWX.size
  have h2 := hl.size
  have h3 := heap_lt he
  have h4 := hb.1.1
  have q := pset v5 b (.int .i64 wd) (.slice (some ⟨e, 0, none⟩) 0 0) (.slice a n c)
  exact ⟨b, e, a, c, X.heap.size, v5.heap.size, rfl, Lib.hid ⟨⟨hWb, hWe, hne, h1, .inl h4, .inl h3, q.size⟩, fset _ _ (hb.lo hl) _ _ _, heap_part (heap_lo he hl) q (by omega), m5.part q (by omega), (hWX.trans (hl.mono h1)).trans ((q.below (by omega)).mono hWb)⟩⟩
/-- Both made behind the call. -/
theorem outC_3 (X : World) (hWX : Below W.heap.size W X) (hl : Below X.heap.size X v5) (m5 : MineI v5 X.heap.size v5.heap.size (.slice a n c) ws) : OutC W wd ws n (.pointer (some ⟨v5.heap.size + 1, 0, none⟩)) ((v5.alloc (.cells #[] 3)).alloc (.cells #[.int .i64 wd, .slice (some ⟨v5.heap.size, 0, none⟩) 0 0, .slice a n c] 63)) := by
  have h1 := hWX.size
  have h2 := hl.size
  have f := fbox_new (v5.alloc (.cells #[] 3)) (.int .i64 wd) (.slice (some ⟨v5.heap.size, 0, none⟩) 0 0) (.slice a n c) 63
  rw [World.size_alloc] at f
  exact ⟨_, v5.heap.size, a, c, X.heap.size, v5.heap.size, rfl, Lib.hid ⟨⟨by omega, by omega, by omega, h1, by omega, by omega, by simp; omega⟩, f, heap_lo (heap_alloc_new v5 _) (al _ _), (m5.lo (al _ _)).lo (al _ _), ((hWX.trans (hl.mono h1)).trans ((al _ _).mono (by omega))).trans ((al _ _).mono (by simp; omega))⟩⟩
theorem outC_4 (X : World) (hWX : Below W.heap.size W X) (hl : Below X.heap.size X v5) (m5 : MineI v5 X.heap.size v5.heap.size (.slice a n c) ws) : OutC W wd ws n (.pointer (some ⟨v5.heap.size, 0, none⟩)) ((v5.alloc (.cells #[.int .i64 wd, .slice (some ⟨v5.heap.size + 1, 0, none⟩) 0 0, .slice a n c] 63)).alloc (.cells #[] 3)) := by
  have h1 := hWX.size
  have h2 := hl.size
  have f := (fbox_new v5 (.int .i64 wd) (.slice (some ⟨v5.heap.size + 1, 0, none⟩) 0 0) (.slice a n c) 63).lo (al _ (.cells #[] 3))
  have g := heap_alloc_new (v5.alloc (.cells #[.int .i64 wd, .slice (some ⟨v5.heap.size + 1, 0, none⟩) 0 0, .slice a n c] 63)) (.cells #[] 3)
  rw [World.size_alloc] at g
  exact ⟨_, v5.heap.size + 1, a, c, X.heap.size, v5.heap.size, rfl, Lib.hid ⟨⟨by omega, by omega, by omega, h1, by omega, by omega, by simp; omega⟩, f, g, (m5.lo (al _ _)).lo (al _ _), ((hWX.trans (hl.mono h1)).trans ((al _ _).mono (by omega))).trans ((al _ _).mono (by simp; omega))⟩⟩
theorem outC_6 (X : World) (b : Nat) {x y z : Value} (hWX : Below W.heap.size W X) (hb : FBox X b x y z) (hWb : W.heap.size ≤ b) (hl : Below X.heap.size X v5) (m5 : MineI v5 X.heap.size v5.heap.size (.slice a n c) ws) : OutC W wd ws n (.pointer (some ⟨b, 0, none⟩)) ((((v5.alloc (.cells #[] 3)).setCell ⟨b, 0, none⟩ (.int .i64 wd)).setCell ⟨b, 1, none⟩ (.slice (some ⟨v5.heap.size, 0, none⟩) 0 0)).setCell ⟨b, 2, none⟩ (.slice a n c)) := by
  have h1 := hWX.size
  have h2 := hl.size
  have h4 := hb.1.1
  have q := pset (v5.alloc (.cells #[] 3)) b (.int .i64 wd) (.slice (some ⟨v5.heap.size, 0, none⟩) 0 0) (.slice a n c)
  exact ⟨b, v5.heap.size, a, c, X.heap.size, v5.heap.size, rfl, Lib.hid ⟨⟨hWb, by omega, by omega, h1, .inl h4, by omega, Nat.le_trans (by simp) q.size⟩, fset _ _ ((hb.lo hl).lo (al _ _)) _ _ _, heap_part (heap_alloc_new v5 _) q (by omega), (m5.lo (al _ _)).part q (by omega), ((hWX.trans (hl.mono h1)).trans ((al _ _).mono (by omega))).trans ((q.below (by simp; omega)).mono hWb)⟩⟩
theorem way_1 (hl : Below (W.alloc (.cells #[] 3)).drew.heap.size (W.alloc (.cells #[] 3)).drew v5) (o5 : OwnI v5 (W.alloc (.cells #[] 3)).drew.heap.size (.slice a n c) ws) : OutC W wd ws n (.pointer (some ⟨v5.heap.size, 0, none⟩)) (v5.alloc (.cells #[.int .i64 wd, .slice (some ⟨W.heap.size, 0, none⟩) 0 0, .slice a n c] 63)) :=
  outC_1 (W.alloc (.cells #[] 3)).drew W.heap.size ((al _ _).drew) (heap_alloc_new W _) (Nat.le_refl _) hl o5.mine
theorem way_2 (hl : Below ((W.alloc (.cells #[] 3)).alloc (.cells #[.int .i64 0, .slice none 0 0, .slice none 0 0] 63)).drew.heap.size ((W.alloc (.cells #[] 3)).alloc (.cells #[.int .i64 0, .slice none 0 0, .slice none 0 0] 63)).drew v5) (o5 : OwnI v5 ((W.alloc (.cells #[] 3)).alloc (.cells #[.int .i64 0, .slice none 0 0, .slice none 0 0] 63)).drew.heap.size (.slice a n c) ws) : OutC W wd ws n (.pointer (some ⟨W.heap.size + 1, 0, none⟩)) (((v5.setCell ⟨W.heap.size + 1, 0, none⟩ (.int .i64 wd)).setCell ⟨W.heap.size + 1, 1, none⟩ (.slice (some ⟨W.heap.size, 0, none⟩) 0 0)).setCell ⟨W.heap.size + 1, 2, none⟩ (.slice a n c)) :=
  outC_2 ((W.alloc (.cells #[] 3)).alloc (.cells #[.int .i64 0, .slice none 0 0, .slice none 0 0] 63)).drew (W.heap.size + 1) W.heap.size (((al _ _).trans ((al _ _).mono (by simp))).drew) (heap_lo (heap_alloc_new W _) ((al _ _).drew)) (Nat.le_refl _) (fbox_c W _ _ _ _ _) (by omega) (by omega) hl o5.mine
theorem way_3 (hl : Below W.drew.heap.size W.drew v5) (o5 : OwnI v5 W.drew.heap.size (.slice a n c) ws) : OutC W wd ws n (.pointer (some ⟨v5.heap.size + 1, 0, none⟩)) ((v5.alloc (.cells #[] 3)).alloc (.cells #[.int .i64 wd, .slice (some ⟨v5.heap.size, 0, none⟩) 0 0, .slice a n c] 63)) :=
  outC_3 W.drew (drew_below W) hl o5.mine
theorem way_4 (hl : Below W.drew.heap.size W.drew v5) (o5 : OwnI v5 W.drew.heap.size (.slice a n c) ws) : OutC W wd ws n (.pointer (some ⟨v5.heap.size, 0, none⟩)) ((v5.alloc (.cells #[.int .i64 wd, .slice (some ⟨v5.heap.size + 1, 0, none⟩) 0 0, .slice a n c] 63)).alloc (.cells #[] 3)) :=
  outC_4 W.drew (drew_below W) hl o5.mine
theorem way_5 (hl : Below ((W.alloc (.cells #[.int .i64 0, .slice none 0 0, .slice none 0 0] 63)).alloc (.cells #[] 3)).drew.heap.size ((W.alloc (.cells #[.int .i64 0, .slice none 0 0, .slice none 0 0] 63)).alloc (.cells #[] 3)).drew v5) (o5 : OwnI v5 ((W.alloc (.cells #[.int .i64 0, .slice none 0 0, .slice none 0 0] 63)).alloc (.cells #[] 3)).drew.heap.size (.slice a n c) ws) : OutC W wd ws n (.pointer (some ⟨W.heap.size, 0, none⟩)) (((v5.setCell ⟨W.heap.size, 0, none⟩ (.int .i64 wd)).setCell ⟨W.heap.size, 1, none⟩ (.slice (some ⟨W.heap.size + 1, 0, none⟩) 0 0)).setCell ⟨W.heap.size, 2, none⟩ (.slice a n c)) :=
  outC_2 ((W.alloc (.cells #[.int .i64 0, .slice none 0 0, .slice none 0 0] 63)).alloc (.cells #[] 3)).drew W.heap.size (W.heap.size + 1) (((al _ _).trans ((al _ _).mono (by simp))).drew) (by have := heap_alloc_new (W.alloc (.cells #[.int .i64 0, .slice none 0 0, .slice none 0 0] 63)) (.cells #[] 3); rw [World.size_alloc] at this; exact this) (by omega) (fbox_b W _ _ _ _ _) (Nat.le_refl _) (by omega) hl o5.mine
theorem way_6 (hl : Below (W.alloc (.cells #[.int .i64 0, .slice none 0 0, .slice none 0 0] 63)).drew.heap.size (W.alloc (.cells #[.int .i64 0, .slice none 0 0, .slice none 0 0] 63)).drew v5) (o5 : OwnI v5 (W.alloc (.cells #[.int .i64 0, .slice none 0 0, .slice none 0 0] 63)).drew.heap.size (.slice a n c) ws) : OutC W wd ws n (.pointer (some ⟨W.heap.size, 0, none⟩)) ((((v5.alloc (.cells #[] 3)).setCell ⟨W.heap.size, 0, none⟩ (.int .i64 wd)).setCell ⟨W.heap.size, 1, none⟩ (.slice (some ⟨v5.heap.size, 0, none⟩) 0 0)).setCell ⟨W.heap.size, 2, none⟩ (.slice a n c)) :=
  outC_6 (W.alloc (.cells #[.int .i64 0, .slice none 0 0, .slice none 0 0] 63)).drew W.heap.size ((al _ _).drew) (fbox_a W _ _ _ _) (Nat.le_refl _) hl o5.mine
end Go.Proofs.Ythihamjgfemacaa
