/- Mob6, as one text. -/
import Derived.Test.YthncgcdnljoakaaG16
import Derived.Test.YthncgcdnljoakaaG19
namespace Go.Proofs.Ythncgcdnljoakaa
open Go.RowKit
theorem ownsRow_grown {w w' : World} {B : Nat} {e : TypeId} {s : Nat} {v : Value} {n : Nat} {xs : List Value} {row : Option Nat} (h : w.ownsRow B e s v n xs) (hg : w.grownBy w' row) (hne : ∀ g, v.ownBlock = some g → row ≠ some g) : w'.ownsRow B e s v n xs := by
  refine ⟨h.1, ?_⟩
  rcases h.2 with h | ⟨g, cap, cur, e, hb, hh, r⟩
  · exact .inl h
  · subst e
    exact .inr ⟨g, cap, cur, rfl, hb, (hg.block g (Array.getElem?_eq_some_iff.1 hh).1 (fun e => hne g rfl e.symm)).trans hh, r⟩
theorem ownsRow_set {w : World} {B : Nat} {e : TypeId} {s : Nat} {v : Value} {n : Nat} {xs : List Value} (h : w.ownsRow B e s v n xs) (g o : Nat) (u : Value) (hne : v.ownBlock ≠ some g) : (w.setCell ⟨g, o, none⟩ u).ownsRow B e s v n xs := by
  refine ⟨h.1, ?_⟩
  rcases h.2 with h | ⟨g', cap, cur, e, hb, hg, r⟩
  · exact .inl h
  · subst e
    exact .inr ⟨g', cap, cur, rfl, hb, ((only_set w g o u).block g' (fun e2 => hne (by rw [← e2]; rfl)) (Array.getElem?_eq_some_iff.1 hg).1).trans hg, r⟩
theorem loadRow_a2 {w : World} {B : Nat} {v : Value} {xs : List (Int × Int)} (h' : w.ownsRow B 134 2 v xs.length (cellsF xs)) : LoadRow w v xs := by
  rcases h'.2 with ⟨rfl, h0⟩ | ⟨g, cap, cur, rfl, _, hb, _⟩
  · have : xs = [] := List.length_eq_zero_iff.1 h0
    subst this
    exact ⟨none, 0, rfl, .inl rfl⟩
  · refine ⟨_, cap, rfl, .inr ⟨g, 0, rfl, (Array.getElem?_eq_some_iff.1 hb).1, fun j hj => ?_⟩⟩
    have hc := cellsF_at xs j hj
    rw [Nat.zero_add, h'.cellAt (j * 2) (by omega), h'.cellAt (j * 2 + 1) (by omega)]
    exact hc
/-- The box at b names two rows of pairs of a call's own. -/
structure Out2 (w : World) (b : Nat) (u v : Value) (xs ys : List (Int × Int)) : Prop where
  box : Box2 w b u v
  fz : ∀ j, w.frozen? ⟨b, j, none⟩ = false
  r1 : w.ownsRow (b + 1) 134 2 u xs.length (cellsF xs)
  r2 : w.ownsRow (b + 1) 134 2 v ys.length (cellsF ys)
  ap : ∀ g, u.ownBlock = some g → v.ownBlock ≠ some g
theorem out2_new (w : World) : Out2 (w.alloc (.cells #[.slice none 0 0, .slice none 0 0] 62)) w.heap.size (.slice none 0 0) (.slice none 0 0) [] [] :=
  ⟨box2_new _ _ _ _, fun _ => World.frozen?_alloc_at _ _ _ _ rfl, World.ownsRow_nil _ _ _ _, World.ownsRow_nil _ _ _ _, fun g h => by cases h⟩
theorem Out2.lo {w w' : World} {b : Nat} {u v : Value} {xs ys : List (Int × Int)} (h : Out2 w b u v xs ys) (l : Below w.heap.size w w') : Out2 w' b u v xs ys :=
  ⟨h.box.lo l, fun j => by rw [l.frozen (p := ⟨b, j, none⟩) h.box.1]; exact h.fz j, ownsRow_lo h.r1 l, ownsRow_lo h.r2 l, h.ap⟩
theorem Out2.form {w : World} {b : Nat} {u v : Value} {xs ys : List (Int × Int)} (h : Out2 w b u v xs ys) : ∃ a c a' c', u = .slice a xs.length c ∧ v = .slice a' ys.length c' := by
  obtain ⟨a, c, e1⟩ := own_slice h.r1
  obtain ⟨a', c', e2⟩ := own_slice h.r2
  exact ⟨a, c, a', c', e1, e2⟩
theorem set2_0 (w : World) (b : Nat) {x y : Value} (h : Box2 w b x y) (u : Value) : Box2 (w.setCell ⟨b, 0, none⟩ u) b u y := by
  obtain ⟨h0, h1, h2⟩ := h
  have s := one_set w b 0 u h1
  exact ⟨by simpa using h0, s.1, by rw [s.2 1 (by omega)]; exact h2⟩
theorem set2_1 (w : World) (b : Nat) {x y : Value} (h : Box2 w b x y) (u : Value) : Box2 (w.setCell ⟨b, 1, none⟩ u) b x u := by
  obtain ⟨h0, h1, h2⟩ := h
  have s := one_set w b 1 u h2
  exact ⟨by simpa using h0, by rw [s.2 0 (by omega)]; exact h1, s.1⟩
theorem box2_block {w w' : World} {b : Nat} {x y : Value} (h : Box2 w b x y) (hz : w.heap.size ≤ w'.heap.size) (q : w'.heap[b]? = w.heap[b]?) : Box2 w' b x y :=
  ⟨Nat.lt_of_lt_of_le h.1 hz, by rw [World.cell?_of_block q]; exact h.2.1, by rw [World.cell?_of_block q]; exact h.2.2⟩
theorem cell_al {w : World} {o : Obj} {b j : Nat} {x : Value} (hb : b < w.heap.size) (h : w.cell? ⟨b, j, none⟩ = some x) : (w.alloc o).drew.cell? ⟨b, j, none⟩ = some x := (World.cell?_of_block (Below.heap_alloc _ _ _ hb)).trans h
theorem frz_al {w : World} {o : Obj} {b j : Nat} (hb : b < w.heap.size) (h : w.frozen? ⟨b, j, none⟩ = false) : (w.alloc o).drew.frozen? ⟨b, j, none⟩ = false := (World.frozen?_of_block (Below.heap_alloc _ _ _ hb)).trans h
theorem al (w : World) (o : Obj) : Below w.heap.size w (w.alloc o) := (Below.refl _ _).alloc (Nat.le_refl _) o
theorem lo_b {a w w' : World} {b : Nat} (h : Below b a w) (l : Below w.heap.size w w') (hb : b ≤ w.heap.size) : Below b a w' := h.trans (l.mono hb)
/-- A row of one pair, just made. -/
def Lit2 (w : World) (g : Nat) (y x : Int) : Prop := g < w.heap.size ∧ w.heap[g]? = some (.cells #[.int .i64 y, .int .i64 x] 134 (0, 0))
theorem lit2_new (w : World) (y x : Int) : Lit2 (w.alloc (.cells #[.int .i64 y, .int .i64 x] 134)) w.heap.size y x := ⟨by simp, heap_alloc_new w _⟩
def App2 (w : World) (b f : Nat) (u : Value) : Prop := w.cell? ⟨b, f, none⟩ = some u ∧ w.frozen? ⟨b, f, none⟩ = false
section
variable {w w1 : World} {b k g4 cap : Nat} {u v : Value} {xs ys : List (Int × Int)} {p q : Int}
/-- One more pair in the first row. -/
theorem Out2.app1 (h : Out2 w b u v xs ys) (hk : xs.length = k) (hown : w1.ownsRow (b + 1) 134 2 (.slice (some ⟨g4, 0, none⟩) (k + 1) cap) (k + 1) (cellsF xs ++ [.int .i64 p, .int .i64 q])) (hgrow : w.grownBy w1 u.ownBlock) (hat : u.ownBlock = some g4 ∨ g4 = w.heap.size) :
    App2 w1 b 0 u ∧ Out2 (w1.setCell ⟨b, 0, none⟩ (.slice (some ⟨g4, 0, none⟩) (k + 1) cap)) b (.slice (some ⟨g4, 0, none⟩) (k + 1) cap) v (xs ++ [(p, q)]) ys := by
  have hb := h.box.1
  have hz : w.heap.size ≤ w1.heap.size := hgrow.size
  have hub : ∀ g, u.ownBlock = some g → b + 1 ≤ g := fun g e => (h.r1.lt g e).1
  have hvb : ∀ g, v.ownBlock = some g → b + 1 ≤ g ∧ g < w.heap.size := fun g e => h.r2.lt g e
  have hb1 : w1.heap[b]? = w.heap[b]? := hgrow.block b (by omega) (fun e => by have := hub b e.symm; omega)
  have g4b : b + 1 ≤ g4 := by
    rcases hat with e | e
    · exact hub _ e
    · omega
  have hv4 : ∀ g, v.ownBlock = some g → g ≠ g4 := fun g e e4 => by
    subst e4
    rcases hat with e' | e'
    · exact h.ap g e' e
    · have := (hvb g e).2; omega
  refine ⟨⟨(World.cell?_of_block (a := ⟨b, 0, none⟩) hb1).trans h.box.2.1, (World.frozen?_of_block (a := ⟨b, 0, none⟩) hb1).trans (h.fz 0)⟩, set2_0 _ _ (box2_block h.box (by omega) hb1) _, fun j => by rw [World.frozen?_setCell, World.frozen?_of_block (a := ⟨b, j, none⟩) hb1]; exact h.fz j, ?_, ?_, fun g e => fun e' => hv4 g e' (Option.some.inj e).symm⟩
  · rw [List.length_append, hk, cellsF_app]
    exact ownsRow_set hown b 0 _ (fun e => by have e2 : g4 = b := Option.some.inj e; omega)
  · exact ownsRow_set (ownsRow_grown h.r2 hgrow (fun g e e' => h.ap g e' e)) b 0 _ (fun e => by have := (hvb b e).1; omega)
/-- One more pair in the second row. -/
theorem Out2.app2 (h : Out2 w b u v xs ys) (hk : ys.length = k) (hown : w1.ownsRow (b + 1) 134 2 (.slice (some ⟨g4, 0, none⟩) (k + 1) cap) (k + 1) (cellsF ys ++ [.int .i64 p, .int .i64 q])) (hgrow : w.grownBy w1 v.ownBlock) (hat : v.ownBlock = some g4 ∨ g4 = w.heap.size) :
    App2 w1 b 1 v ∧ Out2 (w1.setCell ⟨b, 1, none⟩ (.slice (some ⟨g4, 0, none⟩) (k + 1) cap)) b u (.slice (some ⟨g4, 0, none⟩) (k + 1) cap) xs (ys ++ [(p, q)]) := by
  have hb := h.box.1
  have hz : w.heap.size ≤ w1.heap.size := hgrow.size
  have hub : ∀ g, u.ownBlock = some g → b + 1 ≤ g ∧ g < w.heap.size := fun g e => h.r1.lt g e
  have hvb : ∀ g, v.ownBlock = some g → b + 1 ≤ g := fun g e => (h.r2.lt g e).1
  have hb1 : w1.heap[b]? = w.heap[b]? := hgrow.block b (by omega) (fun e => by have := hvb b e.symm; omega)
  have g4b : b + 1 ≤ g4 := by
    rcases hat with e | e
    · exact hvb _ e
    · omega
  have hu4 : ∀ g, u.ownBlock = some g → g ≠ g4 := fun g e e4 => by
    subst e4
    rcases hat with e' | e'
    · exact h.ap g e e'
    · have := (hub g e).2; omega
  refine ⟨⟨(World.cell?_of_block (a := ⟨b, 1, none⟩) hb1).trans h.box.2.2, (World.frozen?_of_block (a := ⟨b, 1, none⟩) hb1).trans (h.fz 1)⟩, set2_1 _ _ (box2_block h.box (by omega) hb1) _, fun j => by rw [World.frozen?_setCell, World.frozen?_of_block (a := ⟨b, j, none⟩) hb1]; exact h.fz j, ?_, ?_, fun g e => fun e' => hu4 g e (Option.some.inj e').symm⟩
  · exact ownsRow_set (ownsRow_grown h.r1 hgrow (fun g e e' => h.ap g e e')) b 1 _ (fun e => by have := (hub b e).1; omega)
  · rw [List.length_append, hk, cellsF_app]
    exact ownsRow_set hown b 1 _ (fun e => by have e2 : g4 = b := Option.some.inj e; omega)
end
def swapL (xs : List (Int × Int)) : List (Int × Int) := xs.map (fun p => (p.2, p.1))
noncomputable def mirM (m : MobV) : MobV := if goodB m = true then ⟨swapL m.am, swapL m.hu⟩ else nilM
theorem swap_snoc (xs : List (Int × Int)) (k : Nat) (hk : k < xs.length) : swapL (xs.take (k + 1)) = swapL (xs.take k) ++ [((xs.getD k (0, 0)).2, (xs.getD k (0, 0)).1)] := by
  unfold swapL
  rw [List.take_add_one, List.getElem?_eq_getElem hk, List.getD, List.getElem?_eq_getElem hk, List.map_append]
  rfl
theorem swap_len (xs : List (Int × Int)) : (swapL xs).length = xs.length := List.length_map ..
end Go.Proofs.Ythncgcdnljoakaa
