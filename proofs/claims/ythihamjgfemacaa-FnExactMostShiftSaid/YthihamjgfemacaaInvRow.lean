/- Rows and single elements that operations of one region make, each in a block of its own. -/
import Derived.Test.YthihamjgfemacaaInv
import Derived.Test.YthihamjgfemacaaOut5
import Derived.Deep.AppendLies
namespace Go.Proofs.Ythihamjgfemacaa
open Go.RowKit
/-- A row of its own at block g. -/
def OwnB (w : World) (B g cap n : Nat) (xs : List Int) : Prop := B ≤ g ∧ g < w.heap.size ∧ w.ownsRow B 3 1 (.slice (some ⟨g, 0, none⟩) n cap) n (icells xs)
theorem OwnB.keep {w w' : World} {B g cap n : Nat} {xs : List Int} (h : OwnB w B g cap n xs) (hz : w.heap.size ≤ w'.heap.size) (hg : w'.heap[g]? = w.heap[g]?) : OwnB w' B g cap n xs := by
  obtain ⟨h1, h2, h3, h4⟩ := h
  refine ⟨h1, by omega, h3, ?_⟩
  rcases h4 with h | ⟨g', cap', cur, e, hb, hq, r⟩
  · exact .inl h
  · cases e
    exact .inr ⟨g, cap, cur, rfl, hb, hg.trans hq, r⟩
theorem OwnB.lo {w w' : World} {B g cap n : Nat} {xs : List Int} (h : OwnB w B g cap n xs) (l : Below w.heap.size w w') : OwnB w' B g cap n xs := h.keep l.size (l.block g h.2.1)
theorem OwnB.grown {w w' : World} {B g g2 cap n : Nat} {xs : List Int} (h : OwnB w B g cap n xs) (q : w.grownBy w' (some g2)) (hne : g ≠ g2) : OwnB w' B g cap n xs :=
  h.keep q.size (q.block g h.2.1 (fun e => hne (Option.some.inj e)))
theorem OwnB.part {w w' : World} {B g cap n B' E' : Nat} {xs : List Int} (h : OwnB w B g cap n xs) (q : Part B' E' w w') (ho : g < B' ∨ E' ≤ g) : OwnB w' B g cap n xs := h.keep q.size (q.block g h.2.1 ho)
theorem OwnB.base {w : World} {B B' g cap n : Nat} {xs : List Int} (h : OwnB w B g cap n xs) (hb : B' ≤ B) : OwnB w B' g cap n xs := by
  obtain ⟨h1, h2, h3, h4⟩ := h
  refine ⟨by omega, h2, h3, ?_⟩
  rcases h4 with h | ⟨g', cap', cur, e, hb', r⟩
  · exact .inl h
  · exact .inr ⟨g', cap', cur, e, by omega, r⟩
/-- Such a row lies in its own block. -/
theorem OwnB.mine {w : World} {B g cap n : Nat} {xs : List Int} (h : OwnB w B g cap n xs) (hn : xs.length = n) : MineI w g (g + 1) (.slice (some ⟨g, 0, none⟩) n cap) xs := by
  subst hn
  have hb : w.ownsRow g 3 1 (.slice (some ⟨g, 0, none⟩) xs.length cap) xs.length (icells xs) := by
    obtain ⟨_, _, h3, h4⟩ := h
    refine ⟨h3, ?_⟩
    rcases h4 with h | ⟨g', cap', cur, e, hb', r⟩
    · exact .inl h
    · cases e
      exact .inr ⟨g, cap, cur, rfl, Nat.le_refl _, r⟩
  rcases mine_own hb with q | ⟨g', c', e, q1, q2, q3, q4, q5⟩
  · exact .inl q
  · cases e
    exact .inr ⟨g, cap, rfl, Nat.le_refl _, Nat.lt_succ_self _, h.2.1, q4, q5⟩
theorem own_open {w : World} {B n : Nat} {u : Value} {xs : List Int} (h : OwnI w B u xs) (hn : xs.length = n) (h1 : 1 ≤ n) : ∃ g cap, u = .slice (some ⟨g, 0, none⟩) n cap ∧ B ≤ g ∧ OwnB w B g cap n xs := by
  subst hn
  unfold OwnI at h
  obtain ⟨g, cap, rfl, hb, hl⟩ := h.form (by omega)
  exact ⟨g, cap, rfl, hb, hb, hl, h⟩
/-- A row of one element, just made. -/
def LitB (w : World) (g : Nat) (x : Int) : Prop := g < w.heap.size ∧ w.heap[g]? = some (.cells #[.int .i64 x] 3 (0, 0))
theorem LitB.lo {w w' : World} {g : Nat} {x : Int} (h : LitB w g x) (l : Below w.heap.size w w') : LitB w' g x := ⟨Nat.lt_of_lt_of_le h.1 l.size, (l.block g h.1).trans h.2⟩
theorem LitB.grown {w w' : World} {g g2 : Nat} {x : Int} (h : LitB w g x) (q : w.grownBy w' (some g2)) (hne : g ≠ g2) : LitB w' g x := ⟨Nat.lt_of_lt_of_le h.1 q.size, (q.block g h.1 (fun e => hne (Option.some.inj e))).trans h.2⟩
theorem lit_new (w : World) (x : Int) : LitB (w.alloc (.cells #[.int .i64 x] 3)) w.heap.size x := ⟨by simp, heap_alloc_new w _⟩
theorem icells_app (xs : List Int) (x : Int) : icells (xs ++ [x]) = icells xs ++ [.int .i64 x] := by unfold icells; rw [List.map_append]; rfl
theorem hat_ge {g4 g7 H B k n : Nat} (hat : (Value.slice (some ⟨g4, 0, none⟩) n k).ownBlock = some g7 ∨ g7 = H) (h1 : B ≤ g4) (h2 : B ≤ H) : B ≤ g7 := by
  rcases hat with h | h
  · have : g4 = g7 := Option.some.inj h
    omega
  · omega
theorem hat_ne {g4 g7 H q k n : Nat} (hat : (Value.slice (some ⟨g4, 0, none⟩) n k).ownBlock = some g7 ∨ g7 = H) (h1 : q ≠ g4) (h2 : q < H) : q ≠ g7 := by
  rcases hat with h | h
  · have : g4 = g7 := Option.some.inj h
    omega
  · omega
/-- A pile whose rows were made anew. -/
def HighPl (w : World) (B : Nat) (v : Value) (p : PileV) : Prop := ∃ a b E1 E2, v = .agg #[.int .i64 p.wd, a, b] ∧ MineI w B E1 a p.ls ∧ MineI w B E2 b p.ws
theorem HighPl.row {w : World} {B : Nat} {v : Value} {p : PileV} (h : HighPl w B v p) : PileRow w v p := by
  obtain ⟨a, b, _, _, e, h1, h2⟩ := h
  exact ⟨a, b, e, h1.row, h2.row⟩
theorem HighPl.part {w w' : World} {B B' E' : Nat} {v : Value} {p : PileV} (h : HighPl w B v p) (q : Part B' E' w w') (ho : E' ≤ B) : HighPl w' B v p := by
  obtain ⟨a, b, E1, E2, e, h1, h2⟩ := h
  exact ⟨a, b, E1, E2, e, h1.part q (.inr ho), h2.part q (.inr ho)⟩
theorem HighPl.lo {w w' : World} {B : Nat} {v : Value} {p : PileV} (h : HighPl w B v p) (l : Below w.heap.size w w') : HighPl w' B v p := by
  obtain ⟨a, b, E1, E2, e, h1, h2⟩ := h
  exact ⟨a, b, E1, E2, e, h1.lo l, h2.lo l⟩
theorem HighPl.kept {w : World} {B : Nat} {v : Value} {p : PileV} (h : HighPl w B v p) : HighPl w B (keptV v p) (keptP true p) := by
  unfold keptV keptP
  rw [Bool.true_and]
  split
  · exact h
  · exact ⟨_, _, B, B, rfl, mineI_nil _ _ _ _ _, mineI_nil _ _ _ _ _⟩
theorem OwnB.high {w : World} {B B' g cap n : Nat} {xs : List Int} (h : OwnB w B g cap n xs) (hn : xs.length = n) (hb : B' ≤ B) : MineI w B' w.heap.size (.slice (some ⟨g, 0, none⟩) n cap) xs :=
  (h.mine hn).mono (by have := h.1; omega) (by have := h.2.1; omega) (Nat.le_refl _)
/-- An empty row, just made. -/
def EmpB (w : World) (B g : Nat) : Prop := B ≤ g ∧ g < w.heap.size ∧ w.heap[g]? = some (.cells #[] 3 (0, 0))
theorem EmpB.lo {w w' : World} {B g : Nat} (h : EmpB w B g) (l : Below w.heap.size w w') : EmpB w' B g := ⟨h.1, Nat.lt_of_lt_of_le h.2.1 l.size, (l.block g h.2.1).trans h.2.2⟩
theorem EmpB.part {w w' : World} {B g B' E' : Nat} (h : EmpB w B g) (q : Part B' E' w w') (ho : g < B' ∨ E' ≤ g) : EmpB w' B g := ⟨h.1, Nat.lt_of_lt_of_le h.2.1 q.size, (q.block g h.2.1 ho).trans h.2.2⟩
theorem emp_new (w : World) {B : Nat} (hB : B ≤ w.heap.size) : EmpB (w.alloc (.cells #[] 3)) B w.heap.size := ⟨hB, by simp, heap_alloc_new w _⟩
/-- A struct of three cells, just made. -/
def BoxB (w : World) (B b : Nat) : Prop := B ≤ b ∧ b < w.heap.size ∧ ∃ x y z, FBox w b x y z
theorem BoxB.lo {w w' : World} {B b : Nat} (h : BoxB w B b) (l : Below w.heap.size w w') : BoxB w' B b := by
  obtain ⟨h1, h2, x, y, z, f⟩ := h
  exact ⟨h1, Nat.lt_of_lt_of_le h2 l.size, x, y, z, f.lo l⟩
end Go.Proofs.Ythihamjgfemacaa
