/- The contracts of the law's own functions on slices of slices of integers. -/
import Derived.Test.YtcfbnadefdcjaaaTabs
import Derived.Test.YtcfbnadefdcjaaaIntLaw
import Derived.Deep.RegionHeld3
namespace Go.Proofs.Ytcfbnadefdcjaaa
open Go.RowKit
theorem lo_tab {a b c : World} (h : Below a.heap.size a b) (k : Below b.heap.size b c) : Below a.heap.size a c := h.trans (k.mono h.size)
def SzI (n : Nat) (z : Int) (w : World) (e : Ending) (w' : World) : Prop := ∃ y : Int, e = .returned (.int .i64 y) ∧ w = w' ∧ (y < 0 ∨ (0 ≤ y ∧ y = z - n))
def SzT (xss : List (List Int)) (w : World) (e : Ending) (w' : World) : Prop := ∃ y : Int, e = .returned (.int .i64 y) ∧ w = w' ∧ (y < 0 ∨ (0 ≤ y ∧ SmallT xss))
theorem infoIntS : (Try.prog.info? 29).map (fun i => (i.zero, i.size, i.bytes)) = some (some (.slice none 0 0), 1, 24) := by kernel_rfl
theorem make_tab (n : Nat) (hn : n ≤ 2000000) (u : World) :
    (Instr.makeSlice 93 (.int .i64 (n : Int)) (.int .i64 (n : Int))).run Try.prog u = .ok (.slice (some ⟨u.heap.size, 0, none⟩) n n) (u.alloc (.cells (madeCells #[.slice none 0 0] n) 29)) := by
  obtain ⟨i0, hi, hz0, hz1, hz2⟩ := info_parts infoIntS
  have h := run_make (P := Try.prog) u 93 29 i0 (.slice none 0 0) Try.underlying93 hi hz0 .i64 .i64 (n : Int) (n : Int) (by omega) (Int.le_refl _) (by rw [hz2]; omega) (by omega)
  simpa [hz1, Value.cells] using h
theorem made_tab (m j : Nat) (h : j < m) : (madeCells #[.slice none 0 0] m)[j]? = some (.slice none 0 0) := by
  rw [← Array.getElem?_toList, toList_madeCells_one]; simp [h]
/-- The first k rows stand in block g and behind it, up to block hi. -/
def RowsT (w : World) (g hi k : Nat) (xss : List (List Int)) : Prop :=
  ∃ (u : Nat → Value) (b : Nat → Nat), g < b 0 ∧ b k = hi ∧ ∀ j, j < k → b j ≤ b (j + 1) ∧ w.cell? ⟨g, j, none⟩ = some (u j) ∧ MineI w (b j) (b (j + 1)) (u j) (xss.getD j [])
theorem RowsT.next {w w1 w2 : World} {g k n : Nat} {xss : List (List Int)} {v : Value} (h : RowsT w g w.heap.size k xss) (hg : g < w.heap.size) (hk : k < n) (l : Below w.heap.size w w1) (m : MineI w1 w.heap.size w1.heap.size v (xss.getD k []))
    {y : Value} (hy : w1.cell? ⟨g, k, none⟩ = some y) (e : w2 = w1.setCell ⟨g, k, none⟩ v) : RowsT w2 g w2.heap.size (k + 1) xss := by
  obtain ⟨u, b, b0, bk, hr⟩ := h
  have hs : w2.heap.size = w1.heap.size := by rw [e]; simp [World.setCell]
  have o := one_set w1 g k v hy
  have hl := l.size
  have p : Part g (g + 1) w1 w2 := by rw [e]; exact (only_set w1 g k v).part (Nat.le_refl _) (by omega)
  have hm := mono_b (fun j hj => (hr j hj).1)
  refine ⟨fun j => if j = k then v else u j, fun j => if j ≤ k then b j else w1.heap.size, by simp only [Nat.zero_le, if_true]; exact b0, by simp only [show ¬ (k + 1 ≤ k) by omega, if_false, hs], fun j hj => ?_⟩
  by_cases ej : j = k
  · subst ej
    simp only [Nat.le_refl, if_true, show ¬ (j + 1 ≤ j) by omega, if_false, bk]
    exact ⟨hl, by rw [e]; exact o.1, m.part p (by omega)⟩
  · have hjk : j < k := by omega
    obtain ⟨r1, r2, r3⟩ := hr j hjk
    have m0 := hm 0 j (Nat.zero_le _) (by omega)
    simp only [show j ≤ k by omega, show j + 1 ≤ k by omega, if_true, if_neg ej]
    exact ⟨r1, by rw [e, o.2 j ej, l.cell (p := ⟨g, j, none⟩) hg]; exact r2, (r3.lo l).part p (by omega)⟩
/-- What stands in the rows while they are marked: the first k marked, the others as they were. -/
def HalfT (w : World) (g k m : Nat) (u : Nat → Value) (b : Nat → Nat) (xss : List (List Int)) : Prop :=
  b xss.length ≤ w.heap.size ∧ ∀ j, j < xss.length → b j ≤ b (j + 1) ∧ w.cell? ⟨g, j, none⟩ = some (u j) ∧
    if j < k then HeldI w (b j) (b (j + 1)) (u j) (xss.getD j []).length (m + cntT (xss.take j)) else MineI w (b j) (b (j + 1)) (u j) (xss.getD j [])
theorem HalfT.next {w w' : World} {g k m : Nat} {u : Nat → Value} {b : Nat → Nat} {xss : List (List Int)} (h : HalfT w g k m u b xss) (hk : k < xss.length) (hg : g < b 0) (p : Part (b k) (b (k + 1)) w w')
    (hh : HeldI w' (b k) (b (k + 1)) (u k) (xss.getD k []).length (m + cntT (xss.take k))) : HalfT w' g (k + 1) m u b xss := by
  obtain ⟨hs, hr⟩ := h
  have hm := mono_b (fun j hj => (hr j hj).1)
  refine ⟨Nat.le_trans hs p.size, fun j hj => ?_⟩
  obtain ⟨r1, r2, r3⟩ := hr j hj
  have m0 := hm 0 k (Nat.zero_le _) (by omega)
  have m1 := hm (k + 1) xss.length (by omega) (Nat.le_refl _)
  have m2 := hm 0 xss.length (Nat.zero_le _) (Nat.le_refl _)
  have m3 := (hr k hk).1
  refine ⟨r1, by rw [p.cell (p := ⟨g, j, none⟩) (by simp only; omega) (by simp only; omega)]; exact r2, ?_⟩
  by_cases ej : j = k
  · subst ej
    rw [if_pos (by omega)]
    exact hh
  · by_cases hjk : j < k
    · have m4 := hm (j + 1) k (by omega) (by omega)
      rw [if_pos hjk] at r3
      rw [if_pos (by omega)]
      exact r3.part p (by omega)
    · have m4 := hm (k + 1) j (by omega) (by omega)
      rw [if_neg hjk] at r3
      rw [if_neg (by omega)]
      exact r3.part p (by omega)
end Go.Proofs.Ytcfbnadefdcjaaa
