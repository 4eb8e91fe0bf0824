/- The model's rows: joined, with one more load, and what is kept of them. -/
import Derived.Test.YthncgcdnljoakaaRows1
import Derived.Test.YthncgcdnljoakaaMergePlain
namespace Go.Proofs.Ythncgcdnljoakaa
open Go.RowKit
/-- A row of loads at an address. -/
def SRow (w : World) (v : Value) (xs : List (Int × Int)) : Prop :=
  ∃ g off c, v = .slice (some ⟨g, off, none⟩) xs.length c ∧ (xs = [] ∨ g < w.heap.size) ∧ ∀ j, j < xs.length → w.cell? ⟨g, off + j * 2, none⟩ = some (.int .i64 (xs.getD j (0, 0)).1) ∧ w.cell? ⟨g, off + j * 2 + 1, none⟩ = some (.int .i64 (xs.getD j (0, 0)).2)
theorem SRow.load {w : World} {v : Value} {xs : List (Int × Int)} (h : SRow w v xs) : LoadRow w v xs := by
  obtain ⟨g, off, c, rfl, h0, hc⟩ := h
  refine ⟨_, c, rfl, ?_⟩
  rcases h0 with h0 | h0
  · exact .inl h0
  · exact .inr ⟨g, off, rfl, h0, hc⟩
theorem SRow.lo {w w' : World} {v : Value} {xs : List (Int × Int)} (h : SRow w v xs) (l : Below w.heap.size w w') : SRow w' v xs := by
  obtain ⟨g, off, c, rfl, h0, hc⟩ := h
  refine ⟨g, off, c, rfl, ?_, fun j hj => ?_⟩
  · rcases h0 with h0 | h0
    · exact .inl h0
    · exact .inr (Nat.lt_of_lt_of_le h0 l.size)
  · rcases h0 with h0 | h0
    · subst h0; simp at hj
    · rw [l.cell (p := ⟨g, off + j * 2, none⟩) h0, l.cell (p := ⟨g, off + j * 2 + 1, none⟩) h0]; exact hc j hj
theorem sRow_own {w : World} {B : Nat} {v : Value} {xs : List (Int × Int)} (h : OwnL w B v xs) (hv : v ≠ .slice none 0 0) : SRow w v xs := by
  have h' := h
  unfold OwnL at h'
  rcases h'.2 with ⟨rfl, _⟩ | ⟨g, cap, cur, rfl, _, hb, _⟩
  · exact absurd rfl hv
  · refine ⟨g, 0, cap, rfl, .inr (Array.getElem?_eq_some_iff.1 hb).1, fun j hj => ?_⟩
    have hc := cellsF_at xs j hj
    rw [Nat.zero_add, h'.cellAt (j * 2) (by omega), h'.cellAt (j * 2 + 1) (by omega)]
    exact hc
theorem sRow_to {w : World} {g n c : Nat} {xs : List (Int × Int)} (h : LoadRow w (.slice (some ⟨g, 0, none⟩) n c) xs) : SRow w (.slice (some ⟨g, 0, none⟩) n c) xs := by
  obtain ⟨a, c', e, h⟩ := h
  cases e
  rcases h with h | ⟨g', off, e, hg, hc⟩
  · subst h; exact ⟨g, 0, c, rfl, .inl rfl, fun j hj => by simp at hj⟩
  · cases e
    exact ⟨g, 0, c, rfl, .inr hg, hc⟩
theorem row_news {w w1 : World} {g off : Nat} {ys : List (Int × Int)} (hg : ys = [] ∨ g < w.heap.size) (h : ∀ j u, (cellsF ys)[j]? = some u → w.cell? ((⟨g, off, none⟩ : Addr).add j) = some u) (l : Below w.heap.size w w1) :
    ∀ j u, (cellsF ys)[j]? = some u → w1.cell? ((⟨g, off, none⟩ : Addr).add j) = some u := fun j u hj => by
  rcases hg with rfl | hg
  · simp [cellsF] at hj
  · have := h j u hj
    rw [Go.WideShapes.add_plain] at this ⊢
    rw [l.cell (p := ⟨g, off + j, none⟩) hg]
    exact this
theorem own_empty (w : World) : (w.alloc (.cells #[] 78)).ownsRow w.heap.size 78 2 (.slice (some ⟨w.heap.size, 0, none⟩) 0 0) 0 (cellsF []) := World.ownsRow_lit w #[] 0 (Nat.le_refl _) (by decide) rfl
theorem ownL_app {w : World} {B n m : Nat} {v : Value} {xs ys : List (Int × Int)} (h : w.ownsRow B 78 2 v (n + m) (cellsF xs ++ cellsF ys)) (hn : xs.length = n) (hm : ys.length = m) : OwnL w B v (xs ++ ys) := by
  unfold OwnL
  rw [List.length_append, hn, hm, cellsF_app]
  exact h
end Go.Proofs.Ythncgcdnljoakaa
