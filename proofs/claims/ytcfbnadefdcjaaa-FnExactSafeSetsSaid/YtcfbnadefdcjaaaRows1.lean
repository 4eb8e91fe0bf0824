/- Rows of loads in memory of a call's own, and the model's rows: moved, joined, with one more load. -/
import Derived.Test.YtcfbnadefdcjaaaSpec1
import Derived.Deep.AppendLies
import Derived.WalkSpells
namespace Go.Proofs.Ytcfbnadefdcjaaa
open Go.RowKit
def cellsF : List (Int × Int) → List Value
  | [] => []
  | x :: l => .int .i64 x.1 :: .int .i64 x.2 :: cellsF l
theorem cellsF_len (xs : List (Int × Int)) : (cellsF xs).length = xs.length * 2 := by
  induction xs with
  | nil => rfl
  | cons x l ih => simp only [cellsF, List.length_cons, ih]; omega
theorem cellsF_app (xs ys : List (Int × Int)) : cellsF (xs ++ ys) = cellsF xs ++ cellsF ys := by
  induction xs with
  | nil => rfl
  | cons x l ih => simp only [List.cons_append, cellsF, ih]
theorem cellsF_at (xs : List (Int × Int)) : ∀ j, j < xs.length → (cellsF xs)[j * 2]? = some (.int .i64 (xs.getD j (0, 0)).1) ∧ (cellsF xs)[j * 2 + 1]? = some (.int .i64 (xs.getD j (0, 0)).2) := by
  induction xs with
  | nil => intro j h; simp at h
  | cons x l ih =>
    intro j h
    cases j with
    | zero => exact ⟨rfl, rfl⟩
    | succ j =>
      have := ih j (by simpa using h)
      rw [show (j + 1) * 2 = j * 2 + 1 + 1 by omega, show j * 2 + 1 + 1 + 1 = (j * 2 + 1) + 1 + 1 by omega]
      simpa [cellsF, List.getD] using this
theorem cellsF_one (xs : List (Int × Int)) : ∀ u ∈ cellsF xs, u.oneCell' = true := by
  induction xs with
  | nil => intro u h; cases h
  | cons x l ih =>
    intro u h
    simp only [cellsF, List.mem_cons] at h
    rcases h with rfl | rfl | h
    · rfl
    · rfl
    · exact ih u h
/-- The slice value v is a row of loads in memory of the call's own. -/
def OwnL (w : World) (B : Nat) (v : Value) (xs : List (Int × Int)) : Prop := w.ownsRow B 84 2 v xs.length (cellsF xs)
theorem loadRow_own {w : World} {B : Nat} {v : Value} {xs : List (Int × Int)} (h : OwnL w B v xs) : LoadRow w v xs := by
  have h' := h
  unfold OwnL at h'
  rcases h'.2 with ⟨rfl, h0⟩ | ⟨g, cap, cur, rfl, _, hb, _⟩
  · have : xs = [] := List.length_eq_zero_iff.1 h0
    subst this
    exact ⟨none, 0, rfl, .inl rfl⟩
  · refine ⟨_, cap, rfl, .inr ⟨g, 0, rfl, (Array.getElem?_eq_some_iff.1 hb).1, fun j hj => ?_⟩⟩
    have hc := cellsF_at xs j hj
    rw [Nat.zero_add, h'.cellAt (j * 2) (by omega), h'.cellAt (j * 2 + 1) (by omega)]
    exact hc
/-- The cells of a row that came in. -/
theorem loadRow_news {w : World} {g off : Nat} {xs : List (Int × Int)} (h : ∀ j, j < xs.length → w.cell? ⟨g, off + j * 2, none⟩ = some (.int .i64 (xs.getD j (0, 0)).1) ∧ w.cell? ⟨g, off + j * 2 + 1, none⟩ = some (.int .i64 (xs.getD j (0, 0)).2)) :
    ∀ j u, (cellsF xs)[j]? = some u → w.cell? ((⟨g, off, none⟩ : Addr).add j) = some u := by
  intro j u hj
  have hl : j < (cellsF xs).length := (List.getElem?_eq_some_iff.1 hj).1
  rw [cellsF_len] at hl
  rw [Go.WideShapes.add_plain]
  obtain ⟨k, rfl | rfl⟩ : ∃ k, j = k * 2 ∨ j = k * 2 + 1 := ⟨j / 2, by omega⟩
  · have := (cellsF_at xs k (by omega)).1
    rw [hj] at this
    rw [this]
    exact (h k (by omega)).1
  · have := (cellsF_at xs k (by omega)).2
    rw [hj] at this
    rw [this]
    exact (h k (by omega)).2
theorem two_new (w : World) (p q : Int) (t : TypeId) : ∀ j u, (cellsF [(p, q)])[j]? = some u → (w.alloc (.cells #[.int .i64 p, .int .i64 q] t)).cell? ((⟨w.heap.size, 0, none⟩ : Addr).add j) = some u := by
  intro j u hj
  rw [Go.WideShapes.add_plain, Nat.zero_add, World.cell?_alloc_at _ _ _ _ rfl]
  match j, hj with
  | 0, hj => simpa [cellsF] using hj
  | 1, hj => simpa [cellsF] using hj
  | j + 2, hj => simp [cellsF] at hj
theorem OwnL.drew {w : World} {B : Nat} {v : Value} {xs : List (Int × Int)} (h : OwnL w B v xs) : OwnL w.drew B v xs := h
theorem ownL_snoc {w : World} {B k : Nat} {v : Value} {ys : List (Int × Int)} {p q : Int} (h : w.ownsRow B 84 2 v (k + 1) (cellsF ys ++ [.int .i64 p, .int .i64 q])) (hk : ys.length = k) : OwnL w B v (ys ++ [(p, q)]) := by
  unfold OwnL
  rw [List.length_append, hk, cellsF_app]
  exact h
/-- The model keeps what is a row: a row that reads so, and whether it is one. -/
def KeptF (xs : List (Int × Int)) : List (Int × Int) := if rowB xs = true then xs else []
end Go.Proofs.Ytcfbnadefdcjaaa
