/- Lists in memory of a call's own whose blocks lie in any order: marked, and the marks looked at again. -/
import Derived.Test.YtcfbnadefdcjaaaTabLaw
namespace Go.Proofs.Ytcfbnadefdcjaaa
open Go.RowKit
/-- What is kept of list j: its block, apart from that of the table and from those of the other lists. -/
def ApartT (B E g n : Nat) (r : Nat → Nat) : Prop := ∀ j, j < n → B ≤ r j ∧ r j < E ∧ r j ≠ g ∧ ∀ i, i < n → i ≠ j → r i ≠ r j
def MineD (w : World) (B E : Nat) (v : Value) (xss : List (List Int)) : Prop :=
  (xss = [] ∧ ∃ a c, v = .slice a 0 c) ∨ ∃ (g c : Nat) (u : Nat → Value) (r : Nat → Nat), v = .slice (some ⟨g, 0, none⟩) xss.length c ∧ B ≤ g ∧ g < E ∧ E ≤ w.heap.size ∧ ApartT B E g xss.length r ∧
    ∀ j, j < xss.length → w.cell? ⟨g, j, none⟩ = some (u j) ∧ MineI w (r j) (r j + 1) (u j) (xss.getD j [])
theorem MineD.row {w : World} {B E : Nat} {v : Value} {xss : List (List Int)} (h : MineD w B E v xss) : TabRow w v xss := by
  rcases h with ⟨rfl, a, c, rfl⟩ | ⟨g, c, u, r, rfl, _, h1, h2, _, hr⟩
  · exact tabRow_nil w a c
  · exact ⟨_, _, rfl, .inr ⟨g, 0, rfl, by omega, fun j hj => ⟨u j, by rw [Nat.zero_add]; exact (hr j hj).1, (hr j hj).2.row⟩⟩⟩
theorem MineD.part {w w' : World} {B E B' E' : Nat} {v : Value} {xss : List (List Int)} (h : MineD w B E v xss) (p : Part B' E' w w') (ho : E ≤ B' ∨ E' ≤ B) : MineD w' B E v xss := by
  rcases h with h | ⟨g, c, u, r, e, h0, h1, h2, h3, hr⟩
  · exact .inl h
  · refine .inr ⟨g, c, u, r, e, h0, h1, Nat.le_trans h2 p.size, h3, fun j hj => ?_⟩
    obtain ⟨a, b, _⟩ := h3 j hj
    exact ⟨by rw [p.cell (p := ⟨g, j, none⟩) (by simp only; omega) (by simp only; omega)]; exact (hr j hj).1, (hr j hj).2.part p (by omega)⟩
theorem MineD.lo {w w' : World} {B E : Nat} {v : Value} {xss : List (List Int)} (h : MineD w B E v xss) (l : Below w.heap.size w w') : MineD w' B E v xss :=
  h.part (Part.of_lo (B := E) (E := E) l) (.inl (Nat.le_refl _))
def HeldD (w : World) (B E : Nat) (v : Value) (xss : List (List Int)) (m : Nat) : Prop :=
  (xss = [] ∧ ∃ a c, v = .slice a 0 c) ∨ ∃ (g c : Nat) (u : Nat → Value) (r : Nat → Nat), v = .slice (some ⟨g, 0, none⟩) xss.length c ∧ B ≤ g ∧ g < E ∧ E ≤ w.heap.size ∧ ApartT B E g xss.length r ∧
    ∀ j, j < xss.length → w.cell? ⟨g, j, none⟩ = some (u j) ∧ HeldI w (r j) (r j + 1) (u j) (xss.getD j []).length (m + cntT (xss.take j))
theorem HeldD.part {w w' : World} {B E B' E' m : Nat} {v : Value} {xss : List (List Int)} (h : HeldD w B E v xss m) (p : Part B' E' w w') (ho : E ≤ B' ∨ E' ≤ B) : HeldD w' B E v xss m := by
  rcases h with h | ⟨g, c, u, r, e, h0, h1, h2, h3, hr⟩
  · exact .inl h
  · refine .inr ⟨g, c, u, r, e, h0, h1, Nat.le_trans h2 p.size, h3, fun j hj => ?_⟩
    obtain ⟨a, b, _⟩ := h3 j hj
    exact ⟨by rw [p.cell (p := ⟨g, j, none⟩) (by simp only; omega) (by simp only; omega)]; exact (hr j hj).1, (hr j hj).2.part p (by omega)⟩
theorem HeldD.lo {w w' : World} {B E m : Nat} {v : Value} {xss : List (List Int)} (h : HeldD w B E v xss m) (l : Below w.heap.size w w') : HeldD w' B E v xss m :=
  h.part (Part.of_lo (B := E) (E := E) l) (.inl (Nat.le_refl _))
/-- The first k lists are marked. -/
def HalfD (w : World) (g k m : Nat) (u : Nat → Value) (r : Nat → Nat) (xss : List (List Int)) : Prop :=
  ∀ j, j < xss.length → w.cell? ⟨g, j, none⟩ = some (u j) ∧ r j < w.heap.size ∧
    if j < k then HeldI w (r j) (r j + 1) (u j) (xss.getD j []).length (m + cntT (xss.take j)) else MineI w (r j) (r j + 1) (u j) (xss.getD j [])
theorem HalfD.next {w w' : World} {B E g k m : Nat} {u : Nat → Value} {r : Nat → Nat} {xss : List (List Int)} (h : HalfD w g k m u r xss) (ha : ApartT B E g xss.length r) (hg : g < w.heap.size) (hk : k < xss.length) (p : Part (r k) (r k + 1) w w')
    (hh : HeldI w' (r k) (r k + 1) (u k) (xss.getD k []).length (m + cntT (xss.take k))) : HalfD w' g (k + 1) m u r xss := by
  intro j hj
  obtain ⟨r1, r2, r3⟩ := h j hj
  obtain ⟨_, _, a3, a4⟩ := ha k hk
  refine ⟨by rw [p.cell (p := ⟨g, j, none⟩) (by simp only; omega) (by simp only; omega)]; exact r1, Nat.lt_of_lt_of_le r2 p.size, ?_⟩
  by_cases ej : j = k
  · subst ej
    rw [if_pos (by omega)]
    exact hh
  · have hne := a4 j hj ej
    by_cases hjk : j < k
    · rw [if_pos hjk] at r3
      rw [if_pos (by omega)]
      exact r3.part p (by omega)
    · rw [if_neg hjk] at r3
      rw [if_neg (by omega)]
      exact r3.part p (by omega)
end Go.Proofs.Ytcfbnadefdcjaaa
