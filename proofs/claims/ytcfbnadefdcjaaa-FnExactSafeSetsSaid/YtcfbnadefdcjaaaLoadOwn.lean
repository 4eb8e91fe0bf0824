/- Rows of loads in memory of a call's own, and their marks, as the walks of the exact laws take them. -/
import Derived.Test.YtcfbnadefdcjaaaRows1
import Derived.Test.YtcfbnadefdcjaaaLoadMark
import Derived.Test.YtcfbnadefdcjaaaInts
namespace Go.Proofs.Ytcfbnadefdcjaaa
open Go.RowKit
def MineL (w : World) (B E : Nat) (v : Value) (xs : List (Int × Int)) : Prop :=
  (xs = [] ∧ ∃ a c, v = .slice a 0 c) ∨ ∃ g c, v = .slice (some ⟨g, 0, none⟩) xs.length c ∧ B ≤ g ∧ g < E ∧ E ≤ w.heap.size ∧ (∀ j, j < xs.length → w.cell? ⟨g, j * 2, none⟩ = some (.int .i64 (xs.getD j (0, 0)).1) ∧ w.cell? ⟨g, j * 2 + 1, none⟩ = some (.int .i64 (xs.getD j (0, 0)).2)) ∧ ∀ j, w.frozen? ⟨g, j, none⟩ = false
theorem MineL.row {w : World} {B E : Nat} {v : Value} {xs : List (Int × Int)} (h : MineL w B E v xs) : LoadRow w v xs := by
  rcases h with ⟨rfl, a, c, rfl⟩ | ⟨g, c, rfl, _, hg, hE, hc, _⟩
  · exact ⟨a, c, rfl, .inl rfl⟩
  · exact ⟨_, _, rfl, .inr ⟨g, 0, rfl, by omega, fun j hj => by rw [Nat.zero_add]; exact hc j hj⟩⟩
theorem MineL.part {w w' : World} {B E B' E' : Nat} {v : Value} {xs : List (Int × Int)} (h : MineL w B E v xs) (p : Part B' E' w w') (ho : E ≤ B' ∨ E' ≤ B) : MineL w' B E v xs := by
  rcases h with h | ⟨g, c, e, h1, h2, h3, hc, hf⟩
  · exact .inl h
  · have hb : g < B' ∨ E' ≤ g := by omega
    exact .inr ⟨g, c, e, h1, h2, Nat.le_trans h3 p.size, fun j hj => ⟨(p.cell (p := ⟨g, j * 2, none⟩) (by simp only; omega) hb).trans (hc j hj).1, (p.cell (p := ⟨g, j * 2 + 1, none⟩) (by simp only; omega) hb).trans (hc j hj).2⟩, fun j => (p.frozen (p := ⟨g, j, none⟩) (by simp only; omega) hb).trans (hf j)⟩
theorem MineL.lo {w w' : World} {B E : Nat} {v : Value} {xs : List (Int × Int)} (h : MineL w B E v xs) (l : Below w.heap.size w w') : MineL w' B E v xs :=
  h.part (Part.of_lo (B := E) (E := E) l) (.inl (Nat.le_refl _))
theorem mineL_nil (w : World) (B E : Nat) (a : Option Addr) (c : Nat) : MineL w B E (.slice a 0 c) [] := .inl ⟨rfl, a, c, rfl⟩
theorem mineL_own {w : World} {B : Nat} {v : Value} {xs : List (Int × Int)} (h : OwnL w B v xs) : MineL w B w.heap.size v xs := by
  unfold OwnL at h
  have h' := h
  rcases h.2 with ⟨rfl, h0⟩ | ⟨g, cap, cur, rfl, hb, hg, _⟩
  · exact .inl ⟨List.length_eq_zero_iff.1 h0, none, 0, rfl⟩
  · exact .inr ⟨g, cap, rfl, hb, (Array.getElem?_eq_some_iff.1 hg).1, Nat.le_refl _, fun j hj => by
      have hc := cellsF_at xs j hj
      rw [h'.cellAt (j * 2) (by omega), h'.cellAt (j * 2 + 1) (by omega)]
      exact hc, fun j => h'.frozenAt j⟩
def HeldL (w : World) (B E : Nat) (v : Value) (xs : List (Int × Int)) (m : Nat) : Prop := (xs = [] ∧ ∃ a c, v = .slice a 0 c) ∨ ∃ g c, v = .slice (some ⟨g, 0, none⟩) xs.length c ∧ B ≤ g ∧ g < E ∧ E ≤ w.heap.size ∧ MarkedL w g m xs.length
theorem HeldL.part {w w' : World} {v : Value} {xs : List (Int × Int)} {m B E B' E' : Nat} (h : HeldL w B E v xs m) (p : Part B' E' w w') (ho : E ≤ B' ∨ E' ≤ B) : HeldL w' B E v xs m := by
  rcases h with h | ⟨g, c, e, h1, h2, h3, hm⟩
  · exact .inl h
  · exact .inr ⟨g, c, e, h1, h2, Nat.le_trans h3 p.size, fun j hj => by
      rw [p.cell (p := ⟨g, j * 2, none⟩) (by simp only; omega) (by simp only; omega), p.cell (p := ⟨g, j * 2 + 1, none⟩) (by simp only; omega) (by simp only; omega)]
      exact hm j hj⟩
theorem HeldL.lo {w w' : World} {v : Value} {xs : List (Int × Int)} {m B E : Nat} (h : HeldL w B E v xs m) (l : Below w.heap.size w w') : HeldL w' B E v xs m :=
  h.part (Part.of_lo (B := E) (E := E) l) (.inl (Nat.le_refl _))
theorem markL_mine (B E : Nat) (v : Value) (xs : List (Int × Int)) (m : Nat) (w : World) (h : MineL w B E v xs) (hn : xs.length ≤ 2000000) (hm : m ≤ 4000000) :
    Calls Try.prog 43 #[v, .int .i64 m] w fun e w' => e = .returned (.int .i64 (m + xs.length * 2 : Nat)) ∧ Part B E w w' ∧ HeldL w' B E v xs m := by
  rcases h with ⟨rfl, a, c, rfl⟩ | ⟨g, c, rfl, hB, hE, hs, hc, hf⟩
  · refine (markL_nil a c m w).mono ?_
    rintro e w' ⟨rfl, rfl⟩
    exact ⟨rfl, Part.refl _ _ _, .inl ⟨rfl, a, c, rfl⟩⟩
  · refine (markL_any g xs.length c m w hn hm (fun j hj => ?_) (fun j _ => hf j)).mono ?_
    · obtain ⟨k, rfl | rfl⟩ : ∃ k, j = k * 2 ∨ j = k * 2 + 1 := ⟨j / 2, by omega⟩
      · exact ⟨_, (hc k (by omega)).1⟩
      · exact ⟨_, (hc k (by omega)).2⟩
    · rintro e w' ⟨rfl, ho, hh⟩
      exact ⟨rfl, ho.part hB hE, .inr ⟨g, c, rfl, hB, hE, Nat.le_trans hs ho.size, hh⟩⟩
end Go.Proofs.Ytcfbnadefdcjaaa
