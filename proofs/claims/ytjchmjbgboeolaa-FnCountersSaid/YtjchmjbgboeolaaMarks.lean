/- Marks on rows of a call's own, as the laws write them and look at them again. -/
import Derived.Test.YtjchmjbgboeolaaForms6
import Derived.Test.YtjchmjbgboeolaaLoadMark
namespace Go.Proofs.Ytjchmjbgboeolaa
open Go.RowKit
theorem OwnL.only {w w' : World} {B C : Nat} {v : Value} {xs : List (Int × Int)} (h : OwnL w B v xs) (l : Only C w w') (hC : C < B) : OwnL w' B v xs := by
  unfold OwnL at *
  refine ⟨h.1, ?_⟩
  rcases h.2 with h | ⟨g, cap, cur, e, hb, hg, r⟩
  · exact .inl h
  · exact .inr ⟨g, cap, cur, e, hb, (l.block g (by omega) (Array.getElem?_eq_some_iff.1 hg).1).trans hg, r⟩
/-- The marks stand in the row. -/
def HeldV (w : World) (v : Value) (n : Nat) : Prop := (n = 0 ∧ ∃ a c, v = .slice a 0 c) ∨ ∃ g c, v = .slice (some ⟨g, 0, none⟩) n c ∧ g < w.heap.size ∧ MarkedL w g 1 n
theorem HeldV.lo {w w' : World} {v : Value} {n : Nat} (h : HeldV w v n) (l : Below w.heap.size w w') : HeldV w' v n := by
  rcases h with h | ⟨g, c, e, hg, hm⟩
  · exact .inl h
  · refine .inr ⟨g, c, e, Nat.lt_of_lt_of_le hg l.size, fun j hj => ?_⟩
    rw [l.cell (p := ⟨g, j * 2, none⟩) hg, l.cell (p := ⟨g, j * 2 + 1, none⟩) hg]
    exact hm j hj
theorem markV_any (B : Nat) (v : Value) (xs : List (Int × Int)) (w : World) (h : OwnL w B v xs) (hn : xs.length ≤ 2000000) :
    Calls Try.prog 16 #[v, .int .i64 1] w fun e w' => e = .returned (.int .i64 (1 + xs.length * 2 : Nat)) ∧ Below B w w' ∧ HeldV w' v xs.length := by
  unfold OwnL at h
  rcases h.2 with ⟨rfl, h0⟩ | ⟨g, cap, cur, rfl, hb, hg, _⟩
  · rw [h0]
    refine (markL_nil none 0 1 w).mono ?_
    rintro e w' ⟨rfl, rfl⟩
    exact ⟨rfl, Below.refl _ _, .inl ⟨rfl, none, 0, rfl⟩⟩
  · have hgs := (Array.getElem?_eq_some_iff.1 hg).1
    refine (markL_any g xs.length cap 1 w hn (by omega) (fun j hj => ?_) (fun j _ => h.frozenAt j)).mono ?_
    · rw [h.cellAt j hj]
      obtain ⟨k, rfl | rfl⟩ : ∃ k, j = k * 2 ∨ j = k * 2 + 1 := ⟨j / 2, by omega⟩
      · exact ⟨_, (cellsF_at xs k (by omega)).1⟩
      · exact ⟨_, (cellsF_at xs k (by omega)).2⟩
    · rintro e w' ⟨rfl, ho, hm⟩
      exact ⟨rfl, ⟨ho.os, ho.tape, ho.output, ho.size, fun k hk => ho.block k (by omega) (by omega)⟩, .inr ⟨g, cap, rfl, Nat.lt_of_lt_of_le hgs ho.size, hm⟩⟩
theorem heldV_any (v : Value) (n : Nat) (w : World) (h : HeldV w v n) (hn : n ≤ 2000000) :
    Calls Try.prog 17 #[v, .int .i64 1] w fun e w' => e = .returned (.int .i64 (1 + n * 2 : Nat)) ∧ w = w' := by
  rcases h with ⟨rfl, a, c, rfl⟩ | ⟨g, c, rfl, _, hm⟩
  · exact heldL_nil a c 1 w
  · exact heldL_any g n c 1 w hn (by omega) hm
theorem mark_to (w : World) (xs : List (Int × Int)) (g : Nat) (hr : LoadRow w (.slice (some ⟨g, 0, none⟩) xs.length xs.length) xs) (hf : ∀ j, w.frozen? ⟨g, j, none⟩ = false) (m : Nat) (hm : m ≤ 4000000) (hn : xs.length ≤ 2000000) :
    Calls Try.prog 16 #[.slice (some ⟨g, 0, none⟩) xs.length xs.length, .int .i64 m] w fun e w' => e = .returned (.int .i64 (m + xs.length * 2 : Nat)) ∧ Only g w w' := by
  refine (markL_any g xs.length xs.length m w hn hm (fun j hj => ?_) (fun j _ => hf j)).mono ?_
  · obtain ⟨a, c, e, h⟩ := hr
    cases e
    rcases h with h | ⟨g', off, e, _, hc⟩
    · subst h; simp at hj
    · cases e
      obtain ⟨k, rfl | rfl⟩ : ∃ k, j = k * 2 ∨ j = k * 2 + 1 := ⟨j / 2, by omega⟩
      · have := (hc k (by omega)).1
        rw [Nat.zero_add] at this
        exact ⟨_, this⟩
      · have := (hc k (by omega)).2
        rw [Nat.zero_add] at this
        exact ⟨_, this⟩
  · rintro e w' ⟨rfl, ho, _⟩
    exact ⟨rfl, ho⟩
theorem mk_len (b : Bool) (made : List (Int × Int)) : (mkF b made).length ≤ 12 := by
  unfold mkF KeptF
  cases b
  · simp
  · cases h : rowB made with
    | false => simp
    | true => simpa using ((rowB_iff made).1 h).short
end Go.Proofs.Ytjchmjbgboeolaa
