/- The model's rows: joined, with one more load, and what is kept of them. -/
import Derived.Test.YtjchmjbgboeolaaRows1
import Derived.Test.YtjchmjbgboeolaaMergePlain
namespace Go.Proofs.Ytjchmjbgboeolaa
open Go.RowKit
/-- A row of loads at an address. -/
def SRow (w : World) (v : Value) (xs : List (Int × Int)) : Prop :=
  ∃ g off c, v = .slice (some ⟨g, off, none⟩) xs.length c ∧ (xs = [] ∨ g < w.heap.size) ∧ ∀ j, j < xs.length → w.cell? ⟨g, off + j * 2, none⟩ = some (.int .i64 (xs.getD j (0, 0)).1) ∧ w.cell? ⟨g, off + j * 2 + 1, none⟩ = some (.int .i64 (xs.getD j (0, 0)).2)
theorem SRow.load {w : World} {v : Value} {xs : List (Int × Int)} (h : SRow w v xs) : LoadRow w v xs := by
  obtain ⟨g, off, c, rfl, h0, hc⟩ := h
  refine ⟨_, c, rfl, ?_⟩
  rcases h0 with h0 | h0
  · exact .inl h0
  · exact .inr ⟨g, off, rfl, h0, hc⟩
theorem SRow.lo {w w' : World} {v : Value} {xs : List (Int × Int)} (h : SRow w v xs) (l : Below w.heap.size w w') : SRow w' v xs := by
  obtain ⟨g, off, c, rfl, h0, hc⟩ := h
  refine ⟨g, off, c, rfl, ?_, fun j hj => ?_⟩
  · rcases h0 with h0 | h0
    · exact .inl h0
    · exact .inr (Nat.lt_of_lt_of_le h0 l.size)
  · rcases h0 with h0 | h0
    · subst h0; simp at hj
    · rw [l.cell (p := ⟨g, off + j * 2, none⟩) h0, l.cell (p := ⟨g, off + j * 2 + 1, none⟩) h0]; exact hc j hj
theorem sRow_own {w : World} {B : Nat} {v : Value} {xs : List (Int × Int)} (h : OwnL w B v xs) (hv : v ≠ .slice none 0 0) : SRow w v xs := by
  have h' := h
  unfold OwnL at h'
  rcases h'.2 with ⟨rfl, _⟩ | ⟨g, cap, cur, rfl, _, hb, _⟩
  · exact absurd rfl hv
  · refine ⟨g, 0, cap, rfl, .inr (Array.getElem?_eq_some_iff.1 hb).1, fun j hj => ?_⟩
    have hc := cellsF_at xs j hj
    rw [Nat.zero_add, h'.cellAt (j * 2) (by omega), h'.cellAt (j * 2 + 1) (by omega)]
    exact hc
theorem sRow_to {w : World} {g n c : Nat} {xs : List (Int × Int)} (h : LoadRow w (.slice (some ⟨g, 0, none⟩) n c) xs) : SRow w (.slice (some ⟨g, 0, none⟩) n c) xs := by
  obtain ⟨a, c', e, h⟩ := h
  cases e
  rcases h with h | ⟨g', off, e, hg, hc⟩
  · subst h; exact ⟨g, 0, c, rfl, .inl rfl, fun j hj => by simp at hj⟩
  · cases e
    exact ⟨g, 0, c, rfl, .inr hg, hc⟩
theorem row_news {w w1 : World} {g off : Nat} {ys : List (Int × Int)} (hg : ys = [] ∨ g < w.heap.size) (h : ∀ j u, (cellsF ys)[j]? = some u → w.cell? ((⟨g, off, none⟩ : Addr).add j) = some u) (l : Below w.heap.size w w1) :
    ∀ j u, (cellsF ys)[j]? = some u → w1.cell? ((⟨g, off, none⟩ : Addr).add j) = some u := fun j u hj => by
  rcases hg with rfl | hg
  · simp [cellsF] at hj
  · have := h j u hj
    rw [Go.WideShapes.add_plain] at this ⊢
    rw [l.cell (p := ⟨g, off + j, none⟩) hg]
    exact this
theorem own_empty (w : World) : (w.alloc (.cells #[] 46)).ownsRow w.heap.size 46 2 (.slice (some ⟨w.heap.size, 0, none⟩) 0 0) 0 (cellsF []) := World.ownsRow_lit w #[] 0 (Nat.le_refl _) (by decide) rfl
theorem ownL_app {w : World} {B n m : Nat} {v : Value} {xs ys : List (Int × Int)} (h : w.ownsRow B 46 2 v (n + m) (cellsF xs ++ cellsF ys)) (hn : xs.length = n) (hm : ys.length = m) : OwnL w B v (xs ++ ys) := by
  unfold OwnL
  rw [List.length_append, hn, hm, cellsF_app]
  exact h
set_option maxRecDepth 100000 in
set_option maxHeartbeats 1600000 in
theorem l2Joined_any (va vb : Value) (xs ys : List (Int × Int)) (w : World) (ha : SRow w va xs) (hb : SRow w vb ys) (hx : xs.length ≤ 12) (hy : ys.length ≤ 12) :
    Calls Try.prog 40 #[va, vb] w fun e w' => ∃ v', e = .returned v' ∧ OwnL w' w.heap.size v' (xs ++ ys) ∧ v' ≠ .slice none 0 0 ∧ Below w.heap.size w w' := by
  obtain ⟨i0, hi, hz0, hz1, hz2⟩ := info_parts infoLoad
  obtain ⟨g, off, c, rfl, hg, hc⟩ := ha
  obtain ⟨g', off', c', rfl, hg', hc'⟩ := hb
  have hrow0 := own_empty w
  have hn1 := loadRow_news hc
  have hn2 := loadRow_news hc'
  have A1 : ∀ j u, (cellsF xs)[j]? = some u → (w.alloc (.cells #[] 46)).cell? ((⟨g, off, none⟩ : Addr).add j) = some u := fun j u hj => by
    have := hn1 j u hj
    rw [Go.WideShapes.add_plain] at this ⊢
    exact Lib.cell?_alloc_some _ this
  have H1 := Lib.hid A1
  have H2 := Lib.hid hn2
  have K2 := Lib.hid hc'
  clear hc hc' A1 hn1 hn2 hg
  go_enter Try.func40, Try.ntmps40
  go_wp2_with (first
    | (at_builtin; refine wpList_append_own _ rfl _ _ 24 rfl w.heap.size 46 i0 (.agg #[.int .i64 0, .int .i64 0]) 2 16 Try.underlying24 hi hz0 hz1 hz2 rfl (by decide) _ _ _ rfl hrow0 ⟨g, off, none⟩ xs.length c (cellsF xs) rfl (cellsF_len xs) H1.out (cellsF_one xs) (by unfold maxLen; omega) (by omega) (by simp) ?_; intro v1 w1 hown1 hgrow1 hnil1; have B1 := ((Below.refl w.heap.size w).alloc (Nat.le_refl _) _).grown hgrow1 (by simp) (fun q hq => (hrow0.lt q hq).1))
    | (at_builtin; refine wpList_append_own _ rfl _ _ 24 rfl w.heap.size 46 i0 (.agg #[.int .i64 0, .int .i64 0]) 2 16 Try.underlying24 hi hz0 hz1 hz2 rfl (by decide) _ _ _ rfl hown1 ⟨g', off', none⟩ ys.length c' (cellsF ys) rfl (cellsF_len ys) (row_news hg' H2.out B1) (cellsF_one ys) (by unfold maxLen; omega) (by omega) B1.size ?_; intro v2 w2 hown2 hgrow2 hnil2))
  have R := Lib.hid (show OwnL w2 w.heap.size v2 (xs ++ ys) from ownL_app (by rw [Nat.zero_add] at hown2; exact hown2) rfl rfl)
  have BB := Lib.hid (B1.grown hgrow2 B1.size (fun q hq => (hown1.lt q hq).1))
  have NN := Lib.hid (show v2 ≠ .slice none 0 0 from fun h => by
    have h1 := hnil1.1 (hnil2.1 h).1
    exact absurd h1.1 (by simp [Act.eval]))
  clear hown1 hown2 hgrow1 hgrow2 hnil1 hnil2 B1 hrow0
  go_ret
  exact ⟨_, rfl, R.out, NN.out, BB.out⟩
end Go.Proofs.Ytjchmjbgboeolaa
