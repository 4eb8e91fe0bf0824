/- The model's rows: with one more load, and merged. -/
import Derived.Test.YthncgcdnljoakaaRows2
namespace Go.Proofs.Ythncgcdnljoakaa
open Go.RowKit
set_option maxRecDepth 100000 in
set_option maxHeartbeats 1600000 in
theorem l2With_any (va : Value) (xs : List (Int × Int)) (p q : Int) (w : World) (ha : SRow w va xs) (hx : xs.length ≤ 12) :
    Calls Try.prog 97 #[va, .int .i64 p, .int .i64 q] w fun e w' => ∃ v', e = .returned v' ∧ OwnL w' w.heap.size v' (xs ++ [(p, q)]) ∧ v' ≠ .slice none 0 0 ∧ Below w.heap.size w w' := by
  obtain ⟨i0, hi, hz0, hz1, hz2⟩ := info_parts infoLoad
  obtain ⟨g, off, c, rfl, hg, hc⟩ := ha
  have hrow0 := own_empty w
  have H1 := Lib.hid (row_news hg (loadRow_news hc) ((Below.refl w.heap.size w).alloc (Nat.le_refl _) (.cells #[] 78)))
  clear hc hg
  go_enter Try.func97, Try.ntmps97
  go_wp2_with (first
    | (at_builtin; refine wpList_append_own _ rfl _ _ 32 rfl w.heap.size 78 i0 (.agg #[.int .i64 0, .int .i64 0]) 2 16 Try.underlying32 hi hz0 hz1 hz2 rfl (by decide) _ _ _ rfl hrow0 ⟨g, off, none⟩ xs.length c (cellsF xs) rfl (cellsF_len xs) H1.out (cellsF_one xs) (by unfold maxLen; omega) (by omega) (by simp) ?_; intro v1 w1 hown1 hgrow1 hnil1; have B1 := ((Below.refl w.heap.size w).alloc (Nat.le_refl _) _).grown hgrow1 (by simp) (fun q hq => (hrow0.lt q hq).1))
    | (at_builtin; refine wpList_append_own _ rfl _ _ 32 rfl w.heap.size 78 i0 (.agg #[.int .i64 0, .int .i64 0]) 2 16 Try.underlying32 hi hz0 hz1 hz2 rfl (by decide) _ _ _ rfl (hown1.alloc _) ⟨w1.heap.size, 0, none⟩ 1 1 (cellsF [(p, q)]) rfl rfl (two_new w1 p q _) (cellsF_one [(p, q)]) (by unfold maxLen; omega) (by omega) (by have := B1.size; simp; omega) ?_; intro v2 w2 hown2 hgrow2 hnil2))
  have R := Lib.hid (show OwnL w2 w.heap.size v2 (xs ++ [(p, q)]) from ownL_app (by rw [Nat.zero_add] at hown2; exact hown2) rfl rfl)
  have BB := Lib.hid ((B1.alloc B1.size _).grown hgrow2 (by have := B1.size; simp; omega) (fun q hq => (hown1.lt q hq).1))
  have NN := Lib.hid (show v2 ≠ .slice none 0 0 from fun h => absurd (hnil2.1 h).2 (by decide))
  clear hown1 hown2 hgrow1 hgrow2 hnil1 hnil2 B1 hrow0
  go_ret
  exact ⟨_, rfl, R.out, NN.out, BB.out⟩
end Go.Proofs.Ythncgcdnljoakaa
