/- The model's rows: with one more load, and merged. -/
import Derived.Test.YtjchmjbgboeolaaRows2
namespace Go.Proofs.Ytjchmjbgboeolaa
open Go.RowKit
set_option maxRecDepth 100000 in
set_option maxHeartbeats 1600000 in
theorem l2With_any (va : Value) (xs : List (Int × Int)) (p q : Int) (w : World) (ha : SRow w va xs) (hx : xs.length ≤ 12) :
    Calls Try.prog 45 #[va, .int .i64 p, .int .i64 q] w fun e w' => ∃ v', e = .returned v' ∧ OwnL w' w.heap.size v' (xs ++ [(p, q)]) ∧ v' ≠ .slice none 0 0 ∧ Below w.heap.size w w' := by
  obtain ⟨i0, hi, hz0, hz1, hz2⟩ := info_parts infoLoad
  obtain ⟨g, off, c, rfl, hg, hc⟩ := ha
  have hrow0 := own_empty w
  have H1 := Lib.hid (row_news hg (loadRow_news hc) ((Below.refl w.heap.size w).alloc (Nat.le_refl _) (.cells #[] 46)))
  clear hc hg
  go_enter Try.func45, Try.ntmps45
  go_wp2_with (first
    | (at_builtin; refine wpList_append_own _ rfl _ _ 24 rfl w.heap.size 46 i0 (.agg #[.int .i64 0, .int .i64 0]) 2 16 Try.underlying24 hi hz0 hz1 hz2 rfl (by decide) _ _ _ rfl hrow0 ⟨g, off, none⟩ xs.length c (cellsF xs) rfl (cellsF_len xs) H1.out (cellsF_one xs) (by unfold maxLen; omega) (by omega) (by simp) ?_; intro v1 w1 hown1 hgrow1 hnil1; have B1 := ((Below.refl w.heap.size w).alloc (Nat.le_refl _) _).grown hgrow1 (by simp) (fun q hq => (hrow0.lt q hq).1))
    | (at_builtin; refine wpList_append_own _ rfl _ _ 24 rfl w.heap.size 46 i0 (.agg #[.int .i64 0, .int .i64 0]) 2 16 Try.underlying24 hi hz0 hz1 hz2 rfl (by decide) _ _ _ rfl (hown1.alloc _) ⟨w1.heap.size, 0, none⟩ 1 1 (cellsF [(p, q)]) rfl rfl (two_new w1 p q _) (cellsF_one [(p, q)]) (by unfold maxLen; omega) (by omega) (by have := B1.size; simp; omega) ?_; intro v2 w2 hown2 hgrow2 hnil2))
  have R := Lib.hid (show OwnL w2 w.heap.size v2 (xs ++ [(p, q)]) from ownL_app (by rw [Nat.zero_add] at hown2; exact hown2) rfl rfl)
  have BB := Lib.hid ((B1.alloc B1.size _).grown hgrow2 (by have := B1.size; simp; omega) (fun q hq => (hown1.lt q hq).1))
  have NN := Lib.hid (show v2 ≠ .slice none 0 0 from fun h => absurd (hnil2.1 h).2 (by decide))
  clear hown1 hown2 hgrow1 hgrow2 hnil1 hnil2 B1 hrow0
  go_ret
  exact ⟨_, rfl, R.out, NN.out, BB.out⟩
set_option maxRecDepth 100000 in
set_option maxHeartbeats 1600000 in
theorem l2Merged_any (v : Value) (xs : List (Int × Int)) (w : World) (hr : LoadRow w v xs) (hz : RowF xs) :
    Calls Try.prog 36 #[v] w fun e w' => ∃ v', e = .returned v' ∧ OwnL w' w.heap.size v' (mergedF xs 61) ∧ v' ≠ .slice none 0 0 ∧ Below w.heap.size w w' := by
  obtain ⟨i0, hi, hz0, hz1, hz2⟩ := info_parts infoLoad
  obtain ⟨a, c, rfl, hr⟩ := hr
  have HZ := Lib.hid hz
  have hlen := hz.short
  have hrow0 : OwnL (w.alloc (.cells #[] 46)) w.heap.size (.slice (some ⟨w.heap.size, 0, none⟩) 0 0) (mergedF xs 0) := own_empty w
  clear hz
  go_enter Try.func36, Try.ntmps36
  go_wp2
  go_loopw [3, 4] (fun v x wr => ∃ P : Nat, P ≤ 61 ∧ x = .int .i64 P ∧ OwnL wr w.heap.size v (mergedF xs P) ∧ v ≠ .slice none 0 0 ∧ Below w.heap.size w wr) (fun _ y _ => 61 - (intOf y).toNat)
  case atStart => exact ⟨0, by omega, rfl, hrow0, by simp, (Below.refl _ _).alloc (Nat.le_refl _) _⟩
  case round =>
    obtain ⟨P, hP, rfl, hown, hnn, hbl⟩ := hrel
    clear hrow0
    by_cases hlt : P ≤ 60
    · have hlt' : (P : Int) ≤ 60 := by omega
      have HO := Lib.hid hown
      have HN := Lib.hid hnn
      have HB := Lib.hid hbl
      have hrr : xs = [] ∨ ∃ g off, a = some ⟨g, off, none⟩ ∧ Hid (∀ j, j < xs.length → wr.cell? ⟨g, off + j * 2, none⟩ = some (.int .i64 (xs.getD j (0, 0)).1) ∧ wr.cell? ⟨g, off + j * 2 + 1, none⟩ = some (.int .i64 (xs.getD j (0, 0)).2)) := by
        rcases hr with h | ⟨g, off, e, hg, hc⟩
        · exact .inl h
        · exact .inr ⟨g, off, e, Lib.hid fun j hj => by
            rw [hbl.cell (p := ⟨g, off + j * 2, none⟩) hg, hbl.cell (p := ⟨g, off + j * 2 + 1, none⟩) hg]; exact hc j hj⟩
      have HR := Lib.hid hrr
      clear hown hnn hbl hr hrr
      go_wp2
      go_loop [5, 6] (fun s i => ∃ k : Nat, k ≤ xs.length ∧ i = .int .i64 k ∧ s = .int .i64 (sumAt P (xs.take k))) (fun _ i => xs.length - (intOf i).toNat)
      case atStart => exact ⟨0, Nat.zero_le _, rfl, rfl⟩
      case round =>
        obtain ⟨k, hk, rfl, rfl⟩ := hrel
        by_cases hkl : k < xs.length
        · rcases HR.out with h | ⟨g, off, rfl, HC⟩
          · subst h; simp at hkl
          have h1 := (HC.out k hkl).1
          have h2 := (HC.out k hkl).2
          have hkl' : (k : Int) < (xs.length : Int) := by omega
          have hs := sumAt_take P xs k hkl
          have sb := sumAt_bound P _ (rowF_take HZ.out k).each
          have wb := rowF_bounds (rowF_take HZ.out k)
          have he := HZ.out.each _ (show xs.getD k (0, 0) ∈ xs by simp only [List.getD, List.getElem?_eq_getElem hkl, Option.getD_some]; exact List.getElem_mem hkl)
          generalize xs.getD k (0, 0) = x at h1 h2 hs he
          obtain ⟨p, q⟩ := x
          simp only at h1 h2 hs he
          obtain ⟨⟨e0, e1⟩, e2, e3⟩ := he
          have y0 := sb.1
          have y1 : sumAt P (xs.take k) ≤ 1188 := by omega
          obtain ⟨y, hy⟩ : ∃ y, sumAt P (xs.take k) = y := ⟨_, rfl⟩
          rw [hy] at hs y0 y1 ⊢
          have HS := Lib.hid hs
          clear hs sb wb hy
          by_cases hpe : p = (P : Int)
          · have hpb : (p == (P : Int)) = true := by simpa using hpe
            have HP := Lib.hid hpe
            clear hpe
            go_wp2
            go_round
            case rel => exact ⟨k + 1, by omega, by go_num, by rw [HS.out, if_pos HP.out]⟩
            case measure => simp [intOf]; omega
          · have hpb : (p == (P : Int)) = false := by simpa using hpe
            have HP := Lib.hid hpe
            clear hpe
            go_wp2
            go_round
            case rel => exact ⟨k + 1, by omega, by go_num, by rw [HS.out, if_neg HP.out, Int.add_zero]⟩
            case measure => simp [intOf]; omega
        · obtain rfl : k = xs.length := by omega
          have hge : ¬ (xs.length : Int) < (xs.length : Int) := by omega
          have sb := sumAt_bound P xs HZ.out.each
          have ml := merged_len xs P
          have HM := Lib.hid (show mergedF xs (P + 1) = mergedF xs P ++ (if 0 < sumAt P xs then [((P : Int), sumAt P xs)] else []) from rfl)
          have hown := HO.out
          unfold OwnL at hown
          have hbs := HB.out.size
          simp only [List.take_length]
          obtain ⟨y, hy⟩ : ∃ y, sumAt P xs = y := ⟨_, rfl⟩
          rw [hy] at sb HM ⊢
          clear hy
          by_cases hpos : 0 < y
          · go_wp2_with (at_builtin; refine wpList_append_own _ rfl _ _ 24 rfl w.heap.size 46 i0 (.agg #[.int .i64 0, .int .i64 0]) 2 16 Try.underlying24 hi hz0 hz1 hz2 rfl (by decide) _ _ _ rfl (hown.alloc _) ⟨wr.heap.size, 0, none⟩ 1 1 (cellsF [((P : Int), y)]) rfl rfl (two_new wr P y _) (cellsF_one _) (by unfold maxLen; omega) (by omega) (by simp; omega) ?_; intro v2 w2 hown2 hgrow2 hnil2)
            have R := Lib.hid (show OwnL w2 w.heap.size v2 (mergedF xs (P + 1)) by
              rw [HM.out, if_pos hpos]
              exact ownL_app hown2 rfl rfl)
            have BB := Lib.hid ((HB.out.alloc HB.out.size _).grown hgrow2 (by simp; omega) (fun q hq => (hown.lt q hq).1))
            have NN := Lib.hid (show v2 ≠ .slice none 0 0 from fun h => absurd (hnil2.1 h).2 (by decide))
            clear hown2 hgrow2 hnil2 hown
            go_wp2
            go_roundw
            case rel => exact ⟨P + 1, by omega, by go_num, R.out, NN.out, BB.out⟩
            case measure => simp [intOf]; omega
          · have R := Lib.hid (show OwnL wr w.heap.size u3 (mergedF xs (P + 1)) by
              rw [HM.out, if_neg hpos, List.append_nil]
              exact HO.out)
            clear hown
            go_wp2
            go_roundw
            case rel => exact ⟨P + 1, by omega, by go_num, R.out, HN.out, HB.out⟩
            case measure => simp [intOf]; omega
    · obtain rfl : P = 61 := by omega
      have HO := Lib.hid hown
      have HN := Lib.hid hnn
      have HB := Lib.hid hbl
      clear hown hnn hbl
      go_wp2
      go_ret
      exact ⟨_, rfl, HO.out, HN.out, HB.out⟩
end Go.Proofs.Ytjchmjbgboeolaa
