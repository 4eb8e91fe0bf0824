/- The contract of the program's merged rows. -/
import Derived.Test.YtjchmjbgboeolaaForms3
namespace Go.Proofs.Ytjchmjbgboeolaa
open Go.RowKit
theorem last_split {ms : List (Int × Int)} {l : Int × Int} {K : Nat} (hl : ms.length = K + 1) (hg : ms.getD K (0, 0) = l) : ms = ms.dropLast ++ [l] ∧ ms.dropLast.length = K := by
  have hne : ms ≠ [] := by intro h; subst h; simp at hl
  have e := List.dropLast_concat_getLast hne
  have : ms.getLast hne = l := by
    rw [List.getLast_eq_getElem, ← hg, List.getD, List.getElem?_eq_getElem (by omega)]
    simp only [Option.getD_some, hl, Nat.add_sub_cancel]
  rw [this] at e
  exact ⟨e.symm, by simp [hl]⟩
theorem addF_eq {ms : List (Int × Int)} {l x : Int × Int} {K : Nat} (hl : ms.length = K + 1) (hg : ms.getD K (0, 0) = l) (he : l.1 = x.1) : addF ms x = ms.set K (l.1, l.2 + x.2) := by
  obtain ⟨e, hd⟩ := last_split hl hg
  generalize ms.dropLast = d at e hd
  subst e
  unfold addF
  rw [List.getLast?_append]
  simp only [List.getLast?_singleton, Option.some_or, if_pos he]
  rw [List.dropLast_concat, List.set_append_right _ _ (by omega), hd, Nat.sub_self]
  rfl
theorem addF_ne {ms : List (Int × Int)} {l x : Int × Int} {K : Nat} (hl : ms.length = K + 1) (hg : ms.getD K (0, 0) = l) (he : l.1 ≠ x.1) : addF ms x = ms ++ [x] := by
  obtain ⟨e, hd⟩ := last_split hl hg
  generalize ms.dropLast = d at e hd
  subst e
  unfold addF
  rw [List.getLast?_append]
  simp only [List.getLast?_singleton, Option.some_or, if_neg he]
theorem merged_wt (zs : List (Int × Int)) (h : ∀ x ∈ zs, (0 ≤ x.1 ∧ x.1 ≤ 60) ∧ 1 ≤ x.2 ∧ x.2 ≤ 99) : ∀ n, ∀ x ∈ mergedF zs n, x.2 ≤ wtF zs := by
  intro n
  induction n with
  | zero => intro x hx; cases hx
  | succ n ih =>
    intro x hx
    rw [mergedF] at hx
    rcases List.mem_append.1 hx with hm | hm
    · exact ih x hm
    · split at hm
      · simp at hm; subst hm; exact (sumAt_bound n zs h).2
      · cases hm
theorem rowF_perm {xs ys : List (Int × Int)} (h : RowF xs) (p : ys.Perm xs) : RowF ys :=
  ⟨by rw [p.length_eq]; exact h.short, fun x hx => h.each x (p.mem_iff.1 hx)⟩
set_option maxRecDepth 100000 in
set_option maxHeartbeats 3200000 in
theorem merged_any (va vb : Value) (m : Int) (xs : List (Int × Int)) (w : World) (ha : SRow w va xs) (hz : RowF xs) :
    Calls Try.prog 66 #[.agg #[va, vb, .int .i64 m]] w fun e w' => ∃ v', e = .returned v' ∧ OwnL w' w.heap.size v' (mergedF xs 61) ∧ Below w.heap.size w w' := by
  obtain ⟨i0, hi, hz0, hz1, hz2⟩ := info_parts infoLoad
  have hal : Below w.heap.size w (w.alloc (.cells #[va, vb, .int .i64 m] 53)) := (Below.refl _ _).alloc (Nat.le_refl _) _
  have CC := Lib.hid (clone_any va xs _ (ha.lo hal) hz.short)
  have hva : ∃ x n c, va = .slice x n c := by obtain ⟨g, off, c, rfl, _⟩ := ha; exact ⟨_, _, _, rfl⟩
  have HX := Lib.hid hz
  have hlen := hz.short
  obtain ⟨x0, n0, c0, rfl⟩ := hva
  clear hz ha hal
  go_enter Try.func66, Try.ntmps66
  go_wp2_with fail
  refine CC.out.mono ?_
  rintro e w1 ⟨v1, rfl, o1, n1, l1⟩
  have o1' := o1
  unfold OwnL at o1'
  rcases o1'.2 with ⟨rfl, _⟩ | ⟨gg, cap, cur, rfl, hgg, hgc, _⟩
  · exact absurd rfl n1
  have hg1 : gg < w1.heap.size := (Array.getElem?_eq_some_iff.1 hgc).1
  have L1 := Lib.hid (show Below w.heap.size w w1 from ((Below.refl _ _).alloc (Nat.le_refl _) _).trans (l1.mono (by simp)))
  have hgw : w.heap.size < gg := by simp at hgg; omega
  have SS := Lib.hid (sort_any gg cap _ xs w1 o1 hg1 hlen)
  clear o1 o1' n1 l1 CC hgc hgg
  go_wp2_with fail
  refine SS.out.mono ?_
  rintro e w2 ⟨rfl, ys, hp, hrise, hrow, l2⟩
  have HZ := Lib.hid (rowF_perm HX.out hp)
  have HM := Lib.hid (merged_perm (sumAt_perm hp) 61)
  have hyl : ys.length = xs.length := hp.length_eq
  have HYL := Lib.hid hyl
  have HR := Lib.hid hrise
  have L2 := Lib.hid (L1.out.trans (l2.mono (by omega)))
  obtain ⟨ax, cx, hex, hrow⟩ := hrow
  rw [hyl] at hex
  cases hex
  have HRow := Lib.hid (show ys = [] ∨ (gg < w2.heap.size ∧ ∀ j, j < ys.length → w2.cell? ⟨gg, 0 + j * 2, none⟩ = some (.int .i64 (ys.getD j (0, 0)).1) ∧ w2.cell? ⟨gg, 0 + j * 2 + 1, none⟩ = some (.int .i64 (ys.getD j (0, 0)).2)) by
    rcases hrow with h | ⟨g', off', e, hg', hc'⟩
    · exact .inl h
    · cases e; exact .inr ⟨hg', hc'⟩)
  clear hp hrise hyl hrow l2 SS
  go_wp2
  go_loopw [4, 15] (fun v i wr => ∃ k : Nat, k ≤ xs.length ∧ i = .int .i64 k ∧ OwnL wr w2.heap.size v (mergedF (ys.take k) 61) ∧ Below w2.heap.size w2 wr) (fun _ i _ => xs.length - (intOf i).toNat)
  case atStart => exact ⟨0, Nat.zero_le _, rfl, by rw [List.take_zero]; exact World.ownsRow_nil w2 _ _ _, Below.refl _ _⟩
  case round =>
    obtain ⟨k, hk, rfl, hown, hbl⟩ := hrel
    by_cases hlt : k < xs.length
    · have hly : k < ys.length := by rw [HYL.out]; exact hlt
      rcases HRow.out with h | ⟨hg, hc⟩
      · subst h; simp at hly
      have h1 := (hc k hly).1
      have h2 := (hc k hly).2
      rw [← hbl.cell (p := ⟨gg, 0 + k * 2, none⟩) hg, Nat.zero_add] at h1
      rw [← hbl.cell (p := ⟨gg, 0 + k * 2 + 1, none⟩) hg, Nat.zero_add] at h2
      have hlt' : (k : Int) < (xs.length : Int) := by omega
      have he := HZ.out.each _ (show ys.getD k (0, 0) ∈ ys by simp only [List.getD, List.getElem?_eq_getElem hly, Option.getD_some]; exact List.getElem_mem hly)
      have hstep := merged_step ys k hly HR.out HZ.out.each
      have hmw := merged_wt (ys.take k) (rowF_take HZ.out k).each 61
      have hmb := merged_below (ys.take k) 61
      have hml := merged_len (ys.take k) 61
      have hwt := (rowF_bounds (rowF_take HZ.out k)).2.1
      generalize mergedF (ys.take k) 61 = ms at hown hstep hmw hmb hml
      generalize ys.getD k (0, 0) = x at h1 h2 he hstep
      obtain ⟨p, q⟩ := x
      simp only at h1 h2 he
      obtain ⟨⟨e0, e1⟩, e2, e3⟩ := he
      have HST := Lib.hid hstep
      have HB := Lib.hid hbl
      have hbs := hbl.size
      have hown' := hown
      unfold OwnL at hown'
      have HO := Lib.hid hown'
      clear hc hstep hbl hown
      by_cases hms : ms = []
      · subst hms
        obtain ⟨o, cb, rfl⟩ : ∃ o cb, u4 = .slice o 0 cb := by
          rcases hown'.2 with ⟨rfl, _⟩ | ⟨gb, cb, cu, rfl, _⟩
          · exact ⟨none, 0, rfl⟩
          · exact ⟨_, cb, rfl⟩
        replace hown' : wr.ownsRow w2.heap.size 46 2 (.slice o 0 cb) 0 (cellsF []) := hown'
        have HA := Lib.hid (show addF [] (p, q) = [] ++ [(p, q)] from rfl)
        have HW := Lib.hid hown'
        clear hmw hmb hml hwt HO hown'
        go_wp2
        go_quiet (fail)
        obtain ⟨W, hW⟩ : ∃ W, (wr.alloc (.cells #[.int .i64 p, .int .i64 q] 46)).drewN nq = W := ⟨_, rfl⟩
        have y2 : W.cell? ⟨wr.heap.size, 0, none⟩ = some (.int .i64 p) := by rw [← hW]; exact (World.cell?_alloc_at _ _ _ _ rfl).trans rfl
        have y3 : W.cell? ⟨wr.heap.size, 1, none⟩ = some (.int .i64 q) := by rw [← hW]; exact (World.cell?_alloc_at _ _ _ _ rfl).trans rfl
        have oW : W.ownsRow w2.heap.size 46 2 (.slice o 0 cb) 0 (cellsF []) := by rw [← hW]; exact HW.out.alloc _
        have hbW : Below w2.heap.size w2 W := by
          rw [← hW]
          exact (HB.out.alloc hbs _).trans ((drewN_below _ nq).mono (by simp; omega))
        have hWs := hbW.size
        have BW := Lib.hid hbW
        rw [hW]
        clear hW h1 h2 hbW
        go_wp2_with (at_builtin; refine wpList_append_own _ rfl _ _ 24 rfl w2.heap.size 46 i0 (.agg #[.int .i64 0, .int .i64 0]) 2 16 Try.underlying24 hi hz0 hz1 hz2 rfl (by decide) _ _ _ rfl (oW.alloc _) ⟨W.heap.size, 0, none⟩ 1 1 (cellsF [(p, q)]) rfl rfl (two_new W p q _) (cellsF_one [(p, q)]) (by unfold maxLen; omega) (by omega) (by simp; omega) ?_; intro v3 w3 hown3 hgrow3 hnil3)
        have R := Lib.hid (show OwnL w3 w2.heap.size v3 (mergedF (ys.take (k + 1)) 61) by
          rw [HST.out, HA.out]
          exact ownL_app hown3 rfl rfl)
        have BB := Lib.hid ((BW.out.alloc hWs _).grown hgrow3 (by simp; omega) (fun q hq => (oW.lt q hq).1))
        clear hown3 hgrow3 hnil3 oW
        go_wp2
        exact ⟨⟨k + 1, by omega, by go_num, R.out, BB.out⟩, by simp [intOf]; omega⟩
      · obtain ⟨K, L, hL, hK⟩ : ∃ K L, L = K + 1 ∧ ms.length = L := ⟨ms.length - 1, ms.length, by have := List.length_pos_iff.2 hms; omega, rfl⟩
        rcases hown'.2 with ⟨_, h0⟩ | ⟨gb, cb, cu, rfl, hgb, hcu, _⟩
        · omega
        have hgl : gb < wr.heap.size := (Array.getElem?_eq_some_iff.1 hcu).1
        rw [hK] at hown' ⊢
        have hca := cellsF_at ms K (by omega)
        have z1 := hown'.cellAt (K * 2) (by omega)
        have z2 := hown'.cellAt (K * 2 + 1) (by omega)
        rw [hca.1] at z1
        rw [hca.2] at z2
        have f2 := hown'.frozenAt (K * 2 + 1)
        have hmem : ms.getD K (0, 0) ∈ ms := by simp only [List.getD, List.getElem?_eq_getElem (show K < ms.length by omega), Option.getD_some]; exact List.getElem_mem _
        have hb1 := hmb _ hmem
        have hb2 := hmw _ hmem
        have hst2 := ((hown'.alloc (.cells #[.int .i64 p, .int .i64 q] 46)).stored (K * 2 + 1) (.int .i64 ((ms.getD K (0, 0)).2 + q))).1
        rw [cellsF_set2 ms K _ (by omega)] at hst2
        obtain ⟨l, hl⟩ : ∃ l, ms.getD K (0, 0) = l := ⟨_, rfl⟩
        rw [hl] at z1 z2 hb1 hb2 hst2
        obtain ⟨a, b⟩ := l
        simp only at z1 z2 hb1 hb2 hst2
        replace z1 := Lib.cell?_alloc_some (.cells #[.int .i64 p, .int .i64 q] 46) z1
        replace z2 := Lib.cell?_alloc_some (.cells #[.int .i64 p, .int .i64 q] 46) z2
        have f2' : (wr.alloc (.cells #[.int .i64 p, .int .i64 q] 46)).frozen? ⟨gb, K * 2 + 1, none⟩ = false := (World.frozen?_alloc_past (w := wr) _ gb (K * 2 + 1) hgl).trans f2
        have bb1 : b ≤ 1188 := by omega
        have k61 : (K : Int) ≤ 60 := by omega
        have l61 : (L : Int) ≤ 61 := by omega
        have hKL : (K : Int) < (L : Int) := by omega
        have hLi : (L : Int) - 1 = (K : Int) := by omega
        have k0 : (0 : Int) ≤ (K : Int) := by omega
        have bb0 : 0 < b := hb1.2.2
        have HL := Lib.hid hL
        have HK := Lib.hid hK
        clear hmw hmb hml hwt hca hcu hb1 hb2 hmem f2
        by_cases hap : a = p
        · subst hap
          have HA := Lib.hid (addF_eq (x := (a, q)) (hK.trans hL) hl rfl)
          have hab : (a == a) = true := by simp
          clear hL hK
          have hw1 : IntKind.i64.wrap (b + q) = b + q := by rw [IntKind.wrap_i64]; omega
          clear hown'
          go_wp2
          go_quiet (fail)
          go_wp2
          obtain ⟨W, hW⟩ : ∃ W, (wr.alloc (.cells #[.int .i64 a, .int .i64 q] 46)).drewN nq = W := ⟨_, rfl⟩
          have y1 : W.cell? ⟨gb, K * 2 + 1, none⟩ = some (.int .i64 b) := by rw [← hW]; exact z2
          have y2 : W.cell? ⟨wr.heap.size, 1, none⟩ = some (.int .i64 q) := by rw [← hW]; exact (World.cell?_alloc_at _ _ _ _ rfl).trans rfl
          have y3 : W.frozen? ⟨gb, K * 2 + 1, none⟩ = false := by rw [← hW]; exact f2'
          have RW := Lib.hid (show OwnL (W.setCell ⟨gb, K * 2 + 1, none⟩ (.int .i64 (b + q))) w2.heap.size (.slice (some ⟨gb, 0, none⟩) L cb) (mergedF (ys.take (k + 1)) 61) by
            rw [HST.out, HA.out]
            unfold OwnL
            rw [List.length_set, HK.out, ← hW]
            exact hst2)
          have BW := Lib.hid (show Below w2.heap.size w2 (W.setCell ⟨gb, K * 2 + 1, none⟩ (.int .i64 (b + q))) by
            rw [← hW]
            exact ((HB.out.alloc hbs _).trans ((drewN_below _ nq).mono (by simp; omega))).setCell (p := ⟨gb, K * 2 + 1, none⟩) hgb _)
          rw [hW]
          clear hW z1 z2 f2' hst2 h1 h2
          refine wp_region_still_tail 10 (by kernel_rfl) (by kernel_rfl) ?_
          simp only [List.take_succ_cons, List.take_zero, List.drop_succ_cons, List.drop_zero]
          change wpStill _ _ W.drew _ _ _
          repeat still_step
          refine wpStill_nil ?_
          change wpList _ _ _ _ _ W.drew
          go_wp2
          exact ⟨⟨k + 1, by omega, by go_num, RW.out.drew, BW.out.drew⟩, by simp [intOf]; omega⟩
        · have HA := Lib.hid (addF_ne (x := (p, q)) (hK.trans hL) hl hap)
          have hab : (a == p) = false := by simpa using hap
          have HW := Lib.hid hown'
          clear hL hK hap hst2 hown'
          go_wp2
          go_quiet (fail)
          obtain ⟨W, hW⟩ : ∃ W, (wr.alloc (.cells #[.int .i64 p, .int .i64 q] 46)).drewN nq = W := ⟨_, rfl⟩
          have y2 : W.cell? ⟨wr.heap.size, 0, none⟩ = some (.int .i64 p) := by rw [← hW]; exact (World.cell?_alloc_at _ _ _ _ rfl).trans rfl
          have y3 : W.cell? ⟨wr.heap.size, 1, none⟩ = some (.int .i64 q) := by rw [← hW]; exact (World.cell?_alloc_at _ _ _ _ rfl).trans rfl
          have oW : W.ownsRow w2.heap.size 46 2 (.slice (some ⟨gb, 0, none⟩) L cb) L (cellsF ms) := by rw [← hW]; exact HW.out.alloc _
          have hbW : Below w2.heap.size w2 W := by
            rw [← hW]
            exact (HB.out.alloc hbs _).trans ((drewN_below _ nq).mono (by simp; omega))
          have hWs := hbW.size
          have BW := Lib.hid hbW
          rw [hW]
          clear hW h1 h2 hbW
          go_wp2_with (at_builtin; refine wpList_append_own _ rfl _ _ 24 rfl w2.heap.size 46 i0 (.agg #[.int .i64 0, .int .i64 0]) 2 16 Try.underlying24 hi hz0 hz1 hz2 rfl (by decide) _ _ _ rfl (oW.alloc _) ⟨W.heap.size, 0, none⟩ 1 1 (cellsF [(p, q)]) rfl rfl (two_new W p q _) (cellsF_one [(p, q)]) (by unfold maxLen; omega) (by omega) (by simp; omega) ?_; intro v3 w3 hown3 hgrow3 hnil3)
          have R := Lib.hid (show OwnL w3 w2.heap.size v3 (mergedF (ys.take (k + 1)) 61) by
            rw [HST.out, HA.out]
            exact ownL_app hown3 HK.out rfl)
          have BB := Lib.hid ((BW.out.alloc hWs _).grown hgrow3 (by simp; omega) (fun q hq => (oW.lt q hq).1))
          clear hown3 hgrow3 hnil3 oW
          go_wp2
          exact ⟨⟨k + 1, by omega, by go_num, R.out, BB.out⟩, by simp [intOf]; omega⟩
    · obtain rfl : k = xs.length := by omega
      have hge : ¬ (xs.length : Int) < (xs.length : Int) := by omega
      have HF := Lib.hid (show OwnL wr w.heap.size u4 (mergedF xs 61) by
        rw [← HM.out, ← List.take_length (l := ys), HYL.out]
        exact ownL_mono hown L2.out.size)
      have HB := Lib.hid (L2.out.trans (hbl.mono L2.out.size))
      clear hown hbl
      go_wp2
      go_ret
      exact ⟨_, rfl, HF.out, HB.out⟩
end Go.Proofs.Ytjchmjbgboeolaa
