/- The program's joined rows, and a row with one more load that stands. -/
import Derived.Test.YthncgcdnljoakaaRows3
import Derived.Test.YthncgcdnljoakaaImpl5
import Derived.Test.YthncgcdnljoakaaScan
import Derived.Laws.EntriesVeiled
import Derived.Lib.AppendZeros
namespace Go.Proofs.Ythncgcdnljoakaa
open Go.RowKit
theorem rowForms_any (w : World) : Calls Try.prog 175 #[] w fun e w' => e = .returned (.agg #[.func (.func 192) #[] #[], .func (.func 193) #[] #[], .func (.func 194) #[] #[], .func (.func 195) #[] #[]]) ∧ Below w.heap.size w w' := by
  go_enter Try.func175, Try.ntmps175
  go_wp2
  exact bodyPost_ret (v := .agg #[.func (.func 192) #[] #[], .func (.func 193) #[] #[], .func (.func 194) #[] #[], .func (.func 195) #[] #[]]) (by simp [results, Try.results175, go_sem]) rfl ⟨rfl, (Below.refl _ _).alloc (Nat.le_refl _) _⟩
theorem ownL_mono {w : World} {B B' : Nat} {v : Value} {xs : List (Int × Int)} (h : OwnL w B v xs) (hb : B' ≤ B) : OwnL w B' v xs := by
  unfold OwnL at *
  refine ⟨h.1, ?_⟩
  rcases h.2 with h | ⟨g, cap, cur, e, hg, r⟩
  · exact .inl h
  · exact .inr ⟨g, cap, cur, e, Nat.le_trans hb hg, r⟩
theorem grow_zero (w : World) : Calls Try.prog 218 #[.slice none 0 0, .int .i64 0] w fun e w' => e = .returned (.slice none 0 0) ∧ w = w' := by
  go_enter Try.func218, Try.ntmps218
  go_wp2
  go_ret
  exact ⟨rfl, rfl⟩
theorem grown_own (w : World) (n : Nat) (hn : n ≤ 24) : OwnL (w.drew.alloc (.cells (Builtin.zeroCells #[.int .i64 0, .int .i64 0] n ++ Builtin.zeroCells #[.int .i64 0, .int .i64 0] (grownCap w n 0 78 - n)) 78)) w.heap.size (.slice (some ⟨w.heap.size, 0, none⟩) 0 (grownCap w n 0 78)) [] := by
  have h1 := grownCap_ge w n 0 78
  have h2 := grownCap_le_maxLen w n 0 78 (by unfold maxLen; omega)
  unfold OwnL
  refine ⟨rfl, .inr ⟨w.heap.size, _, Builtin.zeroCells #[.int .i64 0, .int .i64 0] n ++ Builtin.zeroCells #[.int .i64 0, .int .i64 0] (grownCap w n 0 78 - n), rfl, Nat.le_refl _, ?_, Nat.zero_le _, h2, ?_, rfl⟩⟩
  · exact heap_alloc_new w.drew _
  · rw [Array.size_append, size_zeroCells, size_zeroCells]
    simp
    omega
set_option maxRecDepth 100000 in
theorem grow_pos (z : Int) (n : Nat) (hz : z = (n : Int)) (h0 : 0 < n) (hn : n ≤ 24) (w : World) :
    Calls Try.prog 218 #[.slice none 0 0, .int .i64 z] w fun e w' => ∃ v', e = .returned v' ∧ OwnL w' w.heap.size v' [] ∧ v' ≠ .slice none 0 0 ∧ Below w.heap.size w w' := by
  subst hz
  obtain ⟨i0, hi, hz0, hz1, hz2⟩ := info_parts infoLoad
  have happ := Lib.run_append_nil_zeros (P := Try.prog) w 32 3 32 78 i0 _ .i64 .i64 Try.underlying32 Try.underlying3 hi hz0 n h0 (by omega) (by omega) (by rw [hz2]; omega)
  have OW := Lib.hid (grown_own w n hn)
  have BW := Lib.hid (show Below w.heap.size w (w.drew.alloc (.cells (Builtin.zeroCells #[.int .i64 0, .int .i64 0] n ++ Builtin.zeroCells #[.int .i64 0, .int .i64 0] (grownCap w n 0 78 - n)) 78)) from (Below.refl _ _).drew.alloc (Nat.le_refl _) _)
  have h0' : (0 : Int) < (n : Int) := by omega
  have hn' : (n : Int) ≤ 24 := by omega
  go_enter Try.func218, Try.ntmps218
  go_wp2_with (at_builtin; refine Lib.wpList_append_run _ rfl _ _ _ _ rfl _ _ rfl rfl _ _ happ ?_)
  go_ret
  exact ⟨_, rfl, OW.out, by simp, BW.out⟩
theorem grow_any (z : Int) (n : Nat) (hz : z = (n : Int)) (hn : n ≤ 24) (w : World) :
    Calls Try.prog 218 #[.slice none 0 0, .int .i64 z] w fun e w' => ∃ v', e = .returned v' ∧ OwnL w' w.heap.size v' [] ∧ Below w.heap.size w w' := by
  by_cases h : n = 0
  · subst h
    subst hz
    refine (grow_zero w).mono ?_
    rintro e w' ⟨rfl, rfl⟩
    exact ⟨_, rfl, World.ownsRow_nil w _ _ _, Below.refl _ _⟩
  · refine (grow_pos z n hz (by omega) hn w).mono ?_
    rintro e w' ⟨v', rfl, ho, _, hl⟩
    exact ⟨v', rfl, ho, hl⟩
set_option maxRecDepth 100000 in
set_option maxHeartbeats 1600000 in
theorem concat_any (b : Nat) (va vb : Value) (xs ys : List (Int × Int)) (w : World) (c0 : w.cell? ⟨b, 0, none⟩ = some va) (c1 : w.cell? ⟨b, 1, none⟩ = some vb) (ha : SRow w va xs) (hb : SRow w vb ys) (hx : xs.length ≤ 12) (hy : ys.length ≤ 12) :
    Calls Try.prog 212 #[.slice (some ⟨b, 0, none⟩) 2 2] w fun e w' => ∃ v', e = .returned v' ∧ OwnL w' w.heap.size v' (xs ++ ys) ∧ Below w.heap.size w w' := by
  obtain ⟨i0, hi, hz0, hz1, hz2⟩ := info_parts infoLoad
  obtain ⟨g, off, c, rfl, hg, hc⟩ := ha
  obtain ⟨g', off', c', rfl, hg', hc'⟩ := hb
  have H1 := Lib.hid (loadRow_news hc)
  have H2 := Lib.hid (loadRow_news hc')
  have G1 := Lib.hid hg
  have G2 := Lib.hid hg'
  have hb := cell_lt c0
  have x0 : ¬ (xs.length : Int) < 0 := by omega
  have x1 : (xs.length : Int) ≤ 12 := by omega
  have y1 : (ys.length : Int) ≤ 12 := by omega
  have xy : ¬ (xs.length : Int) + (ys.length : Int) < 0 := by omega
  clear hc hc' hg hg'
  go_enter Try.func212, Try.ntmps212
  go_wp2
  refine wp_loop_rounds 3 ?_
  rw [rounds_succ]
  go_wp2
  rw [rounds_succ]
  go_wp2
  rw [rounds_succ]
  go_wp2_with fail
  refine (grow_any _ (xs.length + ys.length) (by omega) (by omega) w).mono ?_
  rintro e w1 ⟨v1, rfl, o1, l1⟩
  have C0 : w1.cell? ⟨b, 0, none⟩ = some (.slice (some ⟨g, off, none⟩) xs.length c) := by rw [l1.cell (p := ⟨b, 0, none⟩) hb]; exact c0
  have C1 : w1.cell? ⟨b, 1, none⟩ = some (.slice (some ⟨g', off', none⟩) ys.length c') := by rw [l1.cell (p := ⟨b, 1, none⟩) hb]; exact c1
  replace o1 : w1.ownsRow w.heap.size 78 2 v1 0 (cellsF []) := o1
  have hs1 := l1.size
  clear c0 c1
  go_wp2
  refine wp_loop_rounds 3 ?_
  rw [rounds_succ]
  go_wp2_with (at_builtin; refine wpList_append_own _ rfl _ _ 32 rfl w.heap.size 78 i0 (.agg #[.int .i64 0, .int .i64 0]) 2 16 Try.underlying32 hi hz0 hz1 hz2 rfl (by decide) _ _ _ rfl o1 ⟨g, off, none⟩ xs.length c (cellsF xs) rfl (cellsF_len xs) (row_news G1.out H1.out l1) (cellsF_one xs) (by unfold maxLen; omega) (by omega) hs1 ?_; intro v2 w2 hown2 hgrow2 hnil2)
  have B2 := l1.grown hgrow2 hs1 (fun q hq => (o1.lt q hq).1)
  have hs2 := B2.size
  have C2 : w2.cell? ⟨b, 1, none⟩ = some (.slice (some ⟨g', off', none⟩) ys.length c') := by
    have hb1 : b < w1.heap.size := by omega
    rw [← C1]
    exact World.cell?_of_block (hgrow2.block b hb1 (fun h => by have := (o1.lt b h.symm).1; omega))
  have H3 := Lib.hid (row_news G2.out H2.out B2)
  clear C0 C1 hgrow2 hnil2
  go_wp2
  rw [rounds_succ]
  go_wp2_with (at_builtin; refine wpList_append_own _ rfl _ _ 32 rfl w.heap.size 78 i0 (.agg #[.int .i64 0, .int .i64 0]) 2 16 Try.underlying32 hi hz0 hz1 hz2 rfl (by decide) _ _ _ rfl hown2 ⟨g', off', none⟩ ys.length c' (cellsF ys) rfl (cellsF_len ys) H3.out (cellsF_one ys) (by unfold maxLen; omega) (by omega) hs2 ?_; intro v3 w3 hown3 hgrow3 hnil3)
  have B3 := B2.grown hgrow3 hs2 (fun q hq => (hown2.lt q hq).1)
  have R := Lib.hid (show OwnL w3 w.heap.size v3 (xs ++ ys) from ownL_app (xs := xs) (ys := ys) (by rw [Nat.zero_add] at hown3; exact hown3) rfl rfl)
  have BB := Lib.hid B3
  clear hown3 hgrow3 hnil3 B3 B2 hown2 C2 o1
  go_wp2
  rw [rounds_succ]
  go_wp2
  go_ret
  exact ⟨_, rfl, R.out, BB.out⟩
theorem joined_any (va vb : Value) (m : Int) (xs ys : List (Int × Int)) (w : World) (ha : SRow w va xs) (hb : SRow w vb ys) (hx : xs.length ≤ 12) (hy : ys.length ≤ 12) :
    Calls Try.prog 193 #[.agg #[va, vb, .int .i64 m]] w fun e w' => ∃ v', e = .returned v' ∧ OwnL w' w.heap.size v' (xs ++ ys) ∧ Below w.heap.size w w' := by
  have hal : Below w.heap.size w ((w.alloc (.cells #[va, vb, .int .i64 m] 160)).alloc (.cells #[va, vb] 32)) := alloc_two _ _ _
  have hs1 : w.heap.size + 1 = (w.alloc (.cells #[va, vb, .int .i64 m] 160)).heap.size := by simp
  have CC := Lib.hid (concat_any (w.heap.size + 1) va vb xs ys ((w.alloc (.cells #[va, vb, .int .i64 m] 160)).alloc (.cells #[va, vb] 32)) ((World.cell?_alloc_at _ _ _ _ hs1).trans rfl) ((World.cell?_alloc_at _ _ _ _ hs1).trans rfl) (ha.lo hal) (hb.lo hal) hx hy)
  have hva : ∃ x n c, va = .slice x n c := by obtain ⟨g, off, c, rfl, _⟩ := ha; exact ⟨_, _, _, rfl⟩
  have hvb : ∃ x n c, vb = .slice x n c := by obtain ⟨g, off, c, rfl, _⟩ := hb; exact ⟨_, _, _, rfl⟩
  obtain ⟨x0, n0, c0, rfl⟩ := hva
  obtain ⟨x1, n1, c1, rfl⟩ := hvb
  have HA := Lib.hid hal
  clear ha hb hal hs1
  go_enter Try.func193, Try.ntmps193
  go_wp2_with fail
  refine CC.out.mono ?_
  rintro e w1 ⟨v1, rfl, o1, l1⟩
  have OO := Lib.hid (show OwnL w1 w.heap.size v1 (xs ++ ys) from ownL_mono o1 (by simp; omega))
  have LL := Lib.hid (lo_on HA.out l1)
  clear o1 l1 CC
  go_wp2
  go_ret
  exact ⟨_, rfl, OO.out, LL.out⟩
theorem OwnL.lo {w w' : World} {B : Nat} {v : Value} {xs : List (Int × Int)} (h : OwnL w B v xs) (l : Below w.heap.size w w') : OwnL w' B v xs := by
  unfold OwnL at *
  refine ⟨h.1, ?_⟩
  rcases h.2 with h | ⟨g, cap, cur, e, hb, hg, r⟩
  · exact .inl h
  · exact .inr ⟨g, cap, cur, e, hb, (l.block g (Array.getElem?_eq_some_iff.1 hg).1).trans hg, r⟩
theorem row_is (v : Value) (xs : List (Int × Int)) (r : Bool) (h : rowB xs = r) (w : World) (hr : LoadRow w v xs) : Calls Try.prog 102 #[v] w fun e w' => e = .returned (.bool r) ∧ Below w.heap.size w w' := by
  subst h
  exact isRow_any v xs w hr
theorem three_cells {w : World} {x y z : Value} {T : TypeId} {w1 : World} (l : Below (w.alloc (.cells #[x, y, z] T)).heap.size (w.alloc (.cells #[x, y, z] T)) w1) :
    w1.cell? ⟨w.heap.size, 0, none⟩ = some x ∧ w1.cell? ⟨w.heap.size, 1, none⟩ = some y ∧ w1.cell? ⟨w.heap.size, 2, none⟩ = some z ∧ w.heap.size < w1.heap.size ∧ Below w.heap.size w w1 := by
  have hb0 : w.heap.size < (w.alloc (.cells #[x, y, z] T)).heap.size := by simp
  refine ⟨?_, ?_, ?_, Nat.lt_of_lt_of_le hb0 l.size, ((Below.refl _ _).alloc (Nat.le_refl _) _).trans (l.mono (by simp))⟩
  · rw [l.cell (p := ⟨w.heap.size, 0, none⟩) hb0, World.cell?_alloc_at _ _ _ _ rfl]; rfl
  · rw [l.cell (p := ⟨w.heap.size, 1, none⟩) hb0, World.cell?_alloc_at _ _ _ _ rfl]; rfl
  · rw [l.cell (p := ⟨w.heap.size, 2, none⟩) hb0, World.cell?_alloc_at _ _ _ _ rfl]; rfl
set_option maxRecDepth 100000 in
set_option maxHeartbeats 1600000 in
theorem make_joined (x0 x1 : Option Addr) (n0 c0 n1 c1 : Nat) (m : Int) (xs ys made : List (Int × Int)) (w : World) (ha : LoadRow w (.slice x0 n0 c0) xs) (hb : LoadRow w (.slice x1 n1 c1) ys) (hx : rowB xs = true) (hy : rowB ys = true)
    (K : ∀ w1, Below w.heap.size w w1 → Calls Try.prog 193 #[.agg #[.slice x0 n0 c0, .slice x1 n1 c1, .int .i64 m]] w1 fun e w' => ∃ v', e = .returned v' ∧ OwnL w' w1.heap.size v' made ∧ Below w1.heap.size w1 w') :
    Calls Try.prog 162 #[.int .i64 1, .agg #[.slice x0 n0 c0, .slice x1 n1 c1, .int .i64 m]] w fun e w' => ∃ v', e = .returned (.tuple #[v', .bool (rowB made)]) ∧ OwnL w' w.heap.size v' (KeptF made) ∧ Below w.heap.size w w' := by
  have hal : Below w.heap.size w (w.alloc (.cells #[.slice x0 n0 c0, .slice x1 n1 c1, .int .i64 m] 160)) := (Below.refl _ _).alloc (Nat.le_refl _) _
  obtain ⟨r, hr⟩ : ∃ r, rowB made = r := ⟨_, rfl⟩
  rw [hr]
  have R1 := Lib.hid (row_is _ xs true hx _ (ha.lo hal))
  have R2 := Lib.hid (fun w1 (l : Below w.heap.size w w1) => row_is _ ys true hy w1 (hb.lo l))
  have KK := Lib.hid K
  clear ha hb hx hy K hal
  go_enter Try.func162, Try.ntmps162
  go_wp2_with fail
  refine R1.out.mono ?_
  rintro e w1 ⟨rfl, l1⟩
  obtain ⟨a0, a1, a2, az, L1⟩ := three_cells l1
  have R3 := Lib.hid (R2.out w1 L1)
  go_wp2_with fail
  refine R3.out.mono ?_
  rintro e w2 ⟨rfl, l2⟩
  obtain ⟨b0, b1, b2, bz, L2⟩ := three_cells (lo_on l1 l2)
  have LL2 := Lib.hid L2
  have CF := Lib.hid (fun w3 (l : Below w2.heap.size w2 w3) => KK.out w3 (lo_on LL2.out l))
  clear a0 a1 a2 az L1 l1 l2 L2 R1 R2 R3 KK
  have hidx : ∀ w, (Instr.index 172 (.agg #[.func (.func 192) #[] #[], .func (.func 193) #[] #[], .func (.func 194) #[] #[], .func (.func 195) #[] #[]]) (.int .i64 1)).run Try.prog w = .ok (.func (.func 193) #[] #[]) w := by
    intro w
    show _ = _
    kernel_rfl
  go_wp2
  go_region_held3 (fun w' => w'.cell? ⟨w.heap.size, 0, none⟩ = some (.slice x0 n0 c0) ∧ w'.cell? ⟨w.heap.size, 1, none⟩ = some (.slice x1 n1 c1) ∧ w'.cell? ⟨w.heap.size, 2, none⟩ = some (.int .i64 m) ∧ Below w2.heap.size w2 w')
    (first
      | exact ⟨b0, b1, b2, (Below.refl _ _).drew⟩
      | exact ⟨(hl.cell (p := ⟨w.heap.size, 0, none⟩) bz).trans b0, (hl.cell (p := ⟨w.heap.size, 1, none⟩) bz).trans b1, (hl.cell (p := ⟨w.heap.size, 2, none⟩) bz).trans b2, ⟨hl.os, hl.tape, hl.output, hl.size, hl.block⟩⟩
      | exact ⟨(lm.cell (p := ⟨w.heap.size, 0, none⟩) bz).trans b0, (lm.cell (p := ⟨w.heap.size, 1, none⟩) bz).trans b1, (lm.cell (p := ⟨w.heap.size, 2, none⟩) bz).trans b2, lm⟩
      | (refine ⟨?_, ?_, ?_, ?_⟩ <;> assumption))
    ((first
      | (go_at_call 175; refine (rowForms_any _).mono ?_; rintro e w3 ⟨rfl, hl⟩)
      | (go_at_call 193; have lm0 : Below w2.heap.size w2 w3 := ⟨hl.os, hl.tape, hl.output, hl.size, hl.block⟩; refine (CF.out w3 lm0).mono ?_; rintro e w4 ⟨v4, rfl, o4, l4⟩; have lm := lo_on lm0 l4; have lm1 := lm0)))
  all_goals
    (have B3 : Below w.heap.size w w3 := lo_on LL2.out lm1
     have o5 : OwnL w4 w.heap.size v4 made := ownL_mono o4 B3.size
     have B4 : Below w.heap.size w w4 := lo_on B3 l4
     have R4 := Lib.hid (row_is v4 made r hr w4 (loadRow_own o5))
     have O5 := Lib.hid o5
     have B5 := Lib.hid B4
     clear o4 o5 B3 B4 l4 lm lm1 lm0 hl b0 b1 b2 hidx
     go_wp2_with fail
     refine R4.out.mono ?_
     rintro e w5 ⟨rfl, l5⟩
     have O6 := Lib.hid (OwnL.lo O5.out l5)
     have B6 := Lib.hid (lo_on B5.out l5)
     have KF := Lib.hid (show KeptF made = if r = true then made else [] by unfold KeptF; rw [hr])
     clear l5 O5 B5 R4 CF LL2
     cases r
     all_goals
       (go_wp2
        go_ret2
        exact ⟨_, rfl, by rw [KF.out]; first | exact O6.out | exact World.ownsRow_nil _ _ _ _, B6.out⟩))
set_option maxHeartbeats 800000 in
theorem make_no (f : Int) (x0 x1 : Option Addr) (n0 c0 n1 c1 : Nat) (m : Int) (xs ys : List (Int × Int)) (w : World) (ha : LoadRow w (.slice x0 n0 c0) xs) (hb : LoadRow w (.slice x1 n1 c1) ys) (h : (rowB xs && rowB ys) = false) :
    Calls Try.prog 162 #[.int .i64 f, .agg #[.slice x0 n0 c0, .slice x1 n1 c1, .int .i64 m]] w fun e w' => e = .returned (.tuple #[.slice none 0 0, .bool false]) ∧ Below w.heap.size w w' := by
  have hal : Below w.heap.size w (w.alloc (.cells #[.slice x0 n0 c0, .slice x1 n1 c1, .int .i64 m] 160)) := (Below.refl _ _).alloc (Nat.le_refl _) _
  cases hx : rowB xs with
  | false =>
    have R1 := Lib.hid (row_is _ xs false hx _ (ha.lo hal))
    have HA := Lib.hid hal
    clear ha hb h hx hal
    go_enter Try.func162, Try.ntmps162
    go_wp2_with fail
    refine R1.out.mono ?_
    rintro e w1 ⟨rfl, l1⟩
    have LL := Lib.hid (HA.out.trans (l1.mono (by simp)))
    clear l1
    go_wp2
    go_ret2
    exact ⟨rfl, LL.out⟩
  | true =>
    rw [hx, Bool.true_and] at h
    have R1 := Lib.hid (row_is _ xs true hx _ (ha.lo hal))
    have R2 := Lib.hid (fun w1 (l : Below w.heap.size w w1) => row_is _ ys false h w1 (hb.lo l))
    clear ha hb h hx hal
    go_enter Try.func162, Try.ntmps162
    go_wp2_with fail
    refine R1.out.mono ?_
    rintro e w1 ⟨rfl, l1⟩
    obtain ⟨a0, a1, a2, az, L1⟩ := three_cells l1
    have R3 := Lib.hid (R2.out w1 L1)
    go_wp2_with fail
    refine R3.out.mono ?_
    rintro e w2 ⟨rfl, l2⟩
    have LL := Lib.hid (lo_on L1 l2)
    clear a0 a1 a2 az L1 l1 l2 R1 R2 R3
    go_wp2
    go_ret2
    exact ⟨rfl, LL.out⟩
def mkF (b : Bool) (made : List (Int × Int)) : List (Int × Int) := if b = true then KeptF made else []
/-- What a call that makes a row answers: a row of its own, and whether it is one. -/
def Made (w : World) (b : Bool) (made : List (Int × Int)) (e : Ending) (w' : World) : Prop := ∃ v', e = .returned (.tuple #[v', .bool (b && rowB made)]) ∧ OwnL w' w.heap.size v' (mkF b made) ∧ Below w.heap.size w w'
theorem made_no {w w' : World} {b : Bool} {made : List (Int × Int)} (hb : b = false) (l : Below w.heap.size w w') : Made w b made (.returned (.tuple #[.slice none 0 0, .bool false])) w' := by
  subst hb
  exact ⟨_, rfl, World.ownsRow_nil _ _ _ _, l⟩
theorem made_yes {w w' : World} {b : Bool} {made : List (Int × Int)} {v : Value} (hb : b = true) (o : OwnL w' w.heap.size v (KeptF made)) (l : Below w.heap.size w w') : Made w b made (.returned (.tuple #[v, .bool (rowB made)])) w' := by
  subst hb
  exact ⟨v, by simp, by unfold mkF; simpa using o, l⟩
theorem srow_slice {w : World} {v : Value} {xs : List (Int × Int)} (h : SRow w v xs) : ∃ x n c, v = .slice x n c := by obtain ⟨g, off, c, rfl, _⟩ := h; exact ⟨_, _, _, rfl⟩
theorem JoinRows_is (v u : Value) (xs ys : List (Int × Int)) (w : World) (h : SRow w v xs) (k : SRow w u ys) : Calls Try.prog 132 #[v, u] w (Made w (rowB xs && rowB ys) (xs ++ ys)) := by
  obtain ⟨x0, n0, c0, rfl⟩ := srow_slice h
  obtain ⟨x1, n1, c1, rfl⟩ := srow_slice k
  cases hb : (rowB xs && rowB ys) with
  | false =>
    have MM := Lib.hid (make_no 1 x0 x1 n0 c0 n1 c1 0 xs ys w h.load k.load hb)
    clear h k hb
    go_enter Try.func132, Try.ntmps132
    go_wp2_with fail
    refine MM.out.mono ?_
    rintro e w1 ⟨rfl, l1⟩
    go_wp2
    go_ret2
    exact made_no rfl l1
  | true =>
    rw [Bool.and_eq_true] at hb
    have hx := ((rowB_iff xs).1 hb.1).short
    have hy := ((rowB_iff ys).1 hb.2).short
    have MM := Lib.hid (make_joined x0 x1 n0 c0 n1 c1 0 xs ys (xs ++ ys) w h.load k.load hb.1 hb.2 (fun w1 l => joined_any _ _ 0 xs ys w1 (h.lo l) (k.lo l) hx hy))
    clear h k hb hx hy
    go_enter Try.func132, Try.ntmps132
    go_wp2_with fail
    refine MM.out.mono ?_
    rintro e w1 ⟨v1, rfl, o1, l1⟩
    have OO := Lib.hid o1
    clear o1
    go_wp2
    go_ret2
    exact made_yes rfl OO.out l1
/-- With one more load: a row that stands on a base. -/
def standB (xs : List (Int × Int)) (a b : Int) (x : Int × Int) : Bool := rowB (xs ++ [x]) && baseB a b && decide (sideF a b (xs ++ [x]) = 0)
theorem rowB_app {xs ys : List (Int × Int)} (h : rowB (xs ++ ys) = true) : rowB xs = true ∧ rowB ys = true := by
  have hz := (rowB_iff _).1 h
  have hs := hz.short
  simp only [List.length_append] at hs
  exact ⟨(rowB_iff _).2 ⟨by omega, fun x hx => hz.each x (by simp [hx])⟩, (rowB_iff _).2 ⟨by omega, fun x hx => hz.each x (by simp [hx])⟩⟩
theorem sRow_new (w : World) (p q : Int) (t : TypeId) : SRow (w.alloc (.cells #[.int .i64 p, .int .i64 q] t)) (.slice (some ⟨w.heap.size, 0, none⟩) 1 1) [(p, q)] :=
  ⟨w.heap.size, 0, 1, rfl, .inr (by simp), fun j hj => by
    obtain rfl : j = 0 := by simpa using hj
    exact ⟨(World.cell?_alloc_at _ _ _ _ rfl).trans rfl, (World.cell?_alloc_at _ _ _ _ rfl).trans rfl⟩⟩
set_option maxHeartbeats 1600000 in
theorem standsWith_is (v : Value) (xs : List (Int × Int)) (p q a b : Int) (r : Bool) (hr : standB xs a b (p, q) = r) (w : World) (h : SRow w v xs) :
    Calls Try.prog 100 #[v, .agg #[.int .i64 p, .int .i64 q], .int .i64 a, .int .i64 b] w fun e w' => e = .returned (.bool r) ∧ Below w.heap.size w w' := by
  have hal : Below w.heap.size w ((w.alloc (.cells #[.int .i64 p, .int .i64 q] 78)).alloc (.cells #[.int .i64 p, .int .i64 q] 78)) := alloc_two _ _ _
  have J := JoinRows_is v _ xs [(p, q)] _ (h.lo hal) (sRow_new (w.alloc (.cells #[.int .i64 p, .int .i64 q] 78)) p q 78)
  have hs1 : (w.alloc (.cells #[.int .i64 p, .int .i64 q] 78)).heap.size = w.heap.size + 1 := by simp
  rw [hs1] at J
  have HA := Lib.hid hal
  unfold Made mkF at J
  clear h hal hs1
  cases hR : rowB (xs ++ [(p, q)]) with
  | false =>
    obtain rfl : false = r := by rw [← hr]; unfold standB; rw [hR]; rfl
    rw [hR, Bool.and_false] at J
    have JJ := Lib.hid J
    clear J hr hR
    go_enter Try.func100, Try.ntmps100
    go_wp2_with fail
    refine JJ.out.mono ?_
    rintro e w1 ⟨v1, rfl, _, l1⟩
    have LL := Lib.hid (lo_on HA.out l1)
    clear l1
    go_wp2
    go_ret
    exact ⟨rfl, LL.out⟩
  | true =>
    have hx := rowB_app hR
    rw [show (rowB xs && rowB [(p, q)]) = true by rw [hx.1, hx.2]; rfl, hR, if_pos rfl, show KeptF (xs ++ [(p, q)]) = xs ++ [(p, q)] by unfold KeptF; rw [if_pos hR], Bool.and_self] at J
    have JJ := Lib.hid J
    have hr2 : (baseB a b && decide (sideF a b (xs ++ [(p, q)]) = 0)) = r := by rw [← hr]; unfold standB; rw [hR]; rfl
    have HR := Lib.hid hR
    clear J hr hx
    cases hb : baseB a b with
    | false =>
      obtain rfl : false = r := by rw [← hr2, hb]; rfl
      go_enter Try.func100, Try.ntmps100
      go_wp2_with fail
      refine JJ.out.mono ?_
      rintro e w1 ⟨v1, rfl, o1, l1⟩
      have LL := Lib.hid (lo_on HA.out l1)
      have T := Lib.hid (tipSide_no v1 _ a b w1 (loadRow_own o1) (by rw [hb, Bool.and_false]))
      clear l1 o1 JJ hR hr2 hb
      go_wp2_with fail
      refine T.out.mono ?_
      rintro e w2 ⟨rfl, l2⟩
      go_wp2
      go_ret
      exact ⟨rfl, lo_on LL.out l2⟩
    | true =>
      rw [hb, Bool.true_and] at hr2
      obtain ⟨s, hs⟩ : ∃ s, sideF a b (xs ++ [(p, q)]) = s := ⟨_, rfl⟩
      rw [hs] at hr2
      have T0 := Lib.hid (fun v1 w1 (o1 : LoadRow w1 v1 (xs ++ [(p, q)])) => tipSide_yes v1 _ a b w1 o1 ((rowB_iff _).1 hR) hb)
      rw [hs] at T0
      clear hR hs hb
      have hsb : (s == 0) = r := by rw [← hr2]; rfl
      cases r
      all_goals
        (clear hr2
         go_enter Try.func100, Try.ntmps100
         go_wp2_with fail
         refine JJ.out.mono ?_
         rintro e w1 ⟨v1, rfl, o1, l1⟩
         have LL := Lib.hid (lo_on HA.out l1)
         have T := Lib.hid (T0.out v1 w1 (loadRow_own o1))
         clear l1 o1 JJ T0
         go_wp2_with fail
         refine T.out.mono ?_
         rintro e w2 ⟨rfl, l2⟩
         go_wp2
         go_ret
         exact ⟨rfl, lo_on LL.out l2⟩)
end Go.Proofs.Ythncgcdnljoakaa
