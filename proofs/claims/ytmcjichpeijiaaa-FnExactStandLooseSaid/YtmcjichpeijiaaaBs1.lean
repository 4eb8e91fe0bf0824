/- Lists of cells set behind one another. -/
import Derived.Test.YtmcjichpeijiaaaBq3
import Derived.Laws.EntriesVeiled
import Derived.Lib.AppendZeros
namespace Go.Proofs.Ytmcjichpeijiaaa
open Go.RowKit Go.Maps
/-- A part of a row of cells. -/
def PartC (w : World) (v : Value) (xs : List (Int × Int)) : Prop :=
  ∃ g off c, v = .slice (some ⟨g, off, none⟩) xs.length c ∧ g < w.heap.size ∧ ∀ j, j < xs.length → w.cell? ⟨g, off + j * 2, none⟩ = some (.int .i64 (xs.getD j (0, 0)).1) ∧ w.cell? ⟨g, off + j * 2 + 1, none⟩ = some (.int .i64 (xs.getD j (0, 0)).2)
theorem rowC_news {w w1 : World} {g off : Nat} {xs : List (Int × Int)} (hg : g < w.heap.size) (h : ∀ j u, (cellsF xs)[j]? = some u → w.cell? ((⟨g, off, none⟩ : Addr).add j) = some u) (l : Below w.heap.size w w1) : ∀ j u, (cellsF xs)[j]? = some u → w1.cell? ((⟨g, off, none⟩ : Addr).add j) = some u := fun j u hj => by
  have := h j u hj
  rw [Go.WideShapes.add_plain] at this ⊢
  rw [l.cell (p := ⟨g, off + j, none⟩) hg]
  exact this
theorem growC_zero (w : World) : Calls Try.prog 156 #[.slice none 0 0, .int .i64 0] w fun e w' => e = .returned (.slice none 0 0) ∧ w = w' := by
  go_enter Try.func156, Try.ntmps156
  go_wp2
  go_ret
  exact ⟨rfl, rfl⟩
theorem grownC_own (w : World) (n : Nat) (hn : n ≤ 24) : OwnC (w.drew.alloc (.cells (Builtin.zeroCells #[.int .i64 0, .int .i64 0] n ++ Builtin.zeroCells #[.int .i64 0, .int .i64 0] (grownCap w n 0 29 - n)) 29)) w.heap.size (.slice (some ⟨w.heap.size, 0, none⟩) 0 (grownCap w n 0 29)) [] := by
  have h1 := grownCap_ge w n 0 29
  have h2 := grownCap_le_maxLen w n 0 29 (by unfold maxLen; omega)
  unfold OwnC
  refine ⟨rfl, .inr ⟨w.heap.size, _, Builtin.zeroCells #[.int .i64 0, .int .i64 0] n ++ Builtin.zeroCells #[.int .i64 0, .int .i64 0] (grownCap w n 0 29 - n), rfl, Nat.le_refl _, ?_, Nat.zero_le _, h2, ?_, rfl⟩⟩
  · exact heap_alloc_new w.drew _
  · rw [Array.size_append, size_zeroCells, size_zeroCells]
    simp
    omega
set_option maxRecDepth 100000 in
theorem growC_pos (z : Int) (n : Nat) (hz : z = (n : Int)) (h0 : 0 < n) (hn : n ≤ 24) (w : World) :
    Calls Try.prog 156 #[.slice none 0 0, .int .i64 z] w fun e w' => ∃ v', e = .returned v' ∧ OwnC w' w.heap.size v' [] ∧ v' ≠ .slice none 0 0 ∧ Below w.heap.size w w' := by
  subst hz
  obtain ⟨i0, hi, hz0, hz1, hz2⟩ := info_parts infoA2
  have happ := Lib.run_append_nil_zeros (P := Try.prog) w 22 3 22 29 i0 _ .i64 .i64 Try.underlying22 Try.underlying3 hi hz0 n h0 (by omega) (by omega) (by rw [hz2]; omega)
  have OW := Lib.hid (grownC_own w n hn)
  have BW := Lib.hid (show Below w.heap.size w (w.drew.alloc (.cells (Builtin.zeroCells #[.int .i64 0, .int .i64 0] n ++ Builtin.zeroCells #[.int .i64 0, .int .i64 0] (grownCap w n 0 29 - n)) 29)) from (Below.refl _ _).drew.alloc (Nat.le_refl _) _)
  have h0' : (0 : Int) < (n : Int) := by omega
  have hn' : (n : Int) ≤ 24 := by omega
  go_enter Try.func156, Try.ntmps156
  go_wp2_with (at_builtin; refine Lib.wpList_append_run _ rfl _ _ _ _ rfl _ _ rfl rfl _ _ happ ?_)
  go_ret
  exact ⟨_, rfl, OW.out, by simp, BW.out⟩
theorem growC_any (z : Int) (n : Nat) (hz : z = (n : Int)) (hn : n ≤ 24) (w : World) :
    Calls Try.prog 156 #[.slice none 0 0, .int .i64 z] w fun e w' => ∃ v', e = .returned v' ∧ OwnC w' w.heap.size v' [] ∧ Below w.heap.size w w' := by
  by_cases h : n = 0
  · subst h
    subst hz
    refine (growC_zero w).mono ?_
    rintro e w' ⟨rfl, rfl⟩
    exact ⟨_, rfl, World.ownsRow_nil w _ _ _, Below.refl _ _⟩
  · refine (growC_pos z n hz (by omega) hn w).mono ?_
    rintro e w' ⟨v', rfl, ho, _, hl⟩
    exact ⟨v', rfl, ho, hl⟩
set_option maxRecDepth 100000 in
set_option maxHeartbeats 1600000 in
theorem concatC_any (b : Nat) (va vb : Value) (xs ys : List (Int × Int)) (w : World) (c0 : w.cell? ⟨b, 0, none⟩ = some va) (c1 : w.cell? ⟨b, 1, none⟩ = some vb) (ha : PartC w va xs) (hb : PartC w vb ys) (hx : xs.length ≤ 12) (hy : ys.length ≤ 12) :
    Calls Try.prog 118 #[.slice (some ⟨b, 0, none⟩) 2 2] w fun e w' => ∃ v', e = .returned v' ∧ OwnC w' w.heap.size v' (xs ++ ys) ∧ Below w.heap.size w w' := by
  obtain ⟨i0, hi, hz0, hz1, hz2⟩ := info_parts infoA2
  obtain ⟨g, off, c, rfl, hg, hc⟩ := ha
  obtain ⟨g', off', c', rfl, hg', hc'⟩ := hb
  have H1 := Lib.hid (loadRow_news hc)
  have H2 := Lib.hid (loadRow_news hc')
  have G1 := Lib.hid hg
  have G2 := Lib.hid hg'
  have hb := cell_lt c0
  have x0 : ¬ (xs.length : Int) < 0 := by omega
  have x1 : (xs.length : Int) ≤ 12 := by omega
  have y1 : (ys.length : Int) ≤ 12 := by omega
  have xy : ¬ (xs.length : Int) + (ys.length : Int) < 0 := by omega
  clear hc hc' hg hg'
  go_enter Try.func118, Try.ntmps118
  go_wp2
  refine wp_loop_rounds 3 ?_
  rw [rounds_succ]
  go_wp2
  rw [rounds_succ]
  go_wp2
  rw [rounds_succ]
  go_wp2_with fail
  refine (growC_any _ (xs.length + ys.length) (by omega) (by omega) w).mono ?_
  rintro e w1 ⟨v1, rfl, o1, l1⟩
  have C0 : w1.cell? ⟨b, 0, none⟩ = some (.slice (some ⟨g, off, none⟩) xs.length c) := by rw [l1.cell (p := ⟨b, 0, none⟩) hb]; exact c0
  have C1 : w1.cell? ⟨b, 1, none⟩ = some (.slice (some ⟨g', off', none⟩) ys.length c') := by rw [l1.cell (p := ⟨b, 1, none⟩) hb]; exact c1
  replace o1 : w1.ownsRow w.heap.size 29 2 v1 0 (cellsF []) := o1
  have hs1 := l1.size
  clear c0 c1
  go_wp2
  refine wp_loop_rounds 3 ?_
  rw [rounds_succ]
  go_wp2_with (at_builtin; refine wpList_append_own _ rfl _ _ 22 rfl w.heap.size 29 i0 (.agg #[.int .i64 0, .int .i64 0]) 2 16 Try.underlying22 hi hz0 hz1 hz2 rfl (by decide) _ _ _ rfl o1 ⟨g, off, none⟩ xs.length c (cellsF xs) rfl (cellsF_len xs) (rowC_news G1.out H1.out l1) (cellsF_one xs) (by unfold maxLen; omega) (by omega) hs1 ?_; intro v2 w2 hown2 hgrow2 hnil2)
  have B2 := l1.grown hgrow2 hs1 (fun q hq => (o1.lt q hq).1)
  have hs2 := B2.size
  have C2 : w2.cell? ⟨b, 1, none⟩ = some (.slice (some ⟨g', off', none⟩) ys.length c') := by
    have hb1 : b < w1.heap.size := by omega
    rw [← C1]
    exact World.cell?_of_block (hgrow2.block b hb1 (fun h => by have := (o1.lt b h.symm).1; omega))
  have H3 := Lib.hid (rowC_news G2.out H2.out B2)
  clear C0 C1 hgrow2 hnil2
  go_wp2
  rw [rounds_succ]
  go_wp2_with (at_builtin; refine wpList_append_own _ rfl _ _ 22 rfl w.heap.size 29 i0 (.agg #[.int .i64 0, .int .i64 0]) 2 16 Try.underlying22 hi hz0 hz1 hz2 rfl (by decide) _ _ _ rfl hown2 ⟨g', off', none⟩ ys.length c' (cellsF ys) rfl (cellsF_len ys) H3.out (cellsF_one ys) (by unfold maxLen; omega) (by omega) hs2 ?_; intro v3 w3 hown3 hgrow3 hnil3)
  have B3 := B2.grown hgrow3 hs2 (fun q hq => (hown2.lt q hq).1)
  have R := Lib.hid (show OwnC w3 w.heap.size v3 (xs ++ ys) from ownC_app (xs := xs) (ys := ys) (by rw [Nat.zero_add] at hown3; exact hown3) rfl rfl)
  have BB := Lib.hid B3
  clear hown3 hgrow3 hnil3 B3 B2 hown2 C2 o1
  go_wp2
  rw [rounds_succ]
  go_wp2
  go_ret
  exact ⟨_, rfl, R.out, BB.out⟩
end Go.Proofs.Ytmcjichpeijiaaa
