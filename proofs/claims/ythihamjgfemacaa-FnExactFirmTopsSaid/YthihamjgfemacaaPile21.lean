/- A pile with one more brick: the program's. -/
import Derived.Test.YthihamjgfemacaaPile10
namespace Go.Proofs.Ythihamjgfemacaa
open Go.RowKit
set_option maxRecDepth 100000 in
set_option maxHeartbeats 3200000 in
theorem topLoad_yes (v : Value) (p : PileV) (y z : Int) (w : World) (hv : PileRow w v p) (hf : PileF p) :
    Calls Try.prog 120 #[v, .int .i64 y, .int .i64 z] w (MadeP w true (topP p y z)) := by
  have hb : pileB p = true := (pileB_iff p).2 hf
  obtain ⟨g, off, c, g', off', c', rfl, PC⟩ := pile_open hv hf
  have hn8 := hf.short
  have hsame := hf.same
  obtain ⟨W, hW⟩ : ∃ W, (w.alloc (.cells #[.int .i64 p.wd, .slice (some ⟨g, off, none⟩) p.ls.length c, .slice (some ⟨g', off', none⟩) p.ls.length c'] 63)).alloc (.cells #[.int .i64 0, .slice none 0 0, .slice none 0 0] 63) = W := ⟨_, rfl⟩
  have LW := Lib.hid (show Below w.heap.size w W by rw [← hW]; exact ((Below.refl _ _).alloc (Nat.le_refl _) _).alloc (by simp) _)
  have BX := Lib.hid (show Box3 W w.heap.size (.int .i64 p.wd) (.slice (some ⟨g, off, none⟩) p.ls.length c) (.slice (some ⟨g', off', none⟩) p.ls.length c') by rw [← hW]; exact (box3_new _ _ _ _ _).lo ((Below.refl _ _).alloc (Nat.le_refl _) _))
  have BY := Lib.hid (show Box3 W (w.heap.size + 1) (.int .i64 0) (.slice none 0 0) (.slice none 0 0) by rw [← hW]; have := box3_new (w.alloc (.cells #[.int .i64 p.wd, .slice (some ⟨g, off, none⟩) p.ls.length c, .slice (some ⟨g', off', none⟩) p.ls.length c'] 63)) (.int .i64 0) (.slice none 0 0) (.slice none 0 0) 63; simpa using this)
  have FY := Lib.hid (show ∀ j, W.frozen? ⟨w.heap.size + 1, j, none⟩ = false by rw [← hW]; exact fun j => World.frozen?_alloc_at _ _ _ _ (by simp))
  have hsz : W.heap.size = w.heap.size + 2 := by rw [← hW]; simp
  have D := Lib.hid (isPile_any _ p W (hv.lo LW.out) hf.small)
  rw [hb] at D
  have PW := Lib.hid (PC.lo LW.out)
  have CO := Lib.hid (fun w1 (l : Below W.heap.size W w1) => copyOf_any g off c g' off' c' p (p.ls.length + 1) w1 (PW.out.lo l) hf (by omega))
  have HF := Lib.hid hf
  obtain ⟨n, hn⟩ : ∃ n, p.ls.length = n := ⟨_, rfl⟩
  have HN := Lib.hid hn
  rw [hn] at hn8 hsame hW BX D CO ⊢
  have HSAME := Lib.hid hsame
  have HQ := Lib.hid (show (⟨p.wd, (List.range (n + 1)).map (fun j => if j = n then y else padF p.ls n j), (List.range (n + 1)).map (fun j => if j = n then z else padF p.ws n j)⟩ : PileV) = topP p y z from by
    unfold topP
    rw [list_eq (p.ls ++ [y]) (n + 1) _ (by rw [List.length_append, hn]; rfl) (fun j hj => by
        by_cases e : j = n
        · rw [if_pos e, e]; simp [List.getD, ← hn]
        · rw [if_neg e, pad_lt _ _ _ (by omega)]; simp [List.getD, List.getElem?_append_left (show j < p.ls.length by omega)]),
      list_eq (p.ws ++ [z]) (n + 1) _ (by rw [List.length_append, hsame]; rfl) (fun j hj => by
        by_cases e : j = n
        · rw [if_pos e, e]; simp [List.getD, ← hsame]
        · rw [if_neg e, pad_lt _ _ _ (by omega)]; simp [List.getD, List.getElem?_append_left (show j < p.ws.length by omega)])])
  clear hv hf PC hn hb hsame
  obtain ⟨_, u0, u1, u2⟩ := BX.out
  go_enter Try.func120, Try.ntmps120
  go_wp2_with fail
  clear hW u0 u1 u2
  refine D.out.mono ?_
  rintro e w1 ⟨rfl, l1⟩
  have L1 := Lib.hid l1
  obtain ⟨_, x0, x1, x2⟩ := BX.out.lo l1
  clear l1 D
  have CO1 := Lib.hid (CO.out _ L1.out)
  rw [show ((n + 1 : Nat) : Int) = (n : Int) + 1 from rfl] at CO1
  clear CO
  go_wp2_with fail
  refine CO1.out.mono ?_
  rintro e w2 ⟨g1, g2, rfl, FR, l2⟩
  have L2 := Lib.hid (lo_on L1.out l2)
  have F2 := Lib.hid FR
  obtain ⟨W3, hW3⟩ : ∃ W, w2.alloc (.cells #[.int .i64 p.wd, .slice (some ⟨g1, 0, none⟩) (n + 1) (n + 1), .slice (some ⟨g2, 0, none⟩) (n + 1) (n + 1)] 63) = W := ⟨_, rfl⟩
  have l3 : Below w2.heap.size w2 W3 := by rw [← hW3]; exact (Below.refl _ _).alloc (Nat.le_refl _) _
  have L3 := Lib.hid (lo_on L2.out l3)
  have F3 := Lib.hid (FR.below l3)
  have BZ := Lib.hid (show Box3 W3 w2.heap.size (.int .i64 p.wd) (.slice (some ⟨g1, 0, none⟩) (n + 1) (n + 1)) (.slice (some ⟨g2, 0, none⟩) (n + 1) (n + 1)) by rw [← hW3]; exact box3_new _ _ _ _ _)
  have BY3 := Lib.hid (BY.out.lo L3.out)
  have FY3 := Lib.hid (fun j => show W3.frozen? ⟨w.heap.size + 1, j, none⟩ = false by rw [L3.out.frozen (p := ⟨w.heap.size + 1, j, none⟩) BY.out.1]; exact FY.out j)
  have hw1 := L1.out.size
  have hg1 := FR.lo
  have hg2 := FR.hi
  clear l2 l3 x0 x1 x2 FR F2 L2 CO1
  obtain ⟨_, u0, u1, u2⟩ := BZ.out
  have hnn : (n : Int) < ((n : Int) + 1) := by omega
  have hnl : n < n + 1 := Nat.lt_succ_self _
  have hni : (0 : Int) ≤ (n : Int) := by omega
  go_wp2
  clear hW3
  have FV := F3
  have LV := L3
  have BYV := BY3
  have BZV := BZ
  have FYV := FY3
  clear F3 L3 BY3 BZ FY3
  have z1 : W3.frozen? ⟨g1, n, none⟩ = false := FV.out.z1 n
  have z2 : W3.frozen? ⟨g2, n, none⟩ = false := FV.out.z2 n
  have F5 := Lib.hid (((FV.out.set1 n hnl y).set2 n hnl z).below (drew_below _))
  have zz2 : (W3.setCell ⟨g1, n, none⟩ (.int .i64 y)).frozen? ⟨g2, n, none⟩ = false := (FV.out.set1 n hnl y).z2 n
  have cc1 : W3.cell? ⟨g1, n, none⟩ = _ := FV.out.c1 n hnl
  have cc2 : (W3.setCell ⟨g1, n, none⟩ (.int .i64 y)).cell? ⟨g2, n, none⟩ = _ := (FV.out.set1 n hnl y).c2 n hnl
  have h2 := FV.out.hi
  have lv := LV.out.size
  have hs1 : (W3.setCell ⟨g1, n, none⟩ (.int .i64 y)).heap.size = W3.heap.size := by simp
  have Q1 := Lib.hid ((only_set W3 g1 n (.int .i64 y)).part (B := g1) (E := g1 + 1) (Nat.le_refl _) (Nat.lt_succ_self _))
  have Q2 := Lib.hid ((only_set (W3.setCell ⟨g1, n, none⟩ (.int .i64 y)) g2 n (.int .i64 z)).part (B := g2) (E := g2 + 1) (Nat.le_refl _) (Nat.lt_succ_self _))
  have BZ4 := BZV.out.part Q1.out (by omega)
  have d2 := BZ4.2.2.2
  have d1 := BZ4.2.2.1
  have BZ5 := BZ4.part Q2.out (by omega)
  clear BZ4
  have BY4 := Lib.hid (((BYV.out.part Q1.out (by omega)).part Q2.out (by omega)).lo (drew_below _))
  have FY4 := Lib.hid (fun j => show ((W3.setCell ⟨g1, n, none⟩ (.int .i64 y)).setCell ⟨g2, n, none⟩ (.int .i64 z)).drew.frozen? ⟨w.heap.size + 1, j, none⟩ = false by show ((W3.setCell ⟨g1, n, none⟩ (.int .i64 y)).setCell ⟨g2, n, none⟩ (.int .i64 z)).frozen? _ = false; rw [World.frozen?_setCell, World.frozen?_setCell]; exact FYV.out j)
  have L4 := Lib.hid (lo_on (LW.out.trans (((LV.out.trans (((Q1.out.below (by omega)).mono (by omega)))).trans ((Q2.out.below (by omega)).mono (by omega))).mono LW.out.size)) (drew_below _))
  have M0 := F5.out.mine p.wd
  rw [HQ.out] at M0
  have M1 := Lib.hid M0
  have hsm : SmallP (topP p y z) := ⟨by show (p.ls ++ _).length ≤ _; rw [List.length_append, HN.out]; simp; omega, by show (p.ws ++ _).length ≤ _; rw [List.length_append, HSAME.out]; simp; omega⟩
  have VP := Lib.hid (validPile_any _ _ _ M0.row hsm)
  have hsz5 : ((W3.setCell ⟨g1, n, none⟩ (.int .i64 y)).setCell ⟨g2, n, none⟩ (.int .i64 z)).drew.heap.size = W3.heap.size := by simp
  obtain ⟨_, b0, b1, b2⟩ := BZ5
  clear M0 hsm HQ FYV BYV BZV FV F5 LV Q1 Q2
  go_region
  go_wp2_with fail
  refine VP.out.mono ?_
  rintro e w5 ⟨rfl, l5⟩
  have BY5 := Lib.hid (BY4.out.lo l5)
  obtain ⟨by0, r0, r1, r2⟩ := BY5.out
  have fz : ∀ j, w5.frozen? ⟨w.heap.size + 1, j, none⟩ = false := fun j => by rw [l5.frozen (p := ⟨w.heap.size + 1, j, none⟩) BY4.out.1]; exact FY4.out j
  have f0 := fz 0
  have f1 := fz 1
  have f2 := fz 2
  have K5 := Lib.hid (kept_mine (M1.out.lo l5) (by omega))
  have C5 := Lib.hid (kept_cap (p := topP p y z) (show PileCap (.agg #[.int .i64 p.wd, .slice (some ⟨g1, 0, none⟩) (n + 1) (n + 1), .slice (some ⟨g2, 0, none⟩) (n + 1) (n + 1)]) from ⟨_, _, _, _, _, _, _, rfl, Nat.le_refl _, Nat.le_refl _⟩))
  have L5 := Lib.hid (lo_on L4.out l5)
  have h5 := l5.size
  obtain ⟨ka, kb, kc, kd, hkv⟩ := K5.out.row.form
  have HKV := Lib.hid hkv
  rw [hkv] at K5 C5 ⊢
  have TS := Lib.hid (three_set w5 _ BY5.out (.int .i64 (keptP true (topP p y z)).wd) (.slice ka (keptP true (topP p y z)).ls.length kc) (.slice kb (keptP true (topP p y z)).ws.length kd))
  have PA := Lib.hid (((((only_set w5 (w.heap.size + 1) 0 (.int .i64 (keptP true (topP p y z)).wd)).part (B := w.heap.size + 1) (E := w.heap.size + 2) (by omega) (by omega))).trans ((only_set _ (w.heap.size + 1) 1 (.slice ka (keptP true (topP p y z)).ls.length kc)).part (by omega) (by omega))).trans ((only_set _ (w.heap.size + 1) 2 (.slice kb (keptP true (topP p y z)).ws.length kd)).part (by omega) (by omega)))
  clear l5 VP fz hkv
  generalize (keptP true (topP p y z)).wd = rw at *
  generalize (keptP true (topP p y z)).ls.length = rl at *
  generalize (keptP true (topP p y z)).ws.length = rs at *
  go_wp2
  obtain ⟨_, q0, q1, q2⟩ := TS.out
  have hpz := PA.out.size
  refine bodyPost_ret (v := .tuple #[.agg #[.int .i64 rw, .slice ka rl kc, .slice kb rs kd], .bool (pileB (topP p y z))]) (by simp [results, Try.results120, go_sem, q0, q1, q2]) rfl ⟨_, rfl, ?_, C5.out, ?_⟩
  · exact (K5.out.part PA.out (by omega)).mono (by omega) (by omega)
  · exact L5.out.trans ((PA.out.below (by omega)).mono (by omega))
set_option maxRecDepth 100000 in
set_option maxHeartbeats 1600000 in
theorem topLoad_no (v : Value) (p : PileV) (y z : Int) (w : World) (hv : PileRow w v p) (hs : SmallP p) (h : pileB p = false) :
    Calls Try.prog 120 #[v, .int .i64 y, .int .i64 z] w (MadeP w false (topP p y z)) := by
  obtain ⟨a, b, c, d, rfl⟩ := hv.form
  obtain ⟨W, hW⟩ : ∃ W, (w.alloc (.cells #[.int .i64 p.wd, .slice a p.ls.length c, .slice b p.ws.length d] 63)).alloc (.cells #[.int .i64 0, .slice none 0 0, .slice none 0 0] 63) = W := ⟨_, rfl⟩
  have LW := Lib.hid (show Below w.heap.size w W by rw [← hW]; exact ((Below.refl _ _).alloc (Nat.le_refl _) _).alloc (by simp) _)
  have BX := Lib.hid (show Box3 W w.heap.size (.int .i64 p.wd) (.slice a p.ls.length c) (.slice b p.ws.length d) by rw [← hW]; exact (box3_new _ _ _ _ _).lo ((Below.refl _ _).alloc (Nat.le_refl _) _))
  have BY := Lib.hid (show Box3 W (w.heap.size + 1) (.int .i64 0) (.slice none 0 0) (.slice none 0 0) by rw [← hW]; have := box3_new (w.alloc (.cells #[.int .i64 p.wd, .slice a p.ls.length c, .slice b p.ws.length d] 63)) (.int .i64 0) (.slice none 0 0) (.slice none 0 0) 63; simpa using this)
  have FY := Lib.hid (show ∀ j, W.frozen? ⟨w.heap.size + 1, j, none⟩ = false by rw [← hW]; exact fun j => World.frozen?_alloc_at _ _ _ _ (by simp))
  have hsz : W.heap.size = w.heap.size + 2 := by rw [← hW]; simp
  have D := Lib.hid (isPile_any _ p W (hv.lo LW.out) hs)
  rw [h] at D
  have HNIL := Lib.hid (kept_no false (topP p y z) rfl)
  have HMP := Lib.hid (fun w' (l : Below w.heap.size w w') (h : w.heap.size + 2 ≤ w'.heap.size) => show MadeP w false (topP p y z) (.returned (.tuple #[.agg #[.int .i64 0, .slice none 0 0, .slice none 0 0], .bool false])) w' from
    ⟨_, rfl, by rw [HNIL.out]; exact minePl_nil w' _ _ (by omega), cap_nil, l⟩)
  clear hv hs h
  obtain ⟨_, u0, u1, u2⟩ := BX.out
  go_enter Try.func120, Try.ntmps120
  go_wp2_with fail
  clear hW u0 u1 u2
  refine D.out.mono ?_
  rintro e w1 ⟨rfl, l1⟩
  have BY1 := Lib.hid (BY.out.lo l1)
  obtain ⟨by0, y0, y1, y2⟩ := BY1.out
  have fz : ∀ j, w1.frozen? ⟨w.heap.size + 1, j, none⟩ = false := fun j => by rw [l1.frozen (p := ⟨w.heap.size + 1, j, none⟩) BY.out.1]; exact FY.out j
  have f0 := fz 0
  have f1 := fz 1
  have f2 := fz 2
  have L1 := Lib.hid (lo_on LW.out l1)
  have h1 := l1.size
  have TS := Lib.hid (three_set w1 _ BY1.out (.int .i64 0) (.slice none 0 0) (.slice none 0 0))
  clear l1 D fz BX BY FY LW
  go_wp2
  obtain ⟨_, q0, q1, q2⟩ := TS.out
  exact bodyPost_ret (v := .tuple #[.agg #[.int .i64 0, .slice none 0 0, .slice none 0 0], .bool false]) (by simp [results, Try.results120, go_sem, q0, q1, q2]) rfl (HMP.out _ (((L1.out.setCell (p := ⟨w.heap.size + 1, 0, none⟩) (by simp only; omega) _).setCell (p := ⟨w.heap.size + 1, 1, none⟩) (by simp only; omega) _).setCell (p := ⟨w.heap.size + 1, 2, none⟩) (by simp only; omega) _) (by simp; omega))
theorem topLoad_any (v : Value) (p : PileV) (y z : Int) (w : World) (hv : PileRow w v p) (hs : SmallP p) :
    Calls Try.prog 120 #[v, .int .i64 y, .int .i64 z] w (MadeP w (pileB p) (topP p y z)) := by
  cases h : pileB p with
  | true => exact topLoad_yes v p y z w hv ((pileB_iff p).1 h)
  | false => exact topLoad_no v p y z w hv hs h
end Go.Proofs.Ythihamjgfemacaa
