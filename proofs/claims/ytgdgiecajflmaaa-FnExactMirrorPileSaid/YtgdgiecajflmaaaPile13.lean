/- A pile without its highest brick: the program's and the model's. -/
import Derived.Test.YtgdgiecajflmaaaPile10
namespace Go.Proofs.Ytgdgiecajflmaaa
open Go.RowKit
theorem getD_dropLast (xs : List Int) (j : Nat) (h : j < xs.length - 1) : xs.dropLast.getD j 0 = xs.getD j 0 := by
  rw [List.dropLast_eq_take]
  simp only [List.getD]
  rw [List.getElem?_take, if_pos h]
theorem drop_ok {p : PileV} (hf : PileF p) (h2 : 2 ≤ p.ls.length) : pileB (dropP p) = true := by
  have hs := hf.same
  have h8 := hf.short
  refine (pileB_iff _).2 ⟨hf.w1, hf.w2, ?_, ?_, ?_, fun j hj => ?_⟩
  · show 1 ≤ p.ls.dropLast.length; rw [List.length_dropLast]; omega
  · show p.ls.dropLast.length ≤ 8; rw [List.length_dropLast]; omega
  · show p.ws.dropLast.length = p.ls.dropLast.length; rw [List.length_dropLast, List.length_dropLast, hs]
  · have hj2 : j < p.ls.length - 1 := by rw [← List.length_dropLast]; exact hj
    show (-99 ≤ p.ls.dropLast.getD j 0 ∧ p.ls.dropLast.getD j 0 ≤ 99) ∧ 1 ≤ p.ws.dropLast.getD j 0 ∧ p.ws.dropLast.getD j 0 ≤ 99
    rw [getD_dropLast _ _ hj2, getD_dropLast _ _ (by omega)]
    exact hf.each j (by omega)
theorem drop_one {p : PileV} (h1 : p.ls.length = 1) : pileB (dropP p) = false := propB_no (fun f => by
  have : 1 ≤ p.ls.dropLast.length := f.one
  rw [List.length_dropLast] at this
  omega)
set_option maxRecDepth 100000 in
set_option maxHeartbeats 1600000 in
theorem drop_no (v : Value) (p q : PileV) (w : World) (hv : PileRow w v p) (hs : SmallP p) (h : pileB p = false) :
    Calls Try.prog 53 #[v] w (MadeP w false q) := by
  obtain ⟨a, b, c, d, rfl⟩ := hv.form
  obtain ⟨W, hW⟩ : ∃ W, (w.alloc (.cells #[.int .i64 p.wd, .slice a p.ls.length c, .slice b p.ws.length d] 27)).alloc (.cells #[.int .i64 0, .slice none 0 0, .slice none 0 0] 27) = W := ⟨_, rfl⟩
  have LW := Lib.hid (show Below w.heap.size w W by rw [← hW]; exact ((Below.refl _ _).alloc (Nat.le_refl _) _).alloc (by simp) _)
  have BX := Lib.hid (show Box3 W w.heap.size (.int .i64 p.wd) (.slice a p.ls.length c) (.slice b p.ws.length d) by rw [← hW]; exact (box3_new _ _ _ _ _).lo ((Below.refl _ _).alloc (Nat.le_refl _) _))
  have BY := Lib.hid (show Box3 W (w.heap.size + 1) (.int .i64 0) (.slice none 0 0) (.slice none 0 0) by rw [← hW]; have := box3_new (w.alloc (.cells #[.int .i64 p.wd, .slice a p.ls.length c, .slice b p.ws.length d] 27)) (.int .i64 0) (.slice none 0 0) (.slice none 0 0) 27; simpa using this)
  have FY := Lib.hid (show ∀ j, W.frozen? ⟨w.heap.size + 1, j, none⟩ = false by rw [← hW]; exact fun j => World.frozen?_alloc_at _ _ _ _ (by simp))
  have hsz : W.heap.size = w.heap.size + 2 := by rw [← hW]; simp
  have D := Lib.hid (isPile_any _ p W (hv.lo LW.out) hs)
  rw [h] at D
  have HNIL := Lib.hid (kept_no false q rfl)
  have HMP := Lib.hid (fun w' (l : Below w.heap.size w w') (h : w.heap.size + 2 ≤ w'.heap.size) => show MadeP w false q (.returned (.tuple #[.agg #[.int .i64 0, .slice none 0 0, .slice none 0 0], .bool false])) w' from
    ⟨_, rfl, by rw [HNIL.out]; exact minePl_nil w' _ _ (by omega), cap_nil, l⟩)
  clear hv hs h
  obtain ⟨_, u0, u1, u2⟩ := BX.out
  go_enter Try.func53, Try.ntmps53
  go_wp2_with fail
  clear hW u0 u1 u2
  refine D.out.mono ?_
  rintro e w1 ⟨rfl, l1⟩
  have BY1 := Lib.hid (BY.out.lo l1)
  obtain ⟨by0, y0, y1, y2⟩ := BY1.out
  have fz : ∀ j, w1.frozen? ⟨w.heap.size + 1, j, none⟩ = false := fun j => by rw [l1.frozen (p := ⟨w.heap.size + 1, j, none⟩) BY.out.1]; exact FY.out j
  have f0 := fz 0
  have f1 := fz 1
  have f2 := fz 2
  have L1 := Lib.hid (lo_on LW.out l1)
  have h1 := l1.size
  have TS := Lib.hid (three_set w1 _ BY1.out (.int .i64 0) (.slice none 0 0) (.slice none 0 0))
  clear l1 D fz BX BY FY LW
  go_wp2
  obtain ⟨_, q0, q1, q2⟩ := TS.out
  exact bodyPost_ret (v := .tuple #[.agg #[.int .i64 0, .slice none 0 0, .slice none 0 0], .bool false]) (by simp [results, Try.results53, go_sem, q0, q1, q2]) rfl (HMP.out _ (((L1.out.setCell (p := ⟨w.heap.size + 1, 0, none⟩) (by simp only; omega) _).setCell (p := ⟨w.heap.size + 1, 1, none⟩) (by simp only; omega) _).setCell (p := ⟨w.heap.size + 1, 2, none⟩) (by simp only; omega) _) (by simp; omega))
set_option maxRecDepth 100000 in
set_option maxHeartbeats 3200000 in
theorem drop_yes (v : Value) (p : PileV) (w : World) (hv : PileRow w v p) (hf : PileF p) :
    Calls Try.prog 53 #[v] w (MadeP w true (dropP p)) := by
  have hb : pileB p = true := (pileB_iff p).2 hf
  obtain ⟨g, off, c, g', off', c', rfl, PC⟩ := pile_open hv hf
  have hn8 := hf.short
  have hsame := hf.same
  obtain ⟨W, hW⟩ : ∃ W, (w.alloc (.cells #[.int .i64 p.wd, .slice (some ⟨g, off, none⟩) p.ls.length c, .slice (some ⟨g', off', none⟩) p.ls.length c'] 27)).alloc (.cells #[.int .i64 0, .slice none 0 0, .slice none 0 0] 27) = W := ⟨_, rfl⟩
  have LW := Lib.hid (show Below w.heap.size w W by rw [← hW]; exact ((Below.refl _ _).alloc (Nat.le_refl _) _).alloc (by simp) _)
  have BX := Lib.hid (show Box3 W w.heap.size (.int .i64 p.wd) (.slice (some ⟨g, off, none⟩) p.ls.length c) (.slice (some ⟨g', off', none⟩) p.ls.length c') by rw [← hW]; exact (box3_new _ _ _ _ _).lo ((Below.refl _ _).alloc (Nat.le_refl _) _))
  have BY := Lib.hid (show Box3 W (w.heap.size + 1) (.int .i64 0) (.slice none 0 0) (.slice none 0 0) by rw [← hW]; have := box3_new (w.alloc (.cells #[.int .i64 p.wd, .slice (some ⟨g, off, none⟩) p.ls.length c, .slice (some ⟨g', off', none⟩) p.ls.length c'] 27)) (.int .i64 0) (.slice none 0 0) (.slice none 0 0) 27; simpa using this)
  have FY := Lib.hid (show ∀ j, W.frozen? ⟨w.heap.size + 1, j, none⟩ = false by rw [← hW]; exact fun j => World.frozen?_alloc_at _ _ _ _ (by simp))
  have hsz : W.heap.size = w.heap.size + 2 := by rw [← hW]; simp
  have D := Lib.hid (isPile_any _ p W (hv.lo LW.out) hf.small)
  rw [hb] at D
  have PW := Lib.hid (PC.lo LW.out)
  have CO := Lib.hid (fun w1 (l : Below W.heap.size W w1) => copyOf_any g off c g' off' c' p (p.ls.length - 1) w1 (PW.out.lo l) hf (by omega))
  have hone := hf.one
  obtain ⟨n, hn⟩ : ∃ n, p.ls.length = n + 1 := ⟨p.ls.length - 1, by omega⟩
  have HN := Lib.hid hn
  rw [hn] at hn8 hsame hW BX D CO ⊢
  rw [Nat.add_sub_cancel] at CO
  have HSAME := Lib.hid hsame
  have HQ := Lib.hid (fun (f h : Nat → Int) (e1 : ∀ j, j < n → f j = p.ls.getD j 0) (e2 : ∀ j, j < n → h j = p.ws.getD j 0) => show (⟨p.wd, (List.range n).map f, (List.range n).map h⟩ : PileV) = dropP p from by
    unfold dropP
    rw [list_eq p.ls.dropLast n f (by rw [List.length_dropLast, hn]; rfl) (fun j hj => by rw [e1 j hj, getD_dropLast _ _ (by omega)]), list_eq p.ws.dropLast n h (by rw [List.length_dropLast, hsame]; rfl) (fun j hj => by rw [e2 j hj, getD_dropLast _ _ (by omega)])])
  clear hv hf PC hn hb hsame hone
  obtain ⟨_, u0, u1, u2⟩ := BX.out
  go_enter Try.func53, Try.ntmps53
  go_wp2_with fail
  clear hW u0 u1 u2
  refine D.out.mono ?_
  rintro e w1 ⟨rfl, l1⟩
  have L1 := Lib.hid l1
  obtain ⟨_, x0, x1, x2⟩ := BX.out.lo l1
  clear l1 D
  go_wp2_with fail
  refine (CO.out _ L1.out).mono ?_
  rintro e w2 ⟨g1, g2, rfl, FR, l2⟩
  have L3 := Lib.hid (lo_on L1.out l2)
  have hw1 := L1.out.size
  have hg1 := FR.lo
  have hg2 := FR.hi
  have HQ1 := Lib.hid (HQ.out (padF p.ls (n + 1)) (padF p.ws (n + 1)) (fun j hj => pad_lt _ _ _ (by omega)) (fun j hj => pad_lt _ _ _ (by omega)))
  have M0 := FR.mine p.wd
  rw [HQ1.out] at M0
  have M1 := Lib.hid M0
  have hsm : SmallP (dropP p) := ⟨by show (p.ls.dropLast).length ≤ _; rw [List.length_dropLast, HN.out]; omega, by show (p.ws.dropLast).length ≤ _; rw [List.length_dropLast, HSAME.out]; omega⟩
  have VP := Lib.hid (validPile_any _ _ w2 M0.row hsm)
  have BY4 := Lib.hid (BY.out.lo L3.out)
  have FY4 := Lib.hid (fun j => show w2.frozen? ⟨w.heap.size + 1, j, none⟩ = false by rw [L3.out.frozen (p := ⟨w.heap.size + 1, j, none⟩) BY.out.1]; exact FY.out j)
  have L4 := Lib.hid (LW.out.trans (L3.out.mono LW.out.size))
  have hq := l2.size
  clear M0 hsm HQ1 HQ BY FY FR l2 CO x0 x1 x2
  go_wp2_with fail
  refine VP.out.mono ?_
  rintro e w5 ⟨rfl, l5⟩
  have BY5 := Lib.hid (BY4.out.lo l5)
  obtain ⟨by0, r0, r1, r2⟩ := BY5.out
  have fz : ∀ j, w5.frozen? ⟨w.heap.size + 1, j, none⟩ = false := fun j => by rw [l5.frozen (p := ⟨w.heap.size + 1, j, none⟩) BY4.out.1]; exact FY4.out j
  have f0 := fz 0
  have f1 := fz 1
  have f2 := fz 2
  have K5 := Lib.hid (kept_mine (M1.out.lo l5) (by omega))
  have C5 := Lib.hid (kept_cap (p := dropP p) (show PileCap (.agg #[.int .i64 p.wd, .slice (some ⟨g1, 0, none⟩) n n, .slice (some ⟨g2, 0, none⟩) n n]) from ⟨_, _, _, _, _, _, _, rfl, Nat.le_refl _, Nat.le_refl _⟩))
  have L5 := Lib.hid (lo_on L4.out l5)
  have h5 := l5.size
  obtain ⟨ka, kb, kc, kd, hkv⟩ := K5.out.row.form
  have HKV := Lib.hid hkv
  rw [hkv] at K5 C5 ⊢
  have TS := Lib.hid (three_set w5 _ BY5.out (.int .i64 (keptP true (dropP p)).wd) (.slice ka (keptP true (dropP p)).ls.length kc) (.slice kb (keptP true (dropP p)).ws.length kd))
  have PA := Lib.hid (((((only_set w5 (w.heap.size + 1) 0 (.int .i64 (keptP true (dropP p)).wd)).part (B := w.heap.size + 1) (E := w.heap.size + 2) (by omega) (by omega))).trans ((only_set _ (w.heap.size + 1) 1 (.slice ka (keptP true (dropP p)).ls.length kc)).part (by omega) (by omega))).trans ((only_set _ (w.heap.size + 1) 2 (.slice kb (keptP true (dropP p)).ws.length kd)).part (by omega) (by omega)))
  clear l5 VP fz hkv
  generalize (keptP true (dropP p)).wd = rw at *
  generalize (keptP true (dropP p)).ls.length = rl at *
  generalize (keptP true (dropP p)).ws.length = rs at *
  go_wp2
  obtain ⟨_, q0, q1, q2⟩ := TS.out
  have hpz := PA.out.size
  refine bodyPost_ret (v := .tuple #[.agg #[.int .i64 rw, .slice ka rl kc, .slice kb rs kd], .bool (pileB (dropP p))]) (by simp [results, Try.results53, go_sem, q0, q1, q2]) rfl ⟨_, rfl, ?_, C5.out, ?_⟩
  · exact (K5.out.part PA.out (by omega)).mono (by omega) (by omega)
  · exact L5.out.trans ((PA.out.below (by omega)).mono (by omega))
theorem drop_any (v : Value) (p : PileV) (w : World) (hv : PileRow w v p) (hs : SmallP p) :
    Calls Try.prog 53 #[v] w (MadeP w (pileB p) (dropP p)) := by
  cases h : pileB p with
  | true => exact drop_yes v p w hv ((pileB_iff p).1 h)
  | false => exact drop_no v p _ w hv hs h
end Go.Proofs.Ytgdgiecajflmaaa
