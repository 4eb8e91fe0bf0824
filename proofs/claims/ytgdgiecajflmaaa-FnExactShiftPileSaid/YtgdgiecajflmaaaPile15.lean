/- A pile shifted: the model's. -/
import Derived.Test.YtgdgiecajflmaaaPile11
namespace Go.Proofs.Ytgdgiecajflmaaa
open Go.RowKit
set_option maxRecDepth 100000 in
set_option maxHeartbeats 3200000 in
theorem specShift_yes (v : Value) (p : PileV) (y : Int) (w : World) (hv : PileRow w v p) (hf : PileF p) (y0 : -99 ≤ y) (y1 : y ≤ 99) :
    Calls Try.prog 44 #[v, .int .i64 y] w (MadeS w true (movedP p y)) := by
  have hb : pileB p = true := (pileB_iff p).2 hf
  obtain ⟨a, b, c, d, rfl⟩ := hv.form
  obtain ⟨W, hW⟩ : ∃ W, (w.alloc (.cells #[.int .i64 p.wd, .slice a p.ls.length c, .slice b p.ws.length d] 27)).alloc (.cells #[.int .i64 0, .slice none 0 0, .slice none 0 0] 27) = W := ⟨_, rfl⟩
  have LW := Lib.hid (show Below w.heap.size w W by rw [← hW]; exact ((Below.refl _ _).alloc (Nat.le_refl _) _).alloc (by simp) _)
  have BX := Lib.hid (show Box3 W w.heap.size (.int .i64 p.wd) (.slice a p.ls.length c) (.slice b p.ws.length d) by rw [← hW]; exact (box3_new _ _ _ _ _).lo ((Below.refl _ _).alloc (Nat.le_refl _) _))
  have BY := Lib.hid (show Box3 W (w.heap.size + 1) (.int .i64 0) (.slice none 0 0) (.slice none 0 0) by rw [← hW]; have := box3_new (w.alloc (.cells #[.int .i64 p.wd, .slice a p.ls.length c, .slice b p.ws.length d] 27)) (.int .i64 0) (.slice none 0 0) (.slice none 0 0) 27; simpa using this)
  have FY := Lib.hid (show ∀ j, W.frozen? ⟨w.heap.size + 1, j, none⟩ = false by rw [← hW]; exact fun j => World.frozen?_alloc_at _ _ _ _ (by simp))
  have HSZ := Lib.hid (show W.heap.size = w.heap.size + 2 by rw [← hW]; simp)
  have D := Lib.hid (l4Pile_any _ p W (hv.lo LW.out) hf.small)
  rw [hb] at D
  have SH := Lib.hid (fun w => l1In_is y (-99) 99 true (by rw [decide_eq_true y0, decide_eq_true y1]; rfl) w)
  have MV := Lib.hid (fun w1 (l : Below W.heap.size W w1) => l4Moved_any _ p y w1 ((hv.lo LW.out).lo l) hf y0 y1)
  have hsm : SmallP (movedP p y) := ⟨by show (p.ls.map _).length ≤ _; rw [List.length_map]; exact hf.small.1, hf.small.2⟩
  have HSM := Lib.hid hsm
  generalize movedP p y = m at *
  clear hv hf hb hsm
  obtain ⟨_, u0, u1, u2⟩ := BX.out
  go_enter Try.func44, Try.ntmps44
  go_wp2_with fail
  clear hW u0 u1 u2
  refine D.out.mono ?_
  rintro e w1 ⟨rfl, l1⟩
  have L1 := Lib.hid l1
  obtain ⟨_, x0, x1, x2⟩ := BX.out.lo l1
  clear l1 D
  go_wp2_with fail
  refine (SH.out _).mono ?_
  rintro e w' ⟨rfl, rfl⟩
  go_wp2_with fail
  refine (MV.out _ L1.out).mono ?_
  rintro e w2 ⟨u, rfl, hu, l2⟩
  have HU := Lib.hid hu
  have L2 := Lib.hid (lo_on L1.out l2)
  clear hu l2 x0 x1 x2
  go_wp2_with fail
  refine (l4Kept_any u m w2 HU.out.row HSM.out).mono ?_
  rintro e w5 ⟨rfl, l5⟩
  have L5 := Lib.hid (lo_on LW.out (lo_on L2.out l5))
  have K5 := Lib.hid ((HU.out.lo l5).kept)
  have BY5 := Lib.hid (BY.out.lo (lo_on L2.out l5))
  obtain ⟨by0, r0, r1, r2⟩ := BY5.out
  have fz : ∀ j, w5.frozen? ⟨w.heap.size + 1, j, none⟩ = false := fun j => by rw [(lo_on L2.out l5).frozen (p := ⟨w.heap.size + 1, j, none⟩) BY.out.1]; exact FY.out j
  have f0 := fz 0
  have f1 := fz 1
  have f2 := fz 2
  have s1 := L1.out.size
  obtain ⟨ka, kb, kc, kd, hkv⟩ := K5.out.row.form
  rw [hkv] at K5 ⊢
  have TS := Lib.hid (three_set w5 _ BY5.out (.int .i64 (keptP true m).wd) (.slice ka (keptP true m).ls.length kc) (.slice kb (keptP true m).ws.length kd))
  have PA := Lib.hid (pset w5 (w.heap.size + 1) (.int .i64 (keptP true m).wd) (.slice ka (keptP true m).ls.length kc) (.slice kb (keptP true m).ws.length kd))
  clear l5 fz hkv
  generalize (keptP true m).wd = rw at *
  generalize (keptP true m).ls.length = rl at *
  generalize (keptP true m).ws.length = rs at *
  go_wp2
  obtain ⟨_, q0, q1, q2⟩ := TS.out
  have hpz := PA.out.size
  have hszz := HSZ.out
  refine bodyPost_ret (v := .tuple #[.agg #[.int .i64 rw, .slice ka rl kc, .slice kb rs kd], .bool (pileB m)]) (by simp [results, Try.results44, go_sem, q0, q1, q2]) rfl ⟨_, rfl, ?_, ?_⟩
  · exact (K5.out.part PA.out (by omega)).row
  · exact L5.out.trans ((PA.out.below (by omega)).mono (by omega))
set_option maxRecDepth 100000 in
set_option maxHeartbeats 1600000 in
theorem specShift_no (v : Value) (p : PileV) (y : Int) (w : World) (hv : PileRow w v p) (hs : SmallP p) (h : (pileB p && shiftB y) = false) :
    Calls Try.prog 44 #[v, .int .i64 y] w (MadeS w false (movedP p y)) := by
  obtain ⟨a, b, c, d, rfl⟩ := hv.form
  obtain ⟨W, hW⟩ : ∃ W, (w.alloc (.cells #[.int .i64 p.wd, .slice a p.ls.length c, .slice b p.ws.length d] 27)).alloc (.cells #[.int .i64 0, .slice none 0 0, .slice none 0 0] 27) = W := ⟨_, rfl⟩
  have LW := Lib.hid (show Below w.heap.size w W by rw [← hW]; exact ((Below.refl _ _).alloc (Nat.le_refl _) _).alloc (by simp) _)
  have BX := Lib.hid (show Box3 W w.heap.size (.int .i64 p.wd) (.slice a p.ls.length c) (.slice b p.ws.length d) by rw [← hW]; exact (box3_new _ _ _ _ _).lo ((Below.refl _ _).alloc (Nat.le_refl _) _))
  have BY := Lib.hid (show Box3 W (w.heap.size + 1) (.int .i64 0) (.slice none 0 0) (.slice none 0 0) by rw [← hW]; have := box3_new (w.alloc (.cells #[.int .i64 p.wd, .slice a p.ls.length c, .slice b p.ws.length d] 27)) (.int .i64 0) (.slice none 0 0) (.slice none 0 0) 27; simpa using this)
  have FY := Lib.hid (show ∀ j, W.frozen? ⟨w.heap.size + 1, j, none⟩ = false by rw [← hW]; exact fun j => World.frozen?_alloc_at _ _ _ _ (by simp))
  have hsz : W.heap.size = w.heap.size + 2 := by rw [← hW]; simp
  have D := Lib.hid (l4Pile_any _ p W (hv.lo LW.out) hs)
  have SH := Lib.hid (fun w => l1In_is y (-99) 99 (shiftB y) rfl w)
  generalize pileB p = q at *
  generalize shiftB y = r at *
  have HNIL := Lib.hid (kept_no false (movedP p y) rfl)
  have HMP := Lib.hid (fun w' (l : Below w.heap.size w w') => show MadeS w false (movedP p y) (.returned (.tuple #[.agg #[.int .i64 0, .slice none 0 0, .slice none 0 0], .bool false])) w' from
    ⟨_, rfl, by rw [HNIL.out]; exact pileRow_nil w', l⟩)
  have HQR := Lib.hid h
  clear hv hs h
  obtain ⟨_, u0, u1, u2⟩ := BX.out
  cases q with
  | false =>
    go_enter Try.func44, Try.ntmps44
    go_wp2_with fail
    clear hW u0 u1 u2
    refine D.out.mono ?_
    rintro e w1 ⟨rfl, l1⟩
    have BY1 := Lib.hid (BY.out.lo l1)
    obtain ⟨by0, y0, y1, y2⟩ := BY1.out
    have fz : ∀ j, w1.frozen? ⟨w.heap.size + 1, j, none⟩ = false := fun j => by rw [l1.frozen (p := ⟨w.heap.size + 1, j, none⟩) BY.out.1]; exact FY.out j
    have f0 := fz 0
    have f1 := fz 1
    have f2 := fz 2
    have L1 := Lib.hid (lo_on LW.out l1)
    have TS := Lib.hid (three_set w1 _ BY1.out (.int .i64 0) (.slice none 0 0) (.slice none 0 0))
    clear l1 D fz BX BY FY LW SH
    go_wp2
    obtain ⟨_, q0, q1, q2⟩ := TS.out
    exact bodyPost_ret (v := .tuple #[.agg #[.int .i64 0, .slice none 0 0, .slice none 0 0], .bool false]) (by simp [results, Try.results44, go_sem, q0, q1, q2]) rfl (HMP.out _ (((L1.out.setCell (p := ⟨w.heap.size + 1, 0, none⟩) (by simp only; omega) _).setCell (p := ⟨w.heap.size + 1, 1, none⟩) (by simp only; omega) _).setCell (p := ⟨w.heap.size + 1, 2, none⟩) (by simp only; omega) _))
  | true =>
    obtain rfl : r = false := HQR.out
    go_enter Try.func44, Try.ntmps44
    go_wp2_with fail
    clear hW u0 u1 u2
    refine D.out.mono ?_
    rintro e w1 ⟨rfl, l1⟩
    have BY1 := Lib.hid (BY.out.lo l1)
    obtain ⟨by0, y0, y1, y2⟩ := BY1.out
    have fz : ∀ j, w1.frozen? ⟨w.heap.size + 1, j, none⟩ = false := fun j => by rw [l1.frozen (p := ⟨w.heap.size + 1, j, none⟩) BY.out.1]; exact FY.out j
    have f0 := fz 0
    have f1 := fz 1
    have f2 := fz 2
    have L1 := Lib.hid (lo_on LW.out l1)
    have TS := Lib.hid (three_set w1 _ BY1.out (.int .i64 0) (.slice none 0 0) (.slice none 0 0))
    clear l1 D fz BX BY FY LW
    go_wp2_with fail
    refine (SH.out _).mono ?_
    rintro e w' ⟨rfl, rfl⟩
    go_wp2
    obtain ⟨_, q0, q1, q2⟩ := TS.out
    exact bodyPost_ret (v := .tuple #[.agg #[.int .i64 0, .slice none 0 0, .slice none 0 0], .bool false]) (by simp [results, Try.results44, go_sem, q0, q1, q2]) rfl (HMP.out _ (((L1.out.setCell (p := ⟨w.heap.size + 1, 0, none⟩) (by simp only; omega) _).setCell (p := ⟨w.heap.size + 1, 1, none⟩) (by simp only; omega) _).setCell (p := ⟨w.heap.size + 1, 2, none⟩) (by simp only; omega) _))
theorem specShift_any (v : Value) (p : PileV) (y : Int) (w : World) (hv : PileRow w v p) (hs : SmallP p) :
    Calls Try.prog 44 #[v, .int .i64 y] w (MadeS w (pileB p && shiftB y) (movedP p y)) := by
  cases h : pileB p && shiftB y with
  | true =>
    rw [Bool.and_eq_true] at h
    have h2 := h.2
    unfold shiftB at h2
    rw [Bool.and_eq_true, decide_eq_true_eq, decide_eq_true_eq] at h2
    exact specShift_yes v p y w hv ((pileB_iff p).1 h.1) h2.1 h2.2
  | false => exact specShift_no v p y w hv hs h
end Go.Proofs.Ytgdgiecajflmaaa
