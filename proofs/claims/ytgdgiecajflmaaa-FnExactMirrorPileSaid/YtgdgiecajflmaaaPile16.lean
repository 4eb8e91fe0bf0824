/- A pile mirrored: the program's. -/
import Derived.Test.YtgdgiecajflmaaaPile10
namespace Go.Proofs.Ytgdgiecajflmaaa
open Go.RowKit
set_option maxRecDepth 100000 in
set_option maxHeartbeats 3200000 in
theorem mirror_yes (v : Value) (p : PileV) (w : World) (hv : PileRow w v p) (hf : PileF p) :
    Calls Try.prog 55 #[v] w (MadeP w true (mirP p)) := by
  have hb : pileB p = true := (pileB_iff p).2 hf
  obtain ⟨g, off, c, g', off', c', rfl, PC⟩ := pile_open hv hf
  have hn8 := hf.short
  have hsame := hf.same
  obtain ⟨W, hW⟩ : ∃ W, (w.alloc (.cells #[.int .i64 p.wd, .slice (some ⟨g, off, none⟩) p.ls.length c, .slice (some ⟨g', off', none⟩) p.ls.length c'] 27)).alloc (.cells #[.int .i64 0, .slice none 0 0, .slice none 0 0] 27) = W := ⟨_, rfl⟩
  have LW := Lib.hid (show Below w.heap.size w W by rw [← hW]; exact ((Below.refl _ _).alloc (Nat.le_refl _) _).alloc (by simp) _)
  have BX := Lib.hid (show Box3 W w.heap.size (.int .i64 p.wd) (.slice (some ⟨g, off, none⟩) p.ls.length c) (.slice (some ⟨g', off', none⟩) p.ls.length c') by rw [← hW]; exact (box3_new _ _ _ _ _).lo ((Below.refl _ _).alloc (Nat.le_refl _) _))
  have BY := Lib.hid (show Box3 W (w.heap.size + 1) (.int .i64 0) (.slice none 0 0) (.slice none 0 0) by rw [← hW]; have := box3_new (w.alloc (.cells #[.int .i64 p.wd, .slice (some ⟨g, off, none⟩) p.ls.length c, .slice (some ⟨g', off', none⟩) p.ls.length c'] 27)) (.int .i64 0) (.slice none 0 0) (.slice none 0 0) 27; simpa using this)
  have FY := Lib.hid (show ∀ j, W.frozen? ⟨w.heap.size + 1, j, none⟩ = false by rw [← hW]; exact fun j => World.frozen?_alloc_at _ _ _ _ (by simp))
  have hsz : W.heap.size = w.heap.size + 2 := by rw [← hW]; simp
  have D := Lib.hid (isPile_any _ p W (hv.lo LW.out) hf.small)
  rw [hb] at D
  have PW := Lib.hid (PC.lo LW.out)
  have CO := Lib.hid (fun w1 (l : Below W.heap.size W w1) => copyOf_any g off c g' off' c' p p.ls.length w1 (PW.out.lo l) hf (by omega))
  have HF := Lib.hid hf
  obtain ⟨n, hn⟩ : ∃ n, p.ls.length = n := ⟨_, rfl⟩
  have HN := Lib.hid hn
  rw [hn] at hn8 hsame hW BX D CO ⊢
  have HSAME := Lib.hid hsame
  have HQ := Lib.hid (fun (f h : Nat → Int) (e1 : ∀ j, j < n → f j = 2 * p.ls.getD 0 0 - p.ls.getD j 0) (e2 : ∀ j, j < n → h j = p.ws.getD j 0) => show (⟨p.wd, (List.range n).map f, (List.range n).map h⟩ : PileV) = mirP p from by
    unfold mirP
    rw [list_eq (p.ls.map (fun l => 2 * p.ls.getD 0 0 - l)) n f (by rw [List.length_map, hn]) (fun j hj => by rw [e1 j hj, getD_map _ _ _ (by omega)]), list_eq p.ws n h hsame e2])
  clear hv hf PC hn hb hsame
  obtain ⟨_, u0, u1, u2⟩ := BX.out
  go_enter Try.func55, Try.ntmps55
  go_wp2_with fail
  clear hW u0 u1 u2
  refine D.out.mono ?_
  rintro e w1 ⟨rfl, l1⟩
  have L1 := Lib.hid l1
  obtain ⟨_, x0, x1, x2⟩ := BX.out.lo l1
  clear l1 D
  go_wp2_with fail
  refine (CO.out _ L1.out).mono ?_
  rintro e w2 ⟨g1, g2, rfl, FR, l2⟩
  have L2 := Lib.hid (lo_on L1.out l2)
  have F2 := Lib.hid FR
  obtain ⟨W3, hW3⟩ : ∃ W, w2.alloc (.cells #[.int .i64 p.wd, .slice (some ⟨g1, 0, none⟩) n n, .slice (some ⟨g2, 0, none⟩) n n] 27) = W := ⟨_, rfl⟩
  have l3 : Below w2.heap.size w2 W3 := by rw [← hW3]; exact (Below.refl _ _).alloc (Nat.le_refl _) _
  have L3 := Lib.hid (lo_on L2.out l3)
  have F3 := Lib.hid (FR.below l3)
  have BZ := Lib.hid (show Box3 W3 w2.heap.size (.int .i64 p.wd) (.slice (some ⟨g1, 0, none⟩) n n) (.slice (some ⟨g2, 0, none⟩) n n) by rw [← hW3]; exact box3_new _ _ _ _ _)
  have BY3 := Lib.hid (BY.out.lo L3.out)
  have FY3 := Lib.hid (fun j => show W3.frozen? ⟨w.heap.size + 1, j, none⟩ = false by rw [L3.out.frozen (p := ⟨w.heap.size + 1, j, none⟩) BY.out.1]; exact FY.out j)
  have hw1 := L1.out.size
  have hg1 := FR.lo
  have hg2 := FR.hi
  clear l2 l3 x0 x1 x2 FR F2 L2 CO
  obtain ⟨_, u0, u1, u2⟩ := BZ.out
  go_wp2
  clear hW3 u0 u1 u2
  go_loopw [18] (fun x wr => ∃ k : Nat, k ≤ n ∧ x = .int .i64 k ∧ Hid (FreshP wr w1.heap.size g1 g2 n (fun j => if j < k then 2 * p.ls.getD 0 0 - p.ls.getD j 0 else p.ls.getD j 0) (padF p.ws n)) ∧ Hid (Only g1 W3 wr)) (fun x _ => n - (intOf x).toNat)
  case atStart => exact ⟨0, Nat.zero_le _, rfl, Lib.hid (F3.out.same (fun j hj => by rw [if_neg (Nat.not_lt_zero _), pad_lt _ _ _ hj]) (fun _ _ => rfl)), Lib.hid (Only.refl _ _)⟩
  case round =>
    obtain ⟨k, hk, rfl, HFR, HO⟩ := hrel
    clear F3
    have Q := Lib.hid (HO.out.part (B := g1) (E := g1 + 1) (Nat.le_refl _) (Nat.lt_succ_self _))
    have hbz : w2.heap.size < g1 ∨ g1 + 1 ≤ w2.heap.size := by omega
    obtain ⟨_, x0, x1, x2⟩ := BZ.out.part Q.out hbz
    by_cases hlt : k < n
    · have hlt' : (k : Int) < (n : Int) := by omega
      have c1 := HFR.out.c1 k hlt
      rw [if_neg (Nat.lt_irrefl k)] at c1
      have z1 := HFR.out.z1 k
      have hx := (HF.out.each k (by rw [HN.out]; exact hlt)).1
      have ha := (HF.out.each 0 (by rw [HN.out]; omega)).1
      have HFV := Lib.hid (HFR.out.below (drew_below wr))
      have HOV := Lib.hid (HO.out.trans (show Only g1 wr wr.drew from ⟨rfl, rfl, rfl, Nat.le_refl _, fun _ _ _ => rfl⟩))
      have LWR := L3.out.trans ((Q.out.below (by omega)).mono (by omega))
      obtain ⟨_, t0, t1, t2⟩ := BX.out.lo LWR
      have d1 := (PW.out.lo LWR).c1 0 (by rw [HN.out]; omega)
      obtain ⟨x, hxe⟩ : ∃ x, p.ls.getD k 0 = x := ⟨_, rfl⟩
      obtain ⟨a, hae⟩ : ∃ a, p.ls.getD 0 0 = a := ⟨_, rfl⟩
      rw [hxe] at c1 hx
      rw [hae] at d1 ha
      rw [Nat.add_zero] at d1
      have HX := Lib.hid hxe
      have HA := Lib.hid hae
      have hn0 : (0 : Int) < (n : Int) := by omega
      have hnn : 0 < n := by omega
      obtain ⟨hx0, hx1⟩ := hx
      obtain ⟨ha0, ha1⟩ := ha
      have H1 := Lib.hid (wrap_small (2 * a) (by omega) (by omega))
      have H2 := Lib.hid (wrap_small (2 * a - x) (by omega) (by omega))
      clear hxe hae LWR
      have h1 := H1.out
      have h2 := H2.out
      go_wp2
      go_still_tail 15, (by kernel_rfl)
      change wpList _ _ _ _ _ wr.drew
      have zz : wr.drew.frozen? ⟨g1, k, none⟩ = false := z1
      have cc : wr.drew.cell? ⟨g1, k, none⟩ = some (.int .i64 x) := c1
      clear c1 z1 t0 t1 t2 x0 x1 x2 d1 HFR HO Q
      generalize wr.drew = V at *
      have HS := Lib.hid (fun x => HFV.out.set1 k hlt x)
      go_wp2
      go_roundw
      case rel =>
        refine ⟨k + 1, by omega, by go_num, Lib.hid ((HS.out (2 * a - x)).same (fun j hj => ?_) (fun _ _ => rfl)), Lib.hid (HOV.out.trans (only_set _ _ _ _))⟩
        by_cases e : j = k
        · subst e; rw [if_pos (by omega), if_pos rfl, HX.out, HA.out]
        · rw [if_neg e]
          by_cases h : j < k
          · rw [if_pos h, if_pos (by omega)]
          · rw [if_neg h, if_neg (by omega)]
      case measure => simp [intOf]; omega
    · obtain rfl : k = n := by omega
      have hge : ¬ (k : Int) < (k : Int) := by omega
      have HQ1 := Lib.hid (HQ.out (fun j => if j < k then 2 * p.ls.getD 0 0 - p.ls.getD j 0 else p.ls.getD j 0) (padF p.ws k) (fun j hj => if_pos hj) (fun j hj => pad_lt _ _ _ hj))
      have M0 := HFR.out.mine p.wd
      rw [HQ1.out] at M0
      have M1 := Lib.hid M0
      have hsm : SmallP (mirP p) := ⟨by show (p.ls.map _).length ≤ _; rw [List.length_map, HN.out]; omega, by show p.ws.length ≤ _; rw [HSAME.out]; omega⟩
      have VP := Lib.hid (validPile_any _ _ wr M0.row hsm)
      have BY4 := Lib.hid (BY3.out.part Q.out (by omega))
      have FY4 := Lib.hid (fun j => show wr.frozen? ⟨w.heap.size + 1, j, none⟩ = false by rw [Q.out.frozen (p := ⟨w.heap.size + 1, j, none⟩) BY3.out.1 (by simp only; omega)]; exact FY3.out j)
      have L4 := Lib.hid (LW.out.trans ((L3.out.trans ((Q.out.below (by omega)).mono (by omega))).mono LW.out.size))
      have hq := Q.out.size
      clear M0 hsm HQ1 HQ BY3 FY3 HFR HO BZ
      go_wp2_with fail
      refine VP.out.mono ?_
      rintro e w5 ⟨rfl, l5⟩
      have BY5 := Lib.hid (BY4.out.lo l5)
      obtain ⟨by0, r0, r1, r2⟩ := BY5.out
      have fz : ∀ j, w5.frozen? ⟨w.heap.size + 1, j, none⟩ = false := fun j => by rw [l5.frozen (p := ⟨w.heap.size + 1, j, none⟩) BY4.out.1]; exact FY4.out j
      have f0 := fz 0
      have f1 := fz 1
      have f2 := fz 2
      have K5 := Lib.hid (kept_mine (M1.out.lo l5) (by omega))
      have C5 := Lib.hid (kept_cap (p := mirP p) (show PileCap (.agg #[.int .i64 p.wd, .slice (some ⟨g1, 0, none⟩) k k, .slice (some ⟨g2, 0, none⟩) k k]) from ⟨_, _, _, _, _, _, _, rfl, Nat.le_refl _, Nat.le_refl _⟩))
      have L5 := Lib.hid (lo_on L4.out l5)
      have h5 := l5.size
      obtain ⟨ka, kb, kc, kd, hkv⟩ := K5.out.row.form
      have HKV := Lib.hid hkv
      rw [hkv] at K5 C5 ⊢
      have TS := Lib.hid (three_set w5 _ BY5.out (.int .i64 (keptP true (mirP p)).wd) (.slice ka (keptP true (mirP p)).ls.length kc) (.slice kb (keptP true (mirP p)).ws.length kd))
      have PA := Lib.hid (((((only_set w5 (w.heap.size + 1) 0 (.int .i64 (keptP true (mirP p)).wd)).part (B := w.heap.size + 1) (E := w.heap.size + 2) (by omega) (by omega))).trans ((only_set _ (w.heap.size + 1) 1 (.slice ka (keptP true (mirP p)).ls.length kc)).part (by omega) (by omega))).trans ((only_set _ (w.heap.size + 1) 2 (.slice kb (keptP true (mirP p)).ws.length kd)).part (by omega) (by omega)))
      clear l5 VP fz hkv
      generalize (keptP true (mirP p)).wd = rw at *
      generalize (keptP true (mirP p)).ls.length = rl at *
      generalize (keptP true (mirP p)).ws.length = rs at *
      go_wp2
      obtain ⟨_, q0, q1, q2⟩ := TS.out
      have hpz := PA.out.size
      refine bodyPost_ret (v := .tuple #[.agg #[.int .i64 rw, .slice ka rl kc, .slice kb rs kd], .bool (pileB (mirP p))]) (by simp [results, Try.results55, go_sem, q0, q1, q2]) rfl ⟨_, rfl, ?_, C5.out, ?_⟩
      · exact (K5.out.part PA.out (by omega)).mono (by omega) (by omega)
      · exact L5.out.trans ((PA.out.below (by omega)).mono (by omega))
set_option maxRecDepth 100000 in
set_option maxHeartbeats 1600000 in
theorem mirror_no (v : Value) (p : PileV) (w : World) (hv : PileRow w v p) (hs : SmallP p) (h : pileB p = false) :
    Calls Try.prog 55 #[v] w (MadeP w false (mirP p)) := by
  obtain ⟨a, b, c, d, rfl⟩ := hv.form
  obtain ⟨W, hW⟩ : ∃ W, (w.alloc (.cells #[.int .i64 p.wd, .slice a p.ls.length c, .slice b p.ws.length d] 27)).alloc (.cells #[.int .i64 0, .slice none 0 0, .slice none 0 0] 27) = W := ⟨_, rfl⟩
  have LW := Lib.hid (show Below w.heap.size w W by rw [← hW]; exact ((Below.refl _ _).alloc (Nat.le_refl _) _).alloc (by simp) _)
  have BX := Lib.hid (show Box3 W w.heap.size (.int .i64 p.wd) (.slice a p.ls.length c) (.slice b p.ws.length d) by rw [← hW]; exact (box3_new _ _ _ _ _).lo ((Below.refl _ _).alloc (Nat.le_refl _) _))
  have BY := Lib.hid (show Box3 W (w.heap.size + 1) (.int .i64 0) (.slice none 0 0) (.slice none 0 0) by rw [← hW]; have := box3_new (w.alloc (.cells #[.int .i64 p.wd, .slice a p.ls.length c, .slice b p.ws.length d] 27)) (.int .i64 0) (.slice none 0 0) (.slice none 0 0) 27; simpa using this)
  have FY := Lib.hid (show ∀ j, W.frozen? ⟨w.heap.size + 1, j, none⟩ = false by rw [← hW]; exact fun j => World.frozen?_alloc_at _ _ _ _ (by simp))
  have hsz : W.heap.size = w.heap.size + 2 := by rw [← hW]; simp
  have D := Lib.hid (isPile_any _ p W (hv.lo LW.out) hs)
  rw [h] at D
  have HNIL := Lib.hid (kept_no false (mirP p) rfl)
  have HMP := Lib.hid (fun w' (l : Below w.heap.size w w') (h : w.heap.size + 2 ≤ w'.heap.size) => show MadeP w false (mirP p) (.returned (.tuple #[.agg #[.int .i64 0, .slice none 0 0, .slice none 0 0], .bool false])) w' from
    ⟨_, rfl, by rw [HNIL.out]; exact minePl_nil w' _ _ (by omega), cap_nil, l⟩)
  clear hv hs h
  obtain ⟨_, u0, u1, u2⟩ := BX.out
  go_enter Try.func55, Try.ntmps55
  go_wp2_with fail
  clear hW u0 u1 u2
  refine D.out.mono ?_
  rintro e w1 ⟨rfl, l1⟩
  have BY1 := Lib.hid (BY.out.lo l1)
  obtain ⟨by0, y0, y1, y2⟩ := BY1.out
  have fz : ∀ j, w1.frozen? ⟨w.heap.size + 1, j, none⟩ = false := fun j => by rw [l1.frozen (p := ⟨w.heap.size + 1, j, none⟩) BY.out.1]; exact FY.out j
  have f0 := fz 0
  have f1 := fz 1
  have f2 := fz 2
  have L1 := Lib.hid (lo_on LW.out l1)
  have h1 := l1.size
  have TS := Lib.hid (three_set w1 _ BY1.out (.int .i64 0) (.slice none 0 0) (.slice none 0 0))
  clear l1 D fz BX BY FY LW
  go_wp2
  obtain ⟨_, q0, q1, q2⟩ := TS.out
  exact bodyPost_ret (v := .tuple #[.agg #[.int .i64 0, .slice none 0 0, .slice none 0 0], .bool false]) (by simp [results, Try.results55, go_sem, q0, q1, q2]) rfl (HMP.out _ (((L1.out.setCell (p := ⟨w.heap.size + 1, 0, none⟩) (by simp only; omega) _).setCell (p := ⟨w.heap.size + 1, 1, none⟩) (by simp only; omega) _).setCell (p := ⟨w.heap.size + 1, 2, none⟩) (by simp only; omega) _) (by simp; omega))
theorem mirror_any (v : Value) (p : PileV) (w : World) (hv : PileRow w v p) (hs : SmallP p) :
    Calls Try.prog 55 #[v] w (MadeP w (pileB p) (mirP p)) := by
  cases h : pileB p with
  | true => exact mirror_yes v p w hv ((pileB_iff p).1 h)
  | false => exact mirror_no v p w hv hs h
end Go.Proofs.Ytgdgiecajflmaaa
