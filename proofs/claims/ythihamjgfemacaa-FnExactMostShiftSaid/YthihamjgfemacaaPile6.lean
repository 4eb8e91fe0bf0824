/- The upper part of a brick, and its centre: the program's and the model's. -/
import Derived.Test.YthihamjgfemacaaPile5
namespace Go.Proofs.Ythihamjgfemacaa
open Go.RowKit
set_option maxRecDepth 100000 in
set_option maxHeartbeats 3200000 in
theorem upperPart_any (g off c g' off' c' : Nat) (p : PileV) (i : Nat) (w : World) (hf : PileF p) (hi : i < p.ls.length) (k1 : p.ls.length ≤ c) (k2 : p.ls.length ≤ c') :
    Calls Try.prog 108 #[.agg #[.int .i64 p.wd, .slice (some ⟨g, off, none⟩) p.ls.length c, .slice (some ⟨g', off', none⟩) p.ls.length c'], .int .i64 (i : Int)] w fun e w' =>
      e = .returned (.agg #[.int .i64 p.wd, .slice (some ⟨g, off + i, none⟩) (p.ls.length - i) (p.ls.length - i), .slice (some ⟨g', off' + i, none⟩) (p.ls.length - i) (p.ls.length - i)]) ∧ Below w.heap.size w w' := by
  have hn8 := hf.short
  obtain ⟨n, hn⟩ : ∃ n, p.ls.length = n := ⟨_, rfl⟩
  rw [hn] at hi hn8 k1 k2 ⊢
  obtain ⟨W, hW⟩ : ∃ W, (w.alloc (.cells #[.int .i64 p.wd, .slice (some ⟨g, off, none⟩) n c, .slice (some ⟨g', off', none⟩) n c'] 63)).alloc (.cells #[.int .i64 0, .slice none 0 0, .slice none 0 0] 63) = W := ⟨_, rfl⟩
  have LW := Lib.hid (show Below w.heap.size w W by rw [← hW]; exact ((Below.refl _ _).alloc (Nat.le_refl _) _).alloc (by simp) _)
  obtain ⟨_, u0, u1, u2⟩ := (show Box3 W w.heap.size (.int .i64 p.wd) (.slice (some ⟨g, off, none⟩) n c) (.slice (some ⟨g', off', none⟩) n c') by rw [← hW]; exact (box3_new _ _ _ _ _).lo ((Below.refl _ _).alloc (Nat.le_refl _) _))
  have BY := Lib.hid (show Box3 W (w.heap.size + 1) (.int .i64 0) (.slice none 0 0) (.slice none 0 0) by rw [← hW]; have := box3_new (w.alloc (.cells #[.int .i64 p.wd, .slice (some ⟨g, off, none⟩) n c, .slice (some ⟨g', off', none⟩) n c'] 63)) (.int .i64 0) (.slice none 0 0) (.slice none 0 0) 63; simpa using this)
  have FY := Lib.hid (show ∀ j, W.frozen? ⟨w.heap.size + 1, j, none⟩ = false by rw [← hW]; exact fun j => World.frozen?_alloc_at _ _ _ _ (by simp))
  have hin : (i : Int) ≤ (n : Int) := by omega
  have hne : ¬ n = i := by omega
  have hi0 : (0 : Int) ≤ (i : Int) := by omega
  have hn0 : (0 : Int) ≤ (n : Int) := by omega
  have hnc : (n : Int) ≤ (c : Int) := by omega
  have hnc' : (n : Int) ≤ (c' : Int) := by omega
  clear hn hf
  go_enter Try.func108, Try.ntmps108
  go_wp2
  clear hW
  go_still_tail 15, (by kernel_rfl)
  change wpList _ _ _ _ _ W.drew
  have LD := Lib.hid (lo_on LW.out (drew_below W))
  have BD := Lib.hid (BY.out.lo (drew_below W))
  obtain ⟨_, d0, d1, d2⟩ := BD.out
  have f0 : W.drew.frozen? ⟨w.heap.size + 1, 0, none⟩ = false := FY.out 0
  have f1 : W.drew.frozen? ⟨w.heap.size + 1, 1, none⟩ = false := FY.out 1
  have f2 : W.drew.frozen? ⟨w.heap.size + 1, 2, none⟩ = false := FY.out 2
  clear BY FY LW u0 u1 u2 hne
  generalize W.drew = V at *
  have TS := Lib.hid (three_set V _ BD.out (.int .i64 p.wd) (.slice (some ⟨g, off + i, none⟩) (n - i) (n - i)) (.slice (some ⟨g', off' + i, none⟩) (n - i) (n - i)))
  have LS := Lib.hid (show Below w.heap.size w (((V.setCell ⟨w.heap.size + 1, 0, none⟩ (.int .i64 p.wd)).setCell ⟨w.heap.size + 1, 1, none⟩ (.slice (some ⟨g, off + i, none⟩) (n - i) (n - i))).setCell ⟨w.heap.size + 1, 2, none⟩ (.slice (some ⟨g', off' + i, none⟩) (n - i) (n - i))) from
    ((LD.out.setCell (p := ⟨w.heap.size + 1, 0, none⟩) (by simp only; omega) _).setCell (p := ⟨w.heap.size + 1, 1, none⟩) (by simp only; omega) _).setCell (p := ⟨w.heap.size + 1, 2, none⟩) (by simp only; omega) _)
  clear BD LD
  go_wp2
  obtain ⟨_, q0, q1, q2⟩ := TS.out
  exact bodyPost_ret (v := .agg #[.int .i64 p.wd, .slice (some ⟨g, off + i, none⟩) (n - i) (n - i), .slice (some ⟨g', off' + i, none⟩) (n - i) (n - i)]) (by simp [results, Try.results108, go_sem, q0, q1, q2]) rfl ⟨rfl, LS.out⟩
theorem PileC.drop {w : World} {g off g' off' : Nat} {p : PileV} (h : PileC w g off g' off' p) (i j : Nat) (hj : i + j < p.ls.length) : w.cell? ⟨g, off + i + j, none⟩ = some (.int .i64 (p.ls.getD (i + j) 0)) ∧ w.cell? ⟨g', off' + i + j, none⟩ = some (.int .i64 (p.ws.getD (i + j) 0)) :=
  ⟨by rw [Nat.add_assoc]; exact h.c1 _ hj, by rw [Nat.add_assoc]; exact h.c2 _ hj⟩
noncomputable def cenA (p : PileV) (i : Int) : Int := if brickB p i = true then cutA (upSum p i.toNat) (2 * upWei p i.toNat) else 0
noncomputable def cenB (p : PileV) (i : Int) : Int := if brickB p i = true then cutB (upSum p i.toNat) (2 * upWei p i.toNat) else 0
theorem cen_yes (p : PileV) (k : Nat) (h : brickB p k = true) : cenA p k = cutA (upSum p k) (2 * upWei p k) ∧ cenB p k = cutB (upSum p k) (2 * upWei p k) := by
  unfold cenA cenB
  rw [if_pos h, if_pos h, Int.toNat_natCast]
  exact ⟨rfl, rfl⟩
theorem cen_no (p : PileV) (i : Int) (h : brickB p i = false) : cenA p i = 0 ∧ cenB p i = 0 := by
  unfold cenA cenB
  rw [h]
  exact ⟨rfl, rfl⟩
theorem cap_of {wd : Int} {a b : Option Addr} {n c m d : Nat} (h : PileCap (.agg #[.int .i64 wd, .slice a n c, .slice b m d])) : n ≤ c ∧ m ≤ d := by
  obtain ⟨wd', a', n', c', b', m', d', e, h1, h2⟩ := h
  cases e
  exact ⟨h1, h2⟩
set_option maxRecDepth 100000 in
set_option maxHeartbeats 3200000 in
theorem upperCentre_yes (v : Value) (p : PileV) (i : Nat) (w : World) (hv : PileRow w v p) (hc : PileCap v) (hf : PileF p) (hi : i < p.ls.length) :
    Calls Try.prog 64 #[v, .int .i64 (i : Int)] w fun e w' => e = .returned (.tuple #[.agg #[.int .i64 (cutA (upSum p i) (2 * upWei p i)), .int .i64 (cutB (upSum p i) (2 * upWei p i))], .bool true]) ∧ Below w.heap.size w w' := by
  have hb : brickB p (i : Int) = true := (brickB_iff p i).2 ⟨hf, i, rfl, hi⟩
  obtain ⟨g, off, c, g', off', c', rfl, PC⟩ := pile_open hv hf
  obtain ⟨k1, k2⟩ := cap_of hc
  obtain ⟨s0, s1, s2, s3⟩ := upSum_bounds hf i hi
  have LT := Lib.hid (fun w => lowest_any (upSum p i) (2 * upWei p i) w (by omega) (by omega) (by omega) (by omega))
  generalize cutA (upSum p i) (2 * upWei p i) = ca at LT ⊢
  generalize cutB (upSum p i) (2 * upWei p i) = cb at LT ⊢
  have hn8 := hf.short
  have hw1 := hf.w1
  have hw2 := hf.w2
  obtain ⟨W, hW⟩ : ∃ W, (w.alloc (.cells #[.int .i64 p.wd, .slice (some ⟨g, off, none⟩) p.ls.length c, .slice (some ⟨g', off', none⟩) p.ls.length c'] 63)).alloc (.cells #[.int .i64 0, .int .i64 0] 43) = W := ⟨_, rfl⟩
  have LW := Lib.hid (show Below w.heap.size w W by rw [← hW]; exact ((Below.refl _ _).alloc (Nat.le_refl _) _).alloc (by simp) _)
  have BX := Lib.hid (show Box3 W w.heap.size (.int .i64 p.wd) (.slice (some ⟨g, off, none⟩) p.ls.length c) (.slice (some ⟨g', off', none⟩) p.ls.length c') by rw [← hW]; exact (box3_new _ _ _ _ _).lo ((Below.refl _ _).alloc (Nat.le_refl _) _))
  have BY := Lib.hid (show Box2 W (w.heap.size + 1) (.int .i64 0) (.int .i64 0) by rw [← hW]; have := box2_new (w.alloc (.cells #[.int .i64 p.wd, .slice (some ⟨g, off, none⟩) p.ls.length c, .slice (some ⟨g', off', none⟩) p.ls.length c'] 63)) (.int .i64 0) (.int .i64 0) 43; simpa using this)
  have FY := Lib.hid (show ∀ j, W.frozen? ⟨w.heap.size + 1, j, none⟩ = false by rw [← hW]; exact fun j => World.frozen?_alloc_at _ _ _ _ (by simp))
  have D := Lib.hid (isBrick_any _ p i W (hv.lo LW.out) hf.small)
  rw [hb] at D
  have PW := Lib.hid (PC.lo LW.out)
  have UP := Lib.hid (fun w1 => upperPart_any g off c g' off' c' p i w1 hf hi k1 k2)
  have HF := Lib.hid hf
  obtain ⟨n, hn⟩ : ∃ n, p.ls.length = n := ⟨_, rfl⟩
  have HN := Lib.hid hn
  rw [hn] at hi hn8 hW BX D UP ⊢
  have HB := Lib.hid (fun j (h : j ≤ n - i) => up_bound hf i j (by rw [hn]; omega))
  have HA := Lib.hid (fun j (h : j < n - i) => upSum_at hf i j (by rw [hn]; omega))
  have HE := Lib.hid (upSum_all hf i (n - i) (by rw [hn]; omega))
  obtain ⟨M, hM⟩ : ∃ M : Nat → Int, M = fun k => momP p.wd ((p.ls.drop i).take k) ((p.ws.drop i).take k) := ⟨_, rfl⟩
  obtain ⟨V, hV⟩ : ∃ V : Nat → Int, V = fun k => weiP ((p.ws.drop i).take k) := ⟨_, rfl⟩
  have HB := Lib.hid (show ∀ k, k ≤ n - i → (-176000 ≤ M k ∧ M k ≤ 176000) ∧ 0 ≤ V k ∧ V k ≤ 792 by rw [hM, hV]; exact HB.out)
  have HA := Lib.hid (show ∀ k, k < n - i → M (k + 1) = M k + p.ws.getD (i + k) 0 * (2 * p.ls.getD (i + k) 0 + p.wd) ∧ V (k + 1) = V k + p.ws.getD (i + k) 0 by rw [hM, hV]; exact HA.out)
  have HE := Lib.hid (show M (n - i) = upSum p i ∧ V (n - i) = upWei p i by rw [hM, hV]; exact HE.out)
  have HS := Lib.hid (show M 0 = 0 ∧ V 0 = 0 by rw [hM, hV]; simp [momP, weiP])
  obtain ⟨q, hq⟩ : ∃ q, n - i = q := ⟨_, rfl⟩
  rw [hq] at HB HA HE UP
  have HQ := Lib.hid hq
  have hq8 : q ≤ 8 := by omega
  clear hv hf PC hn hM hV hb hc hq
  obtain ⟨_, u0, u1, u2⟩ := BX.out
  go_enter Try.func64, Try.ntmps64
  go_wp2_with fail
  clear hW u0 u1 u2
  refine D.out.mono ?_
  rintro e w1 ⟨rfl, l1⟩
  have L1 := Lib.hid (lo_on LW.out l1)
  obtain ⟨_, x0, x1, x2⟩ := BX.out.lo l1
  have U1 := Lib.hid (UP.out w1)
  have PW1 := Lib.hid (PW.out.lo l1)
  have BY1 := Lib.hid (BY.out.lo l1)
  have FY1 := Lib.hid (fun j => show w1.frozen? ⟨w.heap.size + 1, j, none⟩ = false by rw [l1.frozen (p := ⟨w.heap.size + 1, j, none⟩) BY.out.1]; exact FY.out j)
  clear l1 D UP PW BX BY FY LW
  go_wp2_with fail
  refine U1.out.mono ?_
  rintro e w2 ⟨rfl, l2⟩
  have L2 := Lib.hid (lo_on L1.out l2)
  have PW2 := Lib.hid (PW1.out.lo l2)
  have BY2 := Lib.hid (BY1.out.lo l2)
  have FY2 := Lib.hid (fun j => show w2.frozen? ⟨w.heap.size + 1, j, none⟩ = false by rw [l2.frozen (p := ⟨w.heap.size + 1, j, none⟩) BY1.out.1]; exact FY1.out j)
  clear l2 U1 x0 x1 x2 PW1 BY1 FY1 L1
  obtain ⟨W3, hW3⟩ : ∃ W, w2.alloc (.cells #[.int .i64 p.wd, .slice (some ⟨g, off + i, none⟩) q q, .slice (some ⟨g', off' + i, none⟩) q q] 63) = W := ⟨_, rfl⟩
  have l3 : Below w2.heap.size w2 W3 := by rw [← hW3]; exact (Below.refl _ _).alloc (Nat.le_refl _) _
  have L3 := Lib.hid (lo_on L2.out l3)
  have PW3 := Lib.hid (PW2.out.lo l3)
  have BY3 := Lib.hid (BY2.out.lo l3)
  have FY3 := Lib.hid (fun j => show W3.frozen? ⟨w.heap.size + 1, j, none⟩ = false by rw [l3.frozen (p := ⟨w.heap.size + 1, j, none⟩) BY2.out.1]; exact FY2.out j)
  have BZ := Lib.hid (show Box3 W3 w2.heap.size (.int .i64 p.wd) (.slice (some ⟨g, off + i, none⟩) q q) (.slice (some ⟨g', off' + i, none⟩) q q) by rw [← hW3]; exact box3_new _ _ _ _ _)
  clear l3 PW2 BY2 FY2 L2
  obtain ⟨_, u0, u1, u2⟩ := BZ.out
  go_wp2
  clear hW3 u0 u1 u2
  go_loopw [7, 8, 22] (fun s t x wr => ∃ k : Nat, k ≤ q ∧ x = .int .i64 k ∧ s = .int .i64 (M k) ∧ t = .int .i64 (2 * V k) ∧ Hid (Below W3.heap.size W3 wr)) (fun _ _ x _ => q - (intOf x).toNat)
  case atStart => exact ⟨0, by omega, rfl, by rw [HS.out.1], by rw [HS.out.2]; rfl, Lib.hid (Below.refl _ _)⟩
  case round =>
    obtain ⟨k, hk, rfl, rfl, rfl, HW⟩ := hrel
    obtain ⟨_, x0, x1, x2⟩ := BZ.out.lo HW.out
    obtain ⟨⟨m0, m1⟩, v0, v1⟩ := HB.out k hk
    by_cases hlt : k < q
    · have hlt' : (k : Int) < (q : Int) := by omega
      obtain ⟨c1, c2⟩ := (PW3.out.lo HW.out).drop i k (by have := HQ.out; rw [HN.out]; omega)
      obtain ⟨⟨a0, a1⟩, b0, b1⟩ := HF.out.each (i + k) (by have := HQ.out; rw [HN.out]; omega)
      obtain ⟨⟨m2, m3⟩, v2, v3⟩ := HB.out (k + 1) hlt
      have hA := HA.out k hlt
      generalize p.ls.getD (i + k) 0 = x at c1 a0 a1 hA
      generalize p.ws.getD (i + k) 0 = y at c2 b0 b1 hA
      have hp := prod_bound y x p.wd b0 b1 a0 a1 hw1 hw2
      obtain ⟨t, ht⟩ : ∃ t, y * (2 * x + p.wd) = t := ⟨_, rfl⟩
      rw [ht] at hA hp
      obtain ⟨hp0, hp1⟩ := hp
      obtain ⟨A, hMk⟩ : ∃ A, M k = A := ⟨_, rfl⟩
      obtain ⟨B, hVk⟩ : ∃ B, V k = B := ⟨_, rfl⟩
      obtain ⟨A2, hMk2⟩ : ∃ A, M (k + 1) = A := ⟨_, rfl⟩
      obtain ⟨B2, hVk2⟩ : ∃ B, V (k + 1) = B := ⟨_, rfl⟩
      rw [hMk] at m0 m1 hA ⊢
      rw [hVk] at v0 v1 hA ⊢
      rw [hMk2] at m2 m3 hA
      rw [hVk2] at v2 v3 hA
      have HMK := Lib.hid (show M (k + 1) = A + t by rw [hMk2]; exact hA.1)
      have HVK := Lib.hid (show 2 * V (k + 1) = 2 * B + 2 * y by rw [hVk2, hA.2]; omega)
      have H1 := Lib.hid (wrap_small (2 * x) (by omega) (by omega))
      have H2 := Lib.hid (wrap_small (2 * x + p.wd) (by omega) (by omega))
      have H3 := Lib.hid (show IntKind.i64.wrap (y * (2 * x + p.wd)) = t by rw [ht]; exact wrap_small _ (by omega) (by omega))
      have H4 := Lib.hid (wrap_small (A + t) (by omega) (by omega))
      clear hA ht hMk hVk hMk2 hVk2
      go_wp2
      have h1 := H1.out
      have h2 := H2.out
      have h3 := H3.out
      have h4 := H4.out
      go_quiet (fail)
      clear h1 h2 h3 h4 H1 H2 H3 H4
      go_wp2
      go_roundw
      case rel => exact ⟨k + 1, by omega, by go_num, by rw [HMK.out], by rw [HVK.out], Lib.hid (HW.out.trans ((drewN_lo wr nq).mono HW.out.size))⟩
      case measure => simp [intOf]; omega
    · obtain rfl : k = q := by omega
      have hge : ¬ (k : Int) < (k : Int) := by omega
      obtain ⟨e1, e2⟩ := HE.out
      rw [e1, e2]
      have BY4 := Lib.hid (BY3.out.lo HW.out)
      have L4 := Lib.hid (lo_on L3.out HW.out)
      have FY4 := Lib.hid (fun j => show wr.frozen? ⟨w.heap.size + 1, j, none⟩ = false by rw [HW.out.frozen (p := ⟨w.heap.size + 1, j, none⟩) BY3.out.1]; exact FY3.out j)
      clear e1 e2 m0 m1 v0 v1 HE HS HA HB
      generalize upSum p i = S at *
      generalize upWei p i = U at *
      go_wp2_with fail
      refine (LT.out _).mono ?_
      rintro e w5 ⟨rfl, l5⟩
      obtain ⟨by0, y0, y1⟩ := BY4.out.lo l5
      have f0 : w5.frozen? ⟨w.heap.size + 1, 0, none⟩ = false := by rw [l5.frozen (p := ⟨w.heap.size + 1, 0, none⟩) BY4.out.1]; exact FY4.out 0
      have f1 : w5.frozen? ⟨w.heap.size + 1, 1, none⟩ = false := by rw [l5.frozen (p := ⟨w.heap.size + 1, 1, none⟩) BY4.out.1]; exact FY4.out 1
      have L5 := Lib.hid (lo_on L4.out l5)
      have TS := Lib.hid (two_set w5 (w.heap.size + 1) 0 (.int .i64 ca) (.int .i64 cb) y0 y1)
      clear l5 LT BY4 FY4 L4
      go_wp2
      obtain ⟨q0, q1, _⟩ := TS.out
      rw [Nat.zero_add] at q0 q1
      exact bodyPost_ret (v := .tuple #[.agg #[.int .i64 ca, .int .i64 cb], .bool true]) (by simp [results, Try.results64, go_sem, q0, q1]) rfl ⟨rfl, (L5.out.setCell (p := ⟨w.heap.size + 1, 0, none⟩) (by simp only; omega) _).setCell (p := ⟨w.heap.size + 1, 1, none⟩) (by simp only; omega) _⟩
set_option maxRecDepth 100000 in
set_option maxHeartbeats 1600000 in
theorem upperCentre_any (v : Value) (p : PileV) (i : Int) (w : World) (hv : PileRow w v p) (hc : PileCap v) (hs : SmallP p) :
    Calls Try.prog 64 #[v, .int .i64 i] w fun e w' => e = .returned (.tuple #[.agg #[.int .i64 (cenA p i), .int .i64 (cenB p i)], .bool (brickB p i)]) ∧ Below w.heap.size w w' := by
  by_cases hb : brickB p i = true
  · obtain ⟨hf, k, rfl, hk⟩ := (brickB_iff p i).1 hb
    rw [(cen_yes p k hb).1, (cen_yes p k hb).2, hb]
    exact upperCentre_yes v p k w hv hc hf hk
  · have hb0 : brickB p i = false := by simpa using hb
    obtain ⟨a, b, c, d, rfl⟩ := hv.form
    obtain ⟨W, hW⟩ : ∃ W, (w.alloc (.cells #[.int .i64 p.wd, .slice a p.ls.length c, .slice b p.ws.length d] 63)).alloc (.cells #[.int .i64 0, .int .i64 0] 43) = W := ⟨_, rfl⟩
    have LW := Lib.hid (show Below w.heap.size w W by rw [← hW]; exact ((Below.refl _ _).alloc (Nat.le_refl _) _).alloc (by simp) _)
    have BX := Lib.hid (show Box3 W w.heap.size (.int .i64 p.wd) (.slice a p.ls.length c) (.slice b p.ws.length d) by rw [← hW]; exact (box3_new _ _ _ _ _).lo ((Below.refl _ _).alloc (Nat.le_refl _) _))
    have BY := Lib.hid (show Box2 W (w.heap.size + 1) (.int .i64 0) (.int .i64 0) by rw [← hW]; have := box2_new (w.alloc (.cells #[.int .i64 p.wd, .slice a p.ls.length c, .slice b p.ws.length d] 63)) (.int .i64 0) (.int .i64 0) 43; simpa using this)
    have FY := Lib.hid (show ∀ j, W.frozen? ⟨w.heap.size + 1, j, none⟩ = false by rw [← hW]; exact fun j => World.frozen?_alloc_at _ _ _ _ (by simp))
    have D := Lib.hid (isBrick_any _ p i W (hv.lo LW.out) hs)
    rw [hb0] at D
    rw [(cen_no p i hb0).1, (cen_no p i hb0).2, hb0]
    clear hv hs hb hb0 hc
    obtain ⟨_, u0, u1, u2⟩ := BX.out
    go_enter Try.func64, Try.ntmps64
    go_wp2_with fail
    clear hW u0 u1 u2
    refine D.out.mono ?_
    rintro e w5 ⟨rfl, l5⟩
    obtain ⟨by0, y0, y1⟩ := BY.out.lo l5
    have f0 : w5.frozen? ⟨w.heap.size + 1, 0, none⟩ = false := by rw [l5.frozen (p := ⟨w.heap.size + 1, 0, none⟩) BY.out.1]; exact FY.out 0
    have f1 : w5.frozen? ⟨w.heap.size + 1, 1, none⟩ = false := by rw [l5.frozen (p := ⟨w.heap.size + 1, 1, none⟩) BY.out.1]; exact FY.out 1
    have L5 := Lib.hid (lo_on LW.out l5)
    have TS := Lib.hid (two_set w5 (w.heap.size + 1) 0 (.int .i64 0) (.int .i64 0) y0 y1)
    clear l5 D BY FY BX LW
    go_wp2
    obtain ⟨q0, q1, _⟩ := TS.out
    rw [Nat.zero_add] at q0 q1
    exact bodyPost_ret (v := .tuple #[.agg #[.int .i64 0, .int .i64 0], .bool false]) (by simp [results, Try.results64, go_sem, q0, q1]) rfl ⟨rfl, (L5.out.setCell (p := ⟨w.heap.size + 1, 0, none⟩) (by simp only; omega) _).setCell (p := ⟨w.heap.size + 1, 1, none⟩) (by simp only; omega) _⟩
set_option maxRecDepth 100000 in
set_option maxHeartbeats 1600000 in
theorem specCentre_any (v : Value) (p : PileV) (i : Int) (w : World) (hv : PileRow w v p) (hs : SmallP p) :
    Calls Try.prog 62 #[v, .int .i64 i] w fun e w' => e = .returned (.tuple #[.agg #[.int .i64 (cenA p i), .int .i64 (cenB p i)], .bool (brickB p i)]) ∧ Below w.heap.size w w' := by
  obtain ⟨a, b, c, d, rfl⟩ := hv.form
  obtain ⟨W, hW⟩ : ∃ W, (w.alloc (.cells #[.int .i64 p.wd, .slice a p.ls.length c, .slice b p.ws.length d] 63)).alloc (.cells #[.int .i64 0, .int .i64 0] 43) = W := ⟨_, rfl⟩
  have LW := Lib.hid (show Below w.heap.size w W by rw [← hW]; exact ((Below.refl _ _).alloc (Nat.le_refl _) _).alloc (by simp) _)
  have BX := Lib.hid (show Box3 W w.heap.size (.int .i64 p.wd) (.slice a p.ls.length c) (.slice b p.ws.length d) by rw [← hW]; exact (box3_new _ _ _ _ _).lo ((Below.refl _ _).alloc (Nat.le_refl _) _))
  have BY := Lib.hid (show Box2 W (w.heap.size + 1) (.int .i64 0) (.int .i64 0) by rw [← hW]; have := box2_new (w.alloc (.cells #[.int .i64 p.wd, .slice a p.ls.length c, .slice b p.ws.length d] 63)) (.int .i64 0) (.int .i64 0) 43; simpa using this)
  have FY := Lib.hid (show ∀ j, W.frozen? ⟨w.heap.size + 1, j, none⟩ = false by rw [← hW]; exact fun j => World.frozen?_alloc_at _ _ _ _ (by simp))
  have HV := Lib.hid (hv.lo LW.out)
  have D := Lib.hid (l4Brick_any _ p i W HV.out hs)
  by_cases hb : brickB p i = true
  · obtain ⟨hf, k, rfl, hk⟩ := (brickB_iff p i).1 hb
    obtain ⟨s0, s1, s2, s3⟩ := upSum_bounds hf k hk
    have LT := Lib.hid (fun w => l2Cut_any (upSum p k) (2 * upWei p k) w (by omega) (by omega) (by omega) (by omega))
    have UP := Lib.hid (fun w1 (l : Below W.heap.size W w1) => l4Upper_any _ p k w1 (HV.out.lo l) hf hk)
    rw [(cen_yes p k hb).1, (cen_yes p k hb).2, hb]
    rw [hb] at D
    generalize cutA (upSum p k) (2 * upWei p k) = ca at LT ⊢
    generalize cutB (upSum p k) (2 * upWei p k) = cb at LT ⊢
    generalize upSum p k = S at *
    generalize upWei p k = U at *
    clear hv hs hb hf hk
    obtain ⟨_, u0, u1, u2⟩ := BX.out
    go_enter Try.func62, Try.ntmps62
    go_wp2_with fail
    clear hW u0 u1 u2
    refine D.out.mono ?_
    rintro e w1 ⟨rfl, l1⟩
    obtain ⟨_, x0, x1, x2⟩ := BX.out.lo l1
    have U1 := Lib.hid (UP.out w1 l1)
    have L1 := Lib.hid (lo_on LW.out l1)
    have BY1 := Lib.hid (BY.out.lo l1)
    have FY1 := Lib.hid (fun j => show w1.frozen? ⟨w.heap.size + 1, j, none⟩ = false by rw [l1.frozen (p := ⟨w.heap.size + 1, j, none⟩) BY.out.1]; exact FY.out j)
    clear l1 D UP BX BY FY LW
    go_wp2_with fail
    refine U1.out.mono ?_
    rintro e w2 ⟨rfl, l2⟩
    have L2 := Lib.hid (lo_on L1.out l2)
    have BY2 := Lib.hid (BY1.out.lo l2)
    have FY2 := Lib.hid (fun j => show w2.frozen? ⟨w.heap.size + 1, j, none⟩ = false by rw [l2.frozen (p := ⟨w.heap.size + 1, j, none⟩) BY1.out.1]; exact FY1.out j)
    clear l2 U1 x0 x1 x2 BY1 FY1 L1
    go_wp2_with fail
    refine (LT.out _).mono ?_
    rintro e w5 ⟨rfl, l5⟩
    obtain ⟨by0, y0, y1⟩ := BY2.out.lo l5
    have f0 : w5.frozen? ⟨w.heap.size + 1, 0, none⟩ = false := by rw [l5.frozen (p := ⟨w.heap.size + 1, 0, none⟩) BY2.out.1]; exact FY2.out 0
    have f1 : w5.frozen? ⟨w.heap.size + 1, 1, none⟩ = false := by rw [l5.frozen (p := ⟨w.heap.size + 1, 1, none⟩) BY2.out.1]; exact FY2.out 1
    have L5 := Lib.hid (lo_on L2.out l5)
    have TS := Lib.hid (two_set w5 (w.heap.size + 1) 0 (.int .i64 ca) (.int .i64 cb) y0 y1)
    clear l5 LT BY2 FY2 L2
    go_wp2
    obtain ⟨q0, q1, _⟩ := TS.out
    rw [Nat.zero_add] at q0 q1
    exact bodyPost_ret (v := .tuple #[.agg #[.int .i64 ca, .int .i64 cb], .bool true]) (by simp [results, Try.results62, go_sem, q0, q1]) rfl ⟨rfl, (L5.out.setCell (p := ⟨w.heap.size + 1, 0, none⟩) (by simp only; omega) _).setCell (p := ⟨w.heap.size + 1, 1, none⟩) (by simp only; omega) _⟩
  · have hb0 : brickB p i = false := by simpa using hb
    rw [hb0] at D
    rw [(cen_no p i hb0).1, (cen_no p i hb0).2, hb0]
    clear hv hs hb hb0
    obtain ⟨_, u0, u1, u2⟩ := BX.out
    go_enter Try.func62, Try.ntmps62
    go_wp2_with fail
    clear hW u0 u1 u2
    refine D.out.mono ?_
    rintro e w5 ⟨rfl, l5⟩
    obtain ⟨by0, y0, y1⟩ := BY.out.lo l5
    have f0 : w5.frozen? ⟨w.heap.size + 1, 0, none⟩ = false := by rw [l5.frozen (p := ⟨w.heap.size + 1, 0, none⟩) BY.out.1]; exact FY.out 0
    have f1 : w5.frozen? ⟨w.heap.size + 1, 1, none⟩ = false := by rw [l5.frozen (p := ⟨w.heap.size + 1, 1, none⟩) BY.out.1]; exact FY.out 1
    have L5 := Lib.hid (lo_on LW.out l5)
    have TS := Lib.hid (two_set w5 (w.heap.size + 1) 0 (.int .i64 0) (.int .i64 0) y0 y1)
    clear l5 D BY FY BX LW HV
    go_wp2
    obtain ⟨q0, q1, _⟩ := TS.out
    rw [Nat.zero_add] at q0 q1
    exact bodyPost_ret (v := .tuple #[.agg #[.int .i64 0, .int .i64 0], .bool false]) (by simp [results, Try.results62, go_sem, q0, q1]) rfl ⟨rfl, (L5.out.setCell (p := ⟨w.heap.size + 1, 0, none⟩) (by simp only; omega) _).setCell (p := ⟨w.heap.size + 1, 1, none⟩) (by simp only; omega) _⟩
end Go.Proofs.Ythihamjgfemacaa
