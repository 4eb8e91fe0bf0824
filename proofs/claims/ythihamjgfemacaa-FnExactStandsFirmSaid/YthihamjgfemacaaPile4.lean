/- ContactOf, the model's and the program's. -/
import Derived.Test.YthihamjgfemacaaPile3
import Derived.StillTailTactics
namespace Go.Proofs.Ythihamjgfemacaa
open Go.RowKit
noncomputable def conB (p : PileV) (i : Int) : Bool := brickB p i && meetB p i.toNat
noncomputable def conLo (p : PileV) (i : Int) : Int := if conB p i = true then lowF p i.toNat else 0
noncomputable def conHi (p : PileV) (i : Int) : Int := if conB p i = true then highF p i.toNat else 0
theorem con_no (p : PileV) (i : Int) (h : brickB p i = false) : conB p i = false ∧ conLo p i = 0 ∧ conHi p i = 0 := by
  have e : conB p i = false := by unfold conB; rw [h]; rfl
  unfold conLo conHi
  rw [e]
  exact ⟨rfl, rfl, rfl⟩
theorem con_apart (p : PileV) (k : Nat) (h : highF p k < lowF p k) : conB p k = false ∧ conLo p k = 0 ∧ conHi p k = 0 := by
  have e : conB p k = false := by unfold conB meetB; rw [Int.toNat_natCast, decide_eq_false (by omega), Bool.and_false]
  unfold conLo conHi
  rw [e]
  exact ⟨rfl, rfl, rfl⟩
theorem con_yes (p : PileV) (k : Nat) (h : lowF p k ≤ highF p k) (hb : brickB p k = true) : conB p k = true ∧ conLo p k = lowF p k ∧ conHi p k = highF p k := by
  have e : conB p k = true := by unfold conB meetB; rw [Int.toNat_natCast, decide_eq_true h, hb]; rfl
  unfold conLo conHi
  rw [e, Int.toNat_natCast]
  exact ⟨rfl, rfl, rfl⟩
set_option maxRecDepth 100000 in
set_option maxHeartbeats 3200000 in
theorem contact_yes (v : Value) (p : PileV) (k : Nat) (w : World) (hv : PileRow w v p) (hf : PileF p) (hk : k < p.ls.length) :
    Calls Try.prog 131 #[v, .int .i64 (k : Int)] w fun e w' => e = .returned (.tuple #[.int .i64 (conLo p k), .int .i64 (conHi p k), .bool (conB p k)]) ∧ Below w.heap.size w w' := by
  have hb : brickB p (k : Int) = true := (brickB_iff p k).2 ⟨hf, k, rfl, hk⟩
  obtain ⟨g, off, c, g', off', c', rfl, PC⟩ := pile_open hv hf
  have hn8 := hf.short
  have hw1 := hf.w1
  have hw2 := hf.w2
  have hx := (hf.each k hk).1
  have hsame := hf.same
  obtain ⟨W, hW⟩ : ∃ W, w.alloc (.cells #[.int .i64 p.wd, .slice (some ⟨g, off, none⟩) p.ls.length c, .slice (some ⟨g', off', none⟩) p.ls.length c'] 63) = W := ⟨_, rfl⟩
  have LW := Lib.hid (show Below w.heap.size w W by rw [← hW]; exact (Below.refl _ _).alloc (Nat.le_refl _) _)
  have BX := Lib.hid (show Box3 W w.heap.size (.int .i64 p.wd) (.slice (some ⟨g, off, none⟩) p.ls.length c) (.slice (some ⟨g', off', none⟩) p.ls.length c') by rw [← hW]; exact box3_new _ _ _ _ _)
  have D := Lib.hid (isBrick_any _ p k W (hv.lo LW.out) hf.small)
  have PW := Lib.hid (PC.lo LW.out)
  rw [hb] at D
  have HC0 := And.intro (fun h => con_yes p k h hb) (con_apart p k)
  generalize conB p k = bb at HC0 ⊢
  generalize conLo p k = lo at HC0 ⊢
  generalize conHi p k = hi at HC0 ⊢
  have HC := Lib.hid HC0
  clear HC0
  have HF := Lib.hid hf
  obtain ⟨n, hn⟩ : ∃ n, p.ls.length = n := ⟨_, rfl⟩
  have HN := Lib.hid hn
  rw [hn] at hk hn8 hsame hW BX D ⊢
  have hkn : (k : Int) < (n : Int) := by omega
  clear hv hb PC hn hf hsame
  obtain ⟨_, u0, u1, u2⟩ := BX.out
  go_enter Try.func131, Try.ntmps131
  go_wp2_with fail
  clear hW u0 u1 u2
  refine D.out.mono ?_
  rintro e w1 ⟨rfl, l1⟩
  have L1 := Lib.hid (lo_on LW.out l1)
  have BX1 := Lib.hid (BX.out.lo l1)
  obtain ⟨bz, x0, x1, x2⟩ := BX1.out
  have P1 := Lib.hid (PW.out.lo l1)
  have ck := P1.out.c1 k (by rw [HN.out]; exact hk)
  clear l1 D PW BX LW
  cases k with
  | zero =>
    rw [Nat.add_zero] at ck
    change (0 : Int) < (n : Int) at hkn
    have HL := Lib.hid (show p.ls.getD 0 0 = lowF p 0 by unfold lowF; rw [if_pos rfl])
    have HH := Lib.hid (high_zero p)
    generalize p.ls.getD 0 0 = x at ck hx HL HH
    have H1 := Lib.hid (wrap_small (x + p.wd) (by omega) (by omega))
    go_wp2_with fail
    have h1 := H1.out
    have h00 : ((0 : Nat) : Int) = 0 := rfl
    go_quiet (fail)
    clear h1
    have LQ := Lib.hid (L1.out.trans ((drewN_lo w1 nq).mono L1.out.size))
    by_cases hneg : 0 < x + p.wd
    · have hh := HH.out
      rw [if_neg (by omega)] at hh
      have HC1 := HC.out
      rw [← HL.out, ← hh] at HC1
      by_cases hx0 : x ≤ 0
      · have R := Lib.hid (HC1.1 hx0)
        have hng : ¬ 0 < x := by omega
        clear HC1 hh HC HH HL ck x0 x1 x2 P1 BX1
        go_wp2
        go_ret3
        exact ⟨by rw [R.out.1, R.out.2.1, R.out.2.2]; rfl, LQ.out⟩
      · have R := Lib.hid (HC1.2 (by omega))
        have hng : 0 < x := by omega
        clear HC1 hh HC HH HL ck x0 x1 x2 P1 BX1
        go_wp2
        go_ret3
        exact ⟨by rw [R.out.1, R.out.2.1, R.out.2.2]; rfl, LQ.out⟩
    · have hh : highF p 0 = x + p.wd := by rw [← HH.out]; split <;> omega
      have HC1 := HC.out
      rw [← HL.out, hh] at HC1
      have R := Lib.hid (HC1.1 (by omega))
      have hng : ¬ x + p.wd < x := by omega
      clear HC1 hh HC HH HL ck x0 x1 x2 P1 BX1
      go_wp2
      go_ret3
      exact ⟨by rw [R.out.1, R.out.2.1, R.out.2.2]; rfl, LQ.out⟩
  | succ m =>
    have hy := (HF.out.each m (by rw [HN.out]; omega)).1
    have HL := Lib.hid (low_succ p m)
    have HH := Lib.hid (high_succ p m)
    generalize hxe : p.ls.getD (m + 1) 0 = x at ck hx HL HH
    generalize hye : p.ls.getD m 0 = y at hy HL HH
    have HXE := Lib.hid hxe
    have HYE := Lib.hid hye
    have H1 := Lib.hid (wrap_small (x + p.wd) (by omega) (by omega))
    have H2 := Lib.hid (wrap_small (y + p.wd) (by omega) (by omega))
    have H3 := Lib.hid (wrap_small (m : Int) (by omega) (by omega))
    have H4 := Lib.hid (show IntKind.i64.wrap ((m : Int) + 1 - 1) = (m : Int) by rw [Int.add_sub_cancel]; exact H3.out)
    have hm0 : (0 : Int) ≤ (m : Int) := by omega
    have hmn : (m : Int) < (n : Int) := by omega
    have hb0 : ((m : Int) + 1 == 0) = false := by simp; omega
    clear hxe hye
    go_wp2_with fail
    have h1 := H1.out
    go_quiet (fail)
    clear h1 ck x0 x1 x2
    obtain ⟨W2, hW2⟩ : ∃ x, w1.drewN nq = x := ⟨_, rfl⟩
    have LQ := Lib.hid (show Below w1.heap.size w1 W2 by rw [← hW2]; exact drewN_lo w1 nq)
    rw [hW2]
    obtain ⟨_, x0, x1, x2⟩ := BX1.out.lo LQ.out
    have P2 := P1.out.lo LQ.out
    have ck := P2.c1 (m + 1) (by rw [HN.out]; exact hk)
    have cm := P2.c1 m (by rw [HN.out]; omega)
    rw [HXE.out] at ck
    rw [HYE.out] at cm
    have L2 := Lib.hid (lo_on L1.out LQ.out)
    clear hW2 P2 P1 BX1 LQ
    have hl := HL.out
    have hh := HH.out
    have HC1 := HC.out
    rw [← hl, ← hh] at HC1
    clear hl hh HL HH HC
    rcases Int.lt_trichotomy x y with hyx | hyx | hyx
    · have R0 := HC1
      rw [if_neg (show ¬ y < x by omega), if_pos (show x + p.wd < y + p.wd by omega)] at R0
      clear HC1
      by_cases hm : y ≤ x + p.wd
      · have R := Lib.hid (R0.1 hm)
        have hng : ¬ x + p.wd < y := by omega
        clear R0 hm
        go_wp2
        have h2 := H2.out
        have h3 := H3.out
        have h4 := H4.out
        go_still_tail 10, (by kernel_rfl)
        clear h2 h3 h4 H2 H3 H4
        have L3 := Lib.hid (lo_on L2.out (drew_below W2))
        change wpList _ _ _ _ _ W2.drew
        clear ck cm x0 x1 x2
        generalize W2.drew = W3 at *
        go_wp2
        go_ret3
        exact ⟨by rw [R.out.1, R.out.2.1, R.out.2.2]; rfl, L3.out⟩
      · have R := Lib.hid (R0.2 (by omega))
        have hng : x + p.wd < y := by omega
        clear R0 hm
        go_wp2
        have h2 := H2.out
        have h3 := H3.out
        have h4 := H4.out
        go_still_tail 10, (by kernel_rfl)
        clear h2 h3 h4 H2 H3 H4
        have L3 := Lib.hid (lo_on L2.out (drew_below W2))
        change wpList _ _ _ _ _ W2.drew
        clear ck cm x0 x1 x2
        generalize W2.drew = W3 at *
        go_wp2
        go_ret3
        exact ⟨by rw [R.out.1, R.out.2.1, R.out.2.2]; rfl, L3.out⟩
    · have R0 := HC1
      rw [if_neg (show ¬ y < x by omega), if_neg (show ¬ x + p.wd < y + p.wd by omega), ← hyx] at R0
      have e1 : ¬ x < y := by omega
      have e2 : ¬ y + p.wd < x + p.wd := by omega
      clear HC1 hyx
      by_cases hm : x ≤ x + p.wd
      · have R := Lib.hid (R0.1 hm)
        have hng : ¬ x + p.wd < x := by omega
        clear R0 hm
        go_wp2
        have h2 := H2.out
        have h3 := H3.out
        have h4 := H4.out
        go_still_tail 10, (by kernel_rfl)
        clear h2 h3 h4 H2 H3 H4
        have L3 := Lib.hid (lo_on L2.out (drew_below W2))
        change wpList _ _ _ _ _ W2.drew
        clear ck cm x0 x1 x2
        generalize W2.drew = W3 at *
        go_wp2
        go_ret3
        exact ⟨by rw [R.out.1, R.out.2.1, R.out.2.2]; rfl, L3.out⟩
      · exfalso; omega
    · have R0 := HC1
      rw [if_pos hyx, if_neg (show ¬ x + p.wd < y + p.wd by omega)] at R0
      clear HC1
      by_cases hm : x ≤ y + p.wd
      · have R := Lib.hid (R0.1 hm)
        have hng : ¬ y + p.wd < x := by omega
        clear R0 hm
        go_wp2
        have h2 := H2.out
        have h3 := H3.out
        have h4 := H4.out
        go_still_tail 10, (by kernel_rfl)
        clear h2 h3 h4 H2 H3 H4
        have L3 := Lib.hid (lo_on L2.out (drew_below W2))
        change wpList _ _ _ _ _ W2.drew
        clear ck cm x0 x1 x2
        generalize W2.drew = W3 at *
        go_wp2
        go_ret3
        exact ⟨by rw [R.out.1, R.out.2.1, R.out.2.2]; rfl, L3.out⟩
      · have R := Lib.hid (R0.2 (by omega))
        have hng : y + p.wd < x := by omega
        clear R0 hm
        go_wp2
        have h2 := H2.out
        have h3 := H3.out
        have h4 := H4.out
        go_still_tail 10, (by kernel_rfl)
        clear h2 h3 h4 H2 H3 H4
        have L3 := Lib.hid (lo_on L2.out (drew_below W2))
        change wpList _ _ _ _ _ W2.drew
        clear ck cm x0 x1 x2
        generalize W2.drew = W3 at *
        go_wp2
        go_ret3
        exact ⟨by rw [R.out.1, R.out.2.1, R.out.2.2]; rfl, L3.out⟩
theorem contact_any (v : Value) (p : PileV) (i : Int) (w : World) (hv : PileRow w v p) (hs : SmallP p) :
    Calls Try.prog 131 #[v, .int .i64 i] w fun e w' => e = .returned (.tuple #[.int .i64 (conLo p i), .int .i64 (conHi p i), .bool (conB p i)]) ∧ Below w.heap.size w w' := by
  by_cases hb : brickB p i = true
  · obtain ⟨hf, k, rfl, hk⟩ := (brickB_iff p i).1 hb
    exact contact_yes v p k w hv hf hk
  · have hb0 : brickB p i = false := by simpa using hb
    obtain ⟨a, b, c, d, rfl⟩ := hv.form
    obtain ⟨W, hW⟩ : ∃ W, w.alloc (.cells #[.int .i64 p.wd, .slice a p.ls.length c, .slice b p.ws.length d] 63) = W := ⟨_, rfl⟩
    have LW := Lib.hid (show Below w.heap.size w W by rw [← hW]; exact (Below.refl _ _).alloc (Nat.le_refl _) _)
    have BX := Lib.hid (show Box3 W w.heap.size (.int .i64 p.wd) (.slice a p.ls.length c) (.slice b p.ws.length d) by rw [← hW]; exact box3_new _ _ _ _ _)
    have D := Lib.hid (isBrick_any _ p i W (hv.lo LW.out) hs)
    rw [hb0] at D
    obtain ⟨r1, r2, r3⟩ := con_no p i hb0
    rw [r1, r2, r3]
    clear r1 r2 r3 hb hb0 hv hs
    obtain ⟨_, u0, u1, u2⟩ := BX.out
    go_enter Try.func131, Try.ntmps131
    go_wp2_with fail
    clear hW u0 u1 u2
    refine D.out.mono ?_
    rintro e w1 ⟨rfl, l1⟩
    have L1 := Lib.hid (lo_on LW.out l1)
    clear l1 D
    go_wp2
    go_ret3
    exact ⟨rfl, L1.out⟩
end Go.Proofs.Ythihamjgfemacaa
