/- Which brick is loose, and whether a pile stands firm: the model's and the program's. -/
import Derived.Test.YthihamjgfemacaaPile7
namespace Go.Proofs.Ythihamjgfemacaa
open Go.RowKit
noncomputable def hlB (p : PileV) : Bool := pileB p && decide (0 < looseP p)
noncomputable def hlV (p : PileV) : Int := if hlB p = true then (looseP p : Int) - 1 else 0
theorem loose_yes (p : PileV) (m : Nat) (h : holdsB p m = true) : looseF p (m + 1) = looseF p m := by rw [looseF, if_pos h]
theorem loose_no (p : PileV) (m : Nat) (h : holdsB p m = false) : looseF p (m + 1) = m + 1 := by rw [looseF, if_neg (by rw [h]; simp)]
theorem holdB_at {p : PileV} (hf : PileF p) (k : Nat) (hk : k < p.ls.length) : holdB p k = holdsB p k := by
  unfold holdB
  rw [(brickB_iff p k).2 ⟨hf, k, rfl, hk⟩, Int.toNat_natCast]; rfl
theorem pileB_iff (p : PileV) : pileB p = true ↔ PileF p := propB_iff _
set_option maxRecDepth 100000 in
set_option maxHeartbeats 1600000 in
theorem l4Loose_any (v : Value) (p : PileV) (w : World) (hv : PileRow w v p) (hf : PileF p) :
    Calls Try.prog 113 #[v] w fun e w' => e = .returned (.int .i64 ((looseP p : Int) - 1)) ∧ Below w.heap.size w w' := by
  obtain ⟨a, b, c, d, rfl⟩ := hv.form
  obtain ⟨W, hW⟩ : ∃ W, w.alloc (.cells #[.int .i64 p.wd, .slice a p.ls.length c, .slice b p.ws.length d] 63) = W := ⟨_, rfl⟩
  have LW := Lib.hid (show Below w.heap.size w W by rw [← hW]; exact (Below.refl _ _).alloc (Nat.le_refl _) _)
  have BX := Lib.hid (show Box3 W w.heap.size (.int .i64 p.wd) (.slice a p.ls.length c) (.slice b p.ws.length d) by rw [← hW]; exact box3_new _ _ _ _ _)
  have HV := Lib.hid (hv.lo LW.out)
  have C := Lib.hid (fun k w1 (l : Below W.heap.size W w1) (hk : k < p.ls.length) => l4Holds_any _ p k w1 (HV.out.lo l) hf hk)
  have h8 := hf.short
  have h1 := hf.one
  obtain ⟨L, hL⟩ : ∃ L, looseP p = L := ⟨_, rfl⟩
  have HL := Lib.hid (show looseF p p.ls.length = L from hL)
  rw [hL]
  clear hL hv hf HV
  obtain ⟨_, u0, u1, u2⟩ := BX.out
  go_enter Try.func113, Try.ntmps113
  go_wp2
  clear hW u0 u1 u2
  go_loopw [3] (fun x wr => ∃ (m : Nat) (z : Int), m ≤ p.ls.length ∧ x = .int .i64 z ∧ Hid (z = (m : Int) - 1) ∧ Hid (looseF p m = L) ∧ Hid (Below W.heap.size W wr)) (fun x _ => (intOf x + 1).toNat)
  case atStart => exact ⟨p.ls.length, (p.ls.length : Int) - 1, Nat.le_refl _, rfl, Lib.hid rfl, HL, Lib.hid (Below.refl _ _)⟩
  case round =>
    obtain ⟨m, z, hm, rfl, HZ, HM, HW⟩ := hrel
    clear HL
    cases m with
    | zero =>
      have hz : z = -1 := by have := HZ.out; omega
      have HE := Lib.hid (show L = 0 from HM.out.symm)
      clear HZ HM
      subst hz
      go_wp2
      go_ret
      exact ⟨by rw [HE.out]; rfl, LW.out.trans (HW.out.mono LW.out.size)⟩
    | succ k =>
      have hz : z = (k : Int) := by have := HZ.out; omega
      clear HZ
      subst hz
      have hk0 : (0 : Int) ≤ (k : Int) := by omega
      obtain ⟨_, x0, x1, x2⟩ := BX.out.lo HW.out
      have C1 := Lib.hid (C.out k wr HW.out (by omega))
      obtain ⟨r, hr⟩ : ∃ r, holdsB p k = r := ⟨_, rfl⟩
      rw [hr] at C1
      cases r with
      | true =>
        have HN := Lib.hid (show looseF p k = L by rw [← HM.out, loose_yes p k hr])
        clear hr HM
        go_wp2_with fail
        refine C1.out.mono ?_
        rintro e w2 ⟨rfl, l2⟩
        have HW2 := Lib.hid (lo_on HW.out l2)
        clear l2 C1 x0 x1 x2 HW
        go_wp2
        go_roundw
        case rel => exact ⟨k, (k : Int) - 1, by omega, rfl, Lib.hid rfl, HN, HW2⟩
        case measure => simp [intOf]
      | false =>
        have HE := Lib.hid (show (L : Int) - 1 = (k : Int) by rw [← HM.out, loose_no p k hr]; omega)
        clear hr HM
        go_wp2_with fail
        refine C1.out.mono ?_
        rintro e w2 ⟨rfl, l2⟩
        have HW2 := Lib.hid (lo_on HW.out l2)
        clear l2 C1 x0 x1 x2 HW
        go_wp2
        go_ret
        exact ⟨by rw [HE.out]; rfl, LW.out.trans (HW2.out.mono LW.out.size)⟩
theorem specFirm_any (v : Value) (p : PileV) (w : World) (hv : PileRow w v p) (hs : SmallP p) :
    Calls Try.prog 68 #[v] w fun e w' => e = .returned (.tuple #[.bool (firmB p), .bool (pileB p)]) ∧ Below w.heap.size w w' := by
  obtain ⟨a, b, c, d, rfl⟩ := hv.form
  obtain ⟨W, hW⟩ : ∃ W, w.alloc (.cells #[.int .i64 p.wd, .slice a p.ls.length c, .slice b p.ws.length d] 63) = W := ⟨_, rfl⟩
  have LW := Lib.hid (show Below w.heap.size w W by rw [← hW]; exact (Below.refl _ _).alloc (Nat.le_refl _) _)
  have BX := Lib.hid (show Box3 W w.heap.size (.int .i64 p.wd) (.slice a p.ls.length c) (.slice b p.ws.length d) by rw [← hW]; exact box3_new _ _ _ _ _)
  have HV := Lib.hid (hv.lo LW.out)
  have D := Lib.hid (l4Pile_any _ p W HV.out hs)
  have HE := Lib.hid (show firmB p = (pileB p && decide ((looseP p : Int) - 1 < 0)) by unfold firmB; congr 1; exact decide_eq_decide.2 (by omega))
  have HC := Lib.hid (fun h w1 (l : Below W.heap.size W w1) => l4Loose_any _ p w1 (HV.out.lo l) ((pileB_iff p).1 h))
  obtain ⟨r, hr⟩ : ∃ r, firmB p = r := ⟨_, rfl⟩
  rw [hr] at HE ⊢
  generalize pileB p = q at *
  have hl := looseF_le p p.ls.length
  have h8 : looseP p ≤ 2000000 := Nat.le_trans hl hs.1
  generalize looseP p = L at *
  clear hv hs HV hr hl
  cases q with
  | false =>
    obtain ⟨_, u0, u1, u2⟩ := BX.out
    go_enter Try.func68, Try.ntmps68
    go_wp2_with fail
    clear hW u0 u1 u2
    refine D.out.mono ?_
    rintro e w1 ⟨rfl, l1⟩
    have L1 := Lib.hid (lo_on LW.out l1)
    clear l1 D
    go_wp2
    go_ret2
    exact ⟨by rw [HE.out]; rfl, L1.out⟩
  | true =>
    have HC2 := Lib.hid (HC.out rfl)
    clear HC
    obtain ⟨_, u0, u1, u2⟩ := BX.out
    go_enter Try.func68, Try.ntmps68
    go_wp2_with fail
    clear hW u0 u1 u2
    refine D.out.mono ?_
    rintro e w1 ⟨rfl, l1⟩
    obtain ⟨_, x0, x1, x2⟩ := BX.out.lo l1
    have C1 := Lib.hid (HC2.out w1 l1)
    have L1 := Lib.hid (lo_on LW.out l1)
    clear l1 D HC2
    go_wp2_with fail
    refine C1.out.mono ?_
    rintro e w2 ⟨rfl, l2⟩
    have L2 := Lib.hid (lo_on L1.out l2)
    clear l2 C1 x0 x1 x2
    go_wp2
    go_ret2
    exact ⟨by rw [HE.out]; rfl, L2.out⟩
theorem specLoose_any (v : Value) (p : PileV) (w : World) (hv : PileRow w v p) (hs : SmallP p) :
    Calls Try.prog 70 #[v] w fun e w' => e = .returned (.tuple #[.int .i64 (hlV p), .bool (hlB p)]) ∧ Below w.heap.size w w' := by
  obtain ⟨a, b, c, d, rfl⟩ := hv.form
  obtain ⟨W, hW⟩ : ∃ W, w.alloc (.cells #[.int .i64 p.wd, .slice a p.ls.length c, .slice b p.ws.length d] 63) = W := ⟨_, rfl⟩
  have LW := Lib.hid (show Below w.heap.size w W by rw [← hW]; exact (Below.refl _ _).alloc (Nat.le_refl _) _)
  have BX := Lib.hid (show Box3 W w.heap.size (.int .i64 p.wd) (.slice a p.ls.length c) (.slice b p.ws.length d) by rw [← hW]; exact box3_new _ _ _ _ _)
  have HV := Lib.hid (hv.lo LW.out)
  have D := Lib.hid (l4Pile_any _ p W HV.out hs)
  have HE0 := show hlB p = (pileB p && decide (0 < looseP p)) from rfl
  have HF0 := show hlV p = if hlB p = true then (looseP p : Int) - 1 else 0 from rfl
  have HC := Lib.hid (fun h w1 (l : Below W.heap.size W w1) => l4Loose_any _ p w1 (HV.out.lo l) ((pileB_iff p).1 h))
  obtain ⟨r, hr⟩ : ∃ r, hlB p = r := ⟨_, rfl⟩
  obtain ⟨s, hsv⟩ : ∃ r, hlV p = r := ⟨_, rfl⟩
  rw [hr] at HE0 HF0 ⊢
  rw [hsv] at HF0 ⊢
  generalize pileB p = q at *
  have hl := looseF_le p p.ls.length
  have h8 : looseP p ≤ 2000000 := Nat.le_trans hl hs.1
  generalize looseP p = L at *
  have HE := Lib.hid HE0
  have HF := Lib.hid HF0
  clear HE0 HF0
  clear hv hs HV hr hl hsv
  cases q with
  | false =>
    obtain rfl : r = false := by rw [HE.out]; rfl
    obtain rfl : s = 0 := by rw [HF.out]; rfl
    clear HF HE
    obtain ⟨_, u0, u1, u2⟩ := BX.out
    go_enter Try.func70, Try.ntmps70
    go_wp2_with fail
    clear hW u0 u1 u2
    refine D.out.mono ?_
    rintro e w1 ⟨rfl, l1⟩
    have L1 := Lib.hid (lo_on LW.out l1)
    clear l1 D
    go_wp2
    go_ret2
    exact ⟨rfl, L1.out⟩
  | true =>
    have HC2 := Lib.hid (HC.out rfl)
    clear HC
    by_cases h0 : 0 < L
    · obtain rfl : r = true := by rw [HE.out, decide_eq_true h0]; rfl
      have HF := Lib.hid (show s = (L : Int) - 1 by rw [HF.out]; rfl)
      have hn : ¬ (L : Int) - 1 < 0 := by omega
      obtain ⟨_, u0, u1, u2⟩ := BX.out
      go_enter Try.func70, Try.ntmps70
      go_wp2_with fail
      clear hW u0 u1 u2
      refine D.out.mono ?_
      rintro e w1 ⟨rfl, l1⟩
      obtain ⟨_, x0, x1, x2⟩ := BX.out.lo l1
      have C1 := Lib.hid (HC2.out w1 l1)
      have L1 := Lib.hid (lo_on LW.out l1)
      go_wp2_with fail
      refine C1.out.mono ?_
      rintro e w2 ⟨rfl, l2⟩
      have L2 := Lib.hid (lo_on L1.out l2)
      obtain ⟨_, y0, y1, y2⟩ := (BX.out.lo l1).lo l2
      have C2 := Lib.hid (HC2.out w2 (lo_on l1 l2))
      clear l2 l1 C1 x0 x1 x2
      go_wp2_with fail
      refine C2.out.mono ?_
      rintro e w3 ⟨rfl, l3⟩
      have L3 := Lib.hid (lo_on L2.out l3)
      clear l3 C2 y0 y1 y2
      go_wp2
      go_ret2
      exact ⟨by rw [HF.out]; rfl, L3.out⟩
    · obtain rfl : r = false := by rw [HE.out, decide_eq_false h0]; rfl
      obtain rfl : s = 0 := by rw [HF.out]; rfl
      have hn : (L : Int) - 1 < 0 := by omega
      clear HF HE
      obtain ⟨_, u0, u1, u2⟩ := BX.out
      go_enter Try.func70, Try.ntmps70
      go_wp2_with fail
      clear hW u0 u1 u2
      refine D.out.mono ?_
      rintro e w1 ⟨rfl, l1⟩
      obtain ⟨_, x0, x1, x2⟩ := BX.out.lo l1
      have C1 := Lib.hid (HC2.out w1 l1)
      have L1 := Lib.hid (lo_on LW.out l1)
      go_wp2_with fail
      refine C1.out.mono ?_
      rintro e w2 ⟨rfl, l2⟩
      have L2 := Lib.hid (lo_on L1.out l2)
      clear l2 l1 C1 x0 x1 x2
      go_wp2
      go_ret2
      exact ⟨rfl, L2.out⟩
theorem specHolds_any (v : Value) (p : PileV) (i : Int) (w : World) (hv : PileRow w v p) (hs : SmallP p) :
    Calls Try.prog 66 #[v, .int .i64 i] w fun e w' => e = .returned (.tuple #[.bool (holdB p i), .bool (brickB p i)]) ∧ Below w.heap.size w w' := by
  obtain ⟨a, b, c, d, rfl⟩ := hv.form
  obtain ⟨W, hW⟩ : ∃ W, w.alloc (.cells #[.int .i64 p.wd, .slice a p.ls.length c, .slice b p.ws.length d] 63) = W := ⟨_, rfl⟩
  have LW := Lib.hid (show Below w.heap.size w W by rw [← hW]; exact (Below.refl _ _).alloc (Nat.le_refl _) _)
  have BX := Lib.hid (show Box3 W w.heap.size (.int .i64 p.wd) (.slice a p.ls.length c) (.slice b p.ws.length d) by rw [← hW]; exact box3_new _ _ _ _ _)
  have HV := Lib.hid (hv.lo LW.out)
  have D := Lib.hid (l4Brick_any _ p i W HV.out hs)
  by_cases hb : brickB p i = true
  · obtain ⟨hf, k, rfl, hk⟩ := (brickB_iff p i).1 hb
    have C := Lib.hid (fun w1 (l : Below W.heap.size W w1) => l4Holds_any _ p k w1 (HV.out.lo l) hf hk)
    rw [holdB_at hf k hk]
    rw [hb] at D ⊢
    generalize holdsB p k = r at *
    clear hv hs HV hf hk hb
    obtain ⟨_, u0, u1, u2⟩ := BX.out
    go_enter Try.func66, Try.ntmps66
    go_wp2_with fail
    clear hW u0 u1 u2
    refine D.out.mono ?_
    rintro e w1 ⟨rfl, l1⟩
    obtain ⟨_, x0, x1, x2⟩ := BX.out.lo l1
    have C1 := Lib.hid (C.out w1 l1)
    have L1 := Lib.hid (lo_on LW.out l1)
    clear l1 D C
    go_wp2_with fail
    refine C1.out.mono ?_
    rintro e w2 ⟨rfl, l2⟩
    have L2 := Lib.hid (lo_on L1.out l2)
    clear l2 C1 x0 x1 x2
    go_wp2
    go_ret2
    exact ⟨rfl, L2.out⟩
  · have hb0 : brickB p i = false := by simpa using hb
    rw [show holdB p i = false by unfold holdB; rw [hb0]; rfl]
    rw [hb0] at D ⊢
    clear hv hs HV hb hb0
    obtain ⟨_, u0, u1, u2⟩ := BX.out
    go_enter Try.func66, Try.ntmps66
    go_wp2_with fail
    clear hW u0 u1 u2
    refine D.out.mono ?_
    rintro e w1 ⟨rfl, l1⟩
    have L1 := Lib.hid (lo_on LW.out l1)
    clear l1 D
    go_wp2
    go_ret2
    exact ⟨rfl, L1.out⟩
set_option maxRecDepth 100000 in
set_option maxHeartbeats 1600000 in
theorem holdsBrick_any (v : Value) (p : PileV) (i : Int) (w : World) (hv : PileRow w v p) (hc : PileCap v) (hs : SmallP p) :
    Calls Try.prog 67 #[v, .int .i64 i] w fun e w' => e = .returned (.tuple #[.bool (holdB p i), .bool (brickB p i)]) ∧ Below w.heap.size w w' := by
  obtain ⟨a, b, c, d, rfl⟩ := hv.form
  obtain ⟨W, hW⟩ : ∃ W, w.alloc (.cells #[.int .i64 p.wd, .slice a p.ls.length c, .slice b p.ws.length d] 63) = W := ⟨_, rfl⟩
  have LW := Lib.hid (show Below w.heap.size w W by rw [← hW]; exact (Below.refl _ _).alloc (Nat.le_refl _) _)
  have BX := Lib.hid (show Box3 W w.heap.size (.int .i64 p.wd) (.slice a p.ls.length c) (.slice b p.ws.length d) by rw [← hW]; exact box3_new _ _ _ _ _)
  have HV := Lib.hid (hv.lo LW.out)
  have H1 := Lib.hid (fun w1 (l : Below W.heap.size W w1) => holds_any _ p i w1 (HV.out.lo l) hc hs)
  have H2 := Lib.hid (fun w1 (l : Below W.heap.size W w1) => isBrick_any _ p i w1 (HV.out.lo l) hs)
  generalize holdB p i = r at *
  generalize brickB p i = q at *
  clear hv hs hc HV
  obtain ⟨bx, u0, u1, u2⟩ := BX.out
  go_enter Try.func67, Try.ntmps67
  go_wp2_with fail
  clear hW
  go_region_held3 (fun w' => w'.cell? ⟨w.heap.size, 0, none⟩ = some (.int .i64 p.wd) ∧ w'.cell? ⟨w.heap.size, 1, none⟩ = some (.slice a p.ls.length c) ∧ w'.cell? ⟨w.heap.size, 2, none⟩ = some (.slice b p.ws.length d))
    (first
      | exact ⟨(hl.cell (p := ⟨w.heap.size, 0, none⟩) bx).trans u0, (hl.cell (p := ⟨w.heap.size, 1, none⟩) bx).trans u1, (hl.cell (p := ⟨w.heap.size, 2, none⟩) bx).trans u2⟩
      | exact ⟨(hl6.cell (p := ⟨w.heap.size, 0, none⟩) (Nat.lt_of_lt_of_le bx hl.size)).trans ((hl.cell (p := ⟨w.heap.size, 0, none⟩) bx).trans u0), (hl6.cell (p := ⟨w.heap.size, 1, none⟩) (Nat.lt_of_lt_of_le bx hl.size)).trans ((hl.cell (p := ⟨w.heap.size, 1, none⟩) bx).trans u1), (hl6.cell (p := ⟨w.heap.size, 2, none⟩) (Nat.lt_of_lt_of_le bx hl.size)).trans ((hl.cell (p := ⟨w.heap.size, 2, none⟩) bx).trans u2)⟩
      | go_keep)
    (first
      | (go_at_call 111; refine (H1.out _ (drew_below W)).mono ?_; rintro e v5 ⟨rfl, hl⟩)
      | (go_at_call 107; refine (H2.out _ (lo_on (drew_below W) hl)).mono ?_; rintro e v6 ⟨rfl, hl6⟩))
  have LL := Lib.hid (lo_on LW.out (lo_on (lo_on (drew_below W) hl) hl6))
  go_wp2
  go_ret2
  exact ⟨rfl, LL.out⟩
set_option maxRecDepth 100000 in
set_option maxHeartbeats 1600000 in
theorem highestLoose_any (v : Value) (p : PileV) (w : World) (hv : PileRow w v p) (hc : PileCap v) (hs : SmallP p) :
    Calls Try.prog 71 #[v] w fun e w' => e = .returned (.tuple #[.int .i64 (hlV p), .bool (hlB p)]) ∧ Below w.heap.size w w' := by
  obtain ⟨a, b, c, d, rfl⟩ := hv.form
  obtain ⟨W, hW⟩ : ∃ W, w.alloc (.cells #[.int .i64 p.wd, .slice a p.ls.length c, .slice b p.ws.length d] 63) = W := ⟨_, rfl⟩
  have LW := Lib.hid (show Below w.heap.size w W by rw [← hW]; exact (Below.refl _ _).alloc (Nat.le_refl _) _)
  have BX := Lib.hid (show Box3 W w.heap.size (.int .i64 p.wd) (.slice a p.ls.length c) (.slice b p.ws.length d) by rw [← hW]; exact box3_new _ _ _ _ _)
  have HV := Lib.hid (hv.lo LW.out)
  have D := Lib.hid (isPile_any _ p W HV.out hs)
  have C := Lib.hid (fun k w1 (l : Below W.heap.size W w1) => holds_any _ p k w1 (HV.out.lo l) hc hs)
  by_cases hp : pileB p = true
  · have hf := (pileB_iff p).1 hp
    have h8 := hf.short
    have h1 := hf.one
    have HH := Lib.hid (fun k hk => holdB_at hf k hk)
    have HE := Lib.hid (fun (h : looseP p = 0) => show hlV p = 0 ∧ hlB p = false from by
      have e : hlB p = false := by unfold hlB; rw [h]; simp
      unfold hlV; rw [e]; exact ⟨rfl, rfl⟩)
    have HG := Lib.hid (fun k (h : looseP p = k + 1) => show hlV p = (k : Int) ∧ hlB p = true from by
      have e : hlB p = true := by unfold hlB; rw [hp, h]; simp
      unfold hlV; rw [e, h]; exact ⟨by simp, rfl⟩)
    rw [hp] at D
    generalize hlV p = sv at *
    generalize hlB p = sb at *
    obtain ⟨L, hL⟩ : ∃ L, looseP p = L := ⟨_, rfl⟩
    have HL := Lib.hid (show looseF p p.ls.length = L from hL)
    rw [hL] at HE HG
    clear hL hv hf HV hc hs hp
    obtain ⟨_, u0, u1, u2⟩ := BX.out
    go_enter Try.func71, Try.ntmps71
    go_wp2_with fail
    clear hW u0 u1 u2
    refine D.out.mono ?_
    rintro e w1 ⟨rfl, l1⟩
    obtain ⟨_, x0, x1, x2⟩ := BX.out.lo l1
    have L1 := Lib.hid l1
    clear l1 D
    go_wp2
    clear x0 x1 x2
    go_loopw [4] (fun x wr => ∃ (m : Nat) (z : Int), m ≤ p.ls.length ∧ x = .int .i64 z ∧ Hid (z = (m : Int) - 1) ∧ Hid (looseF p m = L) ∧ Hid (Below W.heap.size W wr)) (fun x _ => (intOf x + 1).toNat)
    case atStart => exact ⟨p.ls.length, (p.ls.length : Int) - 1, Nat.le_refl _, rfl, Lib.hid rfl, HL, L1⟩
    case round =>
      obtain ⟨m, z, hm, rfl, HZ, HM, HW⟩ := hrel
      clear HL
      cases m with
      | zero =>
        have hz : z = -1 := by have := HZ.out; omega
        have HE := Lib.hid (HE.out HM.out.symm)
        clear HZ HM
        subst hz
        go_wp2
        go_ret2
        exact ⟨by rw [HE.out.1, HE.out.2]; rfl, LW.out.trans (HW.out.mono LW.out.size)⟩
      | succ k =>
        have hz : z = (k : Int) := by have := HZ.out; omega
        clear HZ
        subst hz
        have hk0 : (0 : Int) ≤ (k : Int) := by omega
        obtain ⟨_, x0, x1, x2⟩ := BX.out.lo HW.out
        have C1 := Lib.hid (C.out (k : Int) wr HW.out)
        rw [HH.out k (by omega)] at C1
        obtain ⟨r, hr⟩ : ∃ r, holdsB p k = r := ⟨_, rfl⟩
        rw [hr] at C1
        cases r with
        | true =>
          have HN := Lib.hid (show looseF p k = L by rw [← HM.out, loose_yes p k hr])
          clear hr HM
          go_wp2_with fail
          refine C1.out.mono ?_
          rintro e w2 ⟨rfl, l2⟩
          have HW2 := Lib.hid (lo_on HW.out l2)
          clear l2 C1 x0 x1 x2 HW
          go_wp2
          go_roundw
          case rel => exact ⟨k, (k : Int) - 1, by omega, rfl, Lib.hid rfl, HN, HW2⟩
          case measure => simp [intOf]
        | false =>
          have HE := Lib.hid (HG.out k (by rw [← HM.out, loose_no p k hr]))
          clear hr HM
          go_wp2_with fail
          refine C1.out.mono ?_
          rintro e w2 ⟨rfl, l2⟩
          have HW2 := Lib.hid (lo_on HW.out l2)
          clear l2 C1 x0 x1 x2 HW
          go_wp2
          go_ret2
          exact ⟨by rw [HE.out.1, HE.out.2]; rfl, LW.out.trans (HW2.out.mono LW.out.size)⟩
  · have hb0 : pileB p = false := by simpa using hp
    have e : hlB p = false := by unfold hlB; rw [hb0]; rfl
    rw [show hlV p = 0 by unfold hlV; rw [e]; rfl, e]
    rw [hb0] at D
    clear hv hc hs HV hp hb0 e
    obtain ⟨_, u0, u1, u2⟩ := BX.out
    go_enter Try.func71, Try.ntmps71
    go_wp2_with fail
    clear hW u0 u1 u2
    refine D.out.mono ?_
    rintro e w1 ⟨rfl, l1⟩
    have L1 := Lib.hid (lo_on LW.out l1)
    clear l1 D
    go_wp2
    go_ret2
    exact ⟨rfl, L1.out⟩
set_option maxRecDepth 100000 in
set_option maxHeartbeats 1600000 in
theorem standsFirm_any (v : Value) (p : PileV) (w : World) (hv : PileRow w v p) (hc : PileCap v) (hs : SmallP p) :
    Calls Try.prog 69 #[v] w fun e w' => e = .returned (.tuple #[.bool (firmB p), .bool (pileB p)]) ∧ Below w.heap.size w w' := by
  obtain ⟨a, b, c, d, rfl⟩ := hv.form
  obtain ⟨W, hW⟩ : ∃ W, w.alloc (.cells #[.int .i64 p.wd, .slice a p.ls.length c, .slice b p.ws.length d] 63) = W := ⟨_, rfl⟩
  have LW := Lib.hid (show Below w.heap.size w W by rw [← hW]; exact (Below.refl _ _).alloc (Nat.le_refl _) _)
  have BX := Lib.hid (show Box3 W w.heap.size (.int .i64 p.wd) (.slice a p.ls.length c) (.slice b p.ws.length d) by rw [← hW]; exact box3_new _ _ _ _ _)
  have HV := Lib.hid (hv.lo LW.out)
  have D := Lib.hid (fun w1 (l : Below W.heap.size W w1) => isPile_any _ p w1 (HV.out.lo l) hs)
  have C := Lib.hid (highestLoose_any _ p W HV.out hc hs)
  have HE0 := show firmB p = (pileB p && !hlB p) from by
    unfold firmB hlB
    cases pileB p
    · rfl
    · rw [Bool.true_and, Bool.true_and]
      by_cases h : looseP p = 0
      · rw [h]; rfl
      · have h1 : 0 < looseP p := by omega
        simp [h, h1]
  obtain ⟨r, hr⟩ : ∃ r, firmB p = r := ⟨_, rfl⟩
  rw [hr] at HE0 ⊢
  generalize pileB p = q at *
  generalize hlB p = s at *
  generalize hlV p = t at *
  have HE := Lib.hid HE0
  clear HE0
  clear hv hc hs HV hr
  obtain ⟨_, u0, u1, u2⟩ := BX.out
  go_enter Try.func69, Try.ntmps69
  go_wp2_with fail
  clear hW u0 u1 u2
  refine C.out.mono ?_
  rintro e w1 ⟨rfl, l1⟩
  obtain ⟨_, x0, x1, x2⟩ := BX.out.lo l1
  have D1 := Lib.hid (D.out w1 l1)
  have L1 := Lib.hid (lo_on LW.out l1)
  clear l1 C D
  go_wp2_with fail
  refine D1.out.mono ?_
  rintro e w2 ⟨rfl, l2⟩
  have L2 := Lib.hid (lo_on L1.out l2)
  clear l2 D1 x0 x1 x2
  cases q <;> cases s
  all_goals go_wp2
  all_goals go_ret2
  all_goals exact ⟨by rw [HE.out]; rfl, L2.out⟩
end Go.Proofs.Ythihamjgfemacaa
