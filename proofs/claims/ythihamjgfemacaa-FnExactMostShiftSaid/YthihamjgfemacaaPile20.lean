/- The greatest shift: the model's. -/
import Derived.Test.YthihamjgfemacaaPile19
import Derived.Test.YthihamjgfemacaaPile11
namespace Go.Proofs.Ythihamjgfemacaa
open Go.RowKit
theorem pileB_nil : pileB nilP = false := by
  cases h : pileB nilP with
  | false => rfl
  | true => exact absurd ((pileB_iff _).1 h).one (by simp [nilP])
theorem firmB_nil : firmB nilP = false := by unfold firmB; rw [pileB_nil]; rfl
theorem firm_kept (q : PileV) : firmB (keptP true q) = firmB q := by
  unfold keptP
  cases h : pileB q with
  | true => rfl
  | false => show firmB nilP = firmB q; rw [firmB_nil]; unfold firmB; rw [h]; rfl
theorem shG_in {p : PileV} (hb : pileB p = true) (x : Int) (h0 : -99 ≤ x) (h1 : x ≤ 99) : shG p x = firmB (movedP p x) := by
  unfold shG shiftB
  rw [hb, decide_eq_true h0, decide_eq_true h1]
  exact firm_kept _
theorem shG_no {p : PileV} (hb : pileB p = false) (x : Int) : shG p x = false := by
  unfold shG
  rw [hb, Bool.false_and, kept_no false _ rfl, firmB_nil]
set_option maxRecDepth 100000 in
set_option maxHeartbeats 1600000 in
theorem specMost_yes (v : Value) (p : PileV) (w : World) (hv : PileRow w v p) (hf : PileF p) :
    Calls Try.prog 72 #[v] w fun e w' => e = .returned (.tuple #[.int .i64 (spanS (shG p) 199).2.1, .bool (spanS (shG p) 199).2.2]) ∧ Below w.heap.size w w' := by
  have hb : pileB p = true := (pileB_iff p).2 hf
  obtain ⟨a, b, c, d, rfl⟩ := hv.form
  obtain ⟨W, hW⟩ : ∃ W, w.alloc (.cells #[.int .i64 p.wd, .slice a p.ls.length c, .slice b p.ws.length d] 63) = W := ⟨_, rfl⟩
  have LW := Lib.hid (show Below w.heap.size w W by rw [← hW]; exact (Below.refl _ _).alloc (Nat.le_refl _) _)
  have BX := Lib.hid (show Box3 W w.heap.size (.int .i64 p.wd) (.slice a p.ls.length c) (.slice b p.ws.length d) by rw [← hW]; exact box3_new _ _ _ _ _)
  have HV := Lib.hid (hv.lo LW.out)
  have D := Lib.hid (l4Pile_any _ p W HV.out hf.small)
  rw [hb] at D
  have MV := Lib.hid (fun (x : Int) w1 (h0 : -99 ≤ x) (h1 : x ≤ 99) (l : Below W.heap.size W w1) => l4Moved_any _ p x w1 (HV.out.lo l) hf h0 h1)
  have HSM := Lib.hid (fun x => show SmallP (movedP p x) from ⟨by show (p.ls.map _).length ≤ _; rw [List.length_map]; exact hf.small.1, hf.small.2⟩)
  have HG := Lib.hid (fun x h0 h1 => shG_in hb x h0 h1)
  obtain ⟨G, hG⟩ : ∃ G, shG p = G := ⟨_, rfl⟩
  rw [hG] at HG ⊢
  obtain ⟨s, hs⟩ : ∃ s, spanS G 199 = s := ⟨_, rfl⟩
  rw [hs]
  have HSS := Lib.hid hs
  clear hv hf hb hG hs HV
  obtain ⟨bx, u0, u1, u2⟩ := BX.out
  go_enter Try.func72, Try.ntmps72
  go_wp2_with fail
  clear hW u0 u1 u2
  refine D.out.mono ?_
  rintro e w1 ⟨rfl, l1⟩
  have L1 := Lib.hid l1
  clear l1 D
  go_wp2
  go_loopw [4] (fun x wr => ∃ j : Nat, j ≤ 199 ∧ x = .int .i64 ((j : Int) - 100) ∧ Hid (spanS G j = s) ∧ Hid (Below W.heap.size W wr)) (fun x _ => (intOf x + 100).toNat)
  case atStart => exact ⟨199, Nat.le_refl _, rfl, HSS, L1⟩
  case round =>
    obtain ⟨j, hj, rfl, HJ, HW⟩ := hrel
    obtain ⟨_, x0, x1, x2⟩ := BX.out.lo HW.out
    cases j with
    | zero =>
      have HJ0 := Lib.hid (show (0, 0, false) = s from HJ.out)
      have L0 := Lib.hid (LW.out.trans (HW.out.mono LW.out.size))
      clear HSS HJ MV HG
      go_wp2
      go_ret2
      exact ⟨by rw [← HJ0.out]; rfl, L0.out⟩
    | succ m =>
      have hx0 : -99 ≤ (((m + 1 : Nat) : Int) - 100) := by omega
      have hx1 : (((m + 1 : Nat) : Int) - 100) ≤ 99 := by omega
      have he : ((m : Int) - 99) = ((m + 1 : Nat) : Int) - 100 := by omega
      have SY := Lib.hid (spanS_yes G m)
      have SN := Lib.hid (spanS_no G m)
      rw [he] at SY SN
      have M := Lib.hid (MV.out _ wr hx0 hx1 HW.out)
      have G1 := Lib.hid (HG.out _ hx0 hx1)
      have S1 := Lib.hid (HSM.out (((m + 1 : Nat) : Int) - 100))
      obtain ⟨x, hx⟩ : ∃ x : Int, ((m + 1 : Nat) : Int) - 100 = x := ⟨_, rfl⟩
      rw [hx] at SY SN M G1 S1 hx0 hx1 ⊢
      have HX := Lib.hid hx
      have HWR := Lib.hid (show RowKit.wrap64 (x - 1) = x - 1 from Go.IntWalk.wrap64_in (x - 1) (by omega))
      have L0 := Lib.hid (LW.out.trans (HW.out.mono LW.out.size))
      obtain ⟨q, hq⟩ : ∃ q, movedP p x = q := ⟨_, rfl⟩
      rw [hq] at M G1 S1
      clear hx hq he MV HG HSM HSS
      go_wp2_with fail
      refine M.out.mono ?_
      rintro e w2 ⟨u, rfl, hu, l2⟩
      obtain ⟨ka, kb, kc, kd, rfl⟩ := hu.row.form
      have HU := Lib.hid hu
      have L2 := Lib.hid (lo_on HW.out l2)
      clear hu l2 M x0 x1 x2
      obtain ⟨W3, hW3⟩ : ∃ W, w2.alloc (.cells #[.int .i64 q.wd, .slice ka q.ls.length kc, .slice kb q.ws.length kd] 63) = W := ⟨_, rfl⟩
      have l3 : Below w2.heap.size w2 W3 := by rw [← hW3]; exact (Below.refl _ _).alloc (Nat.le_refl _) _
      have BZ := Lib.hid (show Box3 W3 w2.heap.size (.int .i64 q.wd) (.slice ka q.ls.length kc) (.slice kb q.ws.length kd) by rw [← hW3]; exact box3_new _ _ _ _ _)
      have HU3 := Lib.hid (HU.out.lo l3).row
      have DQ := Lib.hid (l4Pile_any _ q W3 HU3.out S1.out)
      have L3 := Lib.hid (lo_on L2.out l3)
      clear l3 HU
      obtain ⟨_, u0, u1, u2⟩ := BZ.out
      cases hpq : pileB q with
      | false =>
        have GF := Lib.hid (show G x = false by rw [G1.out]; unfold firmB; rw [hpq]; rfl)
        have HN := Lib.hid (show spanS G m = s by rw [← SN.out GF.out]; exact HJ.out)
        rw [hpq] at DQ
        clear SY SN GF G1 HJ hpq
        go_wp2_with fail
        clear hW3 u0 u1 u2
        refine DQ.out.mono ?_
        rintro e w5 ⟨rfl, l5⟩
        have L5 := Lib.hid (lo_on L3.out l5)
        clear l5 DQ
        go_wp2
        go_roundw
        case rel => exact ⟨m, by omega, by exact congrArg (Value.int .i64) (by have := HX.out; omega), HN, L5⟩
        case measure => have := HX.out; simp only [intOf]; omega
      | true =>
        have LQ := Lib.hid (fun w5 (l : Below W3.heap.size W3 w5) => l4Loose_any _ q w5 (HU3.out.lo l) ((pileB_iff q).1 hpq))
        rw [hpq] at DQ
        by_cases hl : looseP q = 0
        · have GF := Lib.hid (show G x = true by rw [G1.out]; unfold firmB; rw [hpq, hl]; rfl)
          have HN := Lib.hid (show s = (if (spanS G m).2.2 = true then (spanS G m).1 else x, x, true) by rw [← SY.out GF.out]; exact HJ.out.symm)
          rw [hl] at LQ
          clear SY SN GF G1 HJ hpq hl
          go_wp2_with fail
          clear hW3 u0 u1 u2
          refine DQ.out.mono ?_
          rintro e w5 ⟨rfl, l5⟩
          obtain ⟨_, y0, y1, y2⟩ := BZ.out.lo l5
          have LQ5 := Lib.hid (LQ.out w5 l5)
          have L5 := Lib.hid (lo_on L3.out l5)
          clear l5 DQ LQ
          go_wp2_with fail
          refine LQ5.out.mono ?_
          rintro e w6 ⟨rfl, l6⟩
          have L6 := Lib.hid (lo_on LW.out (lo_on L5.out l6))
          clear l6 LQ5 y0 y1 y2
          go_wp2
          go_ret2
          exact ⟨by rw [HN.out]; first | done | rfl, L6.out⟩
        · have GF := Lib.hid (show G x = false by rw [G1.out]; unfold firmB; rw [hpq, decide_eq_false hl]; rfl)
          have HN := Lib.hid (show spanS G m = s by rw [← SN.out GF.out]; exact HJ.out)
          obtain ⟨t, ht⟩ : ∃ t, looseP q = t := ⟨_, rfl⟩
          rw [ht] at LQ hl
          have hge : ¬ ((t : Int) - 1 < 0) := by omega
          clear SY SN GF G1 HJ hpq ht
          go_wp2_with fail
          clear hW3 u0 u1 u2
          refine DQ.out.mono ?_
          rintro e w5 ⟨rfl, l5⟩
          obtain ⟨_, y0, y1, y2⟩ := BZ.out.lo l5
          have LQ5 := Lib.hid (LQ.out w5 l5)
          have L5 := Lib.hid (lo_on L3.out l5)
          clear l5 DQ LQ
          go_wp2_with fail
          refine LQ5.out.mono ?_
          rintro e w6 ⟨rfl, l6⟩
          have L6 := Lib.hid (lo_on L5.out l6)
          clear l6 LQ5 y0 y1 y2
          go_wp2
          go_roundw
          case rel => exact ⟨m, by omega, by exact congrArg (Value.int .i64) (by have := HX.out; omega), HN, L6⟩
          case measure => have := HX.out; simp only [intOf]; omega
set_option maxRecDepth 100000 in
set_option maxHeartbeats 800000 in
theorem specMost_any (v : Value) (p : PileV) (w : World) (hv : PileRow w v p) (hs : SmallP p) :
    Calls Try.prog 72 #[v] w fun e w' => e = .returned (.tuple #[.int .i64 (spanS (shG p) 199).2.1, .bool (spanS (shG p) 199).2.2]) ∧ Below w.heap.size w w' := by
  cases hp : pileB p with
  | true => exact specMost_yes v p w hv ((pileB_iff p).1 hp)
  | false =>
    rw [spanS_none (shG p) (fun k => shG_no hp _)]
    obtain ⟨a, b, c, d, rfl⟩ := hv.form
    obtain ⟨W, hW⟩ : ∃ W, w.alloc (.cells #[.int .i64 p.wd, .slice a p.ls.length c, .slice b p.ws.length d] 63) = W := ⟨_, rfl⟩
    have LW := Lib.hid (show Below w.heap.size w W by rw [← hW]; exact (Below.refl _ _).alloc (Nat.le_refl _) _)
    have BX := Lib.hid (show Box3 W w.heap.size (.int .i64 p.wd) (.slice a p.ls.length c) (.slice b p.ws.length d) by rw [← hW]; exact box3_new _ _ _ _ _)
    have D := Lib.hid (l4Pile_any _ p W (hv.lo LW.out) hs)
    rw [hp] at D
    clear hv hs hp
    obtain ⟨_, u0, u1, u2⟩ := BX.out
    go_enter Try.func72, Try.ntmps72
    go_wp2_with fail
    clear hW u0 u1 u2
    refine D.out.mono ?_
    rintro e w1 ⟨rfl, l1⟩
    have L1 := Lib.hid (lo_on LW.out l1)
    clear l1 D
    go_wp2
    go_ret2
    exact ⟨rfl, L1.out⟩
end Go.Proofs.Ythihamjgfemacaa
