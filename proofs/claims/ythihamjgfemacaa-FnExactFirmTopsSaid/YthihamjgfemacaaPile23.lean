/- A pile with one more brick, and the places of a further brick: the model's. -/
import Derived.Test.YthihamjgfemacaaTop1
import Derived.Test.YthihamjgfemacaaPile20
import Derived.Test.YthihamjgfemacaaPile22
namespace Go.Proofs.Ythihamjgfemacaa
open Go.RowKit
theorem tpG_in {p : PileV} (hb : pileB p = true) (z x : Int) : tpG p z x = firmB (topP p x z) := by
  unfold tpG
  rw [hb]
  exact firm_kept _
theorem top_small {p : PileV} (hf : PileF p) (x z : Int) : SmallP (topP p x z) := ⟨by show (p.ls ++ _).length ≤ _; rw [List.length_append]; have := hf.short; simp; omega, by show (p.ws ++ _).length ≤ _; rw [List.length_append, hf.same]; have := hf.short; simp; omega⟩
set_option maxRecDepth 100000 in
set_option maxHeartbeats 3200000 in
theorem specTops_yes (v : Value) (p : PileV) (z : Int) (w : World) (hv : PileRow w v p) (hf : PileF p) (hl0 : looseP p = 0) :
    Calls Try.prog 74 #[v, .int .i64 z] w fun e w' => e = .returned (.tuple #[.int .i64 (spanS (tpG p z) 199).1, .int .i64 (spanS (tpG p z) 199).2.1, .bool (spanS (tpG p z) 199).2.2]) ∧ Below w.heap.size w w' := by
  have hb : pileB p = true := (pileB_iff p).2 hf
  obtain ⟨a, b, c, d, rfl⟩ := hv.form
  obtain ⟨W, hW⟩ : ∃ W, w.alloc (.cells #[.int .i64 p.wd, .slice a p.ls.length c, .slice b p.ws.length d] 63) = W := ⟨_, rfl⟩
  have LW := Lib.hid (show Below w.heap.size w W by rw [← hW]; exact (Below.refl _ _).alloc (Nat.le_refl _) _)
  have BX := Lib.hid (show Box3 W w.heap.size (.int .i64 p.wd) (.slice a p.ls.length c) (.slice b p.ws.length d) by rw [← hW]; exact box3_new _ _ _ _ _)
  have HV := Lib.hid (hv.lo LW.out)
  have D := Lib.hid (l4Pile_any _ p W HV.out hf.small)
  rw [hb] at D
  have LO := Lib.hid (fun w5 (l : Below W.heap.size W w5) => l4Loose_any _ p w5 (HV.out.lo l) hf)
  rw [hl0] at LO
  have MV := Lib.hid (fun (x : Int) w1 (l : Below W.heap.size W w1) => l4Topped_any _ p x z w1 (HV.out.lo l) hf)
  have HSM := Lib.hid (fun x => top_small hf x z)
  have HG := Lib.hid (fun x => tpG_in hb z x)
  obtain ⟨G, hG⟩ : ∃ G, tpG p z = G := ⟨_, rfl⟩
  rw [hG] at HG ⊢
  clear hv hf hb hG HV hl0
  obtain ⟨bx, u0, u1, u2⟩ := BX.out
  go_enter Try.func74, Try.ntmps74
  go_wp2_with fail
  clear hW u0 u1 u2
  refine D.out.mono ?_
  rintro e w1 ⟨rfl, l1⟩
  have LO1 := Lib.hid (LO.out w1 l1)
  have L1 := Lib.hid l1
  obtain ⟨_, u0, u1, u2⟩ := BX.out.lo l1
  clear l1 D LO
  go_wp2_with fail
  refine LO1.out.mono ?_
  rintro e w2 ⟨rfl, l2⟩
  have L2 := Lib.hid (lo_on L1.out l2)
  clear l2 LO1 L1 u0 u1 u2
  go_wp2
  go_loopw [7, 8, 9, 10] (fun u v q x wr => ∃ k : Nat, k ≤ 199 ∧ x = .int .i64 ((k : Int) - 99) ∧ u = .int .i64 (spanS G k).1 ∧ v = .int .i64 (spanS G k).2.1 ∧ q = .bool (spanS G k).2.2 ∧ Hid (Below W.heap.size W wr)) (fun _ _ _ x _ => (100 - intOf x).toNat)
  case atStart => exact ⟨0, Nat.zero_le _, rfl, rfl, rfl, rfl, L2⟩
  case round =>
    obtain ⟨k, hk, rfl, rfl, rfl, rfl, HW⟩ := hrel
    obtain ⟨_, x0, x1, x2⟩ := BX.out.lo HW.out
    by_cases hlt : k < 199
    · have hx0 : -99 ≤ (k : Int) - 99 := by omega
      have hx1 : (k : Int) - 99 ≤ 99 := by omega
      have SY := Lib.hid (spanS_yes G k)
      have SN := Lib.hid (spanS_no G k)
      have M := Lib.hid (MV.out ((k : Int) - 99) wr HW.out)
      have G1 := Lib.hid (HG.out ((k : Int) - 99))
      have S1 := Lib.hid (HSM.out ((k : Int) - 99))
      obtain ⟨x, hx⟩ : ∃ x : Int, (k : Int) - 99 = x := ⟨_, rfl⟩
      rw [hx] at SY SN M G1 S1 hx0 hx1 ⊢
      have HX := Lib.hid hx
      obtain ⟨q, hq⟩ : ∃ q, topP p x z = q := ⟨_, rfl⟩
      rw [hq] at M G1 S1
      generalize spanS G k = s at *
      obtain ⟨s1, s2, s3⟩ := s
      clear hx hq MV HG HSM
      go_wp2_with fail
      refine M.out.mono ?_
      rintro e w2 ⟨u, rfl, hu, l2⟩
      obtain ⟨ka, kb, kc, kd, rfl⟩ := hu.row.form
      have HU := Lib.hid hu.row
      have L3a := Lib.hid (lo_on HW.out l2)
      clear hu l2 M x0 x1 x2
      obtain ⟨W3, hW3⟩ : ∃ W, w2.alloc (.cells #[.int .i64 q.wd, .slice ka q.ls.length kc, .slice kb q.ws.length kd] 63) = W := ⟨_, rfl⟩
      have l3 : Below w2.heap.size w2 W3 := by rw [← hW3]; exact (Below.refl _ _).alloc (Nat.le_refl _) _
      have BZ := Lib.hid (show Box3 W3 w2.heap.size (.int .i64 q.wd) (.slice ka q.ls.length kc) (.slice kb q.ws.length kd) by rw [← hW3]; exact box3_new _ _ _ _ _)
      have HU3 := Lib.hid (HU.out.lo l3)
      have DQ := Lib.hid (l4Pile_any _ q W3 HU3.out S1.out)
      have L3 := Lib.hid (lo_on L3a.out l3)
      clear l3 HU
      obtain ⟨_, u0, u1, u2⟩ := BZ.out
      cases hpq : pileB q with
      | false =>
        have GF := Lib.hid (show G x = false by rw [G1.out]; unfold firmB; rw [hpq]; rfl)
        have HN := Lib.hid (SN.out GF.out)
        rw [hpq] at DQ
        clear SY SN GF G1 hpq
        go_wp2_with fail
        clear hW3 u0 u1 u2
        refine DQ.out.mono ?_
        rintro e w5 ⟨rfl, l5⟩
        have L5 := Lib.hid (lo_on L3.out l5)
        clear l5 DQ
        go_wp2
        go_roundw
        case rel => exact ⟨k + 1, by omega, by exact congrArg (Value.int .i64) (by have := HX.out; omega), by rw [HN.out], by rw [HN.out], by rw [HN.out], L5⟩
        case measure => have := HX.out; simp only [intOf]; omega
      | true =>
        have LQ := Lib.hid (fun w5 (l : Below W3.heap.size W3 w5) => l4Loose_any _ q w5 (HU3.out.lo l) ((pileB_iff q).1 hpq))
        rw [hpq] at DQ
        by_cases hl : looseP q = 0
        · have GF := Lib.hid (show G x = true by rw [G1.out]; unfold firmB; rw [hpq, hl]; rfl)
          have HN := Lib.hid (SY.out GF.out)
          rw [hl] at LQ
          clear SY SN GF G1 hpq hl
          go_wp2_with fail
          clear hW3 u0 u1 u2
          refine DQ.out.mono ?_
          rintro e w5 ⟨rfl, l5⟩
          obtain ⟨_, y0, y1, y2⟩ := BZ.out.lo l5
          have LQ5 := Lib.hid (LQ.out w5 l5)
          have L5 := Lib.hid (lo_on L3.out l5)
          clear l5 DQ LQ
          go_wp2_with fail
          refine LQ5.out.mono ?_
          rintro e w6 ⟨rfl, l6⟩
          have L6 := Lib.hid (lo_on L5.out l6)
          clear l6 LQ5 y0 y1 y2
          cases s3 with
          | false =>
            go_wp2
            go_roundw
            case rel => exact ⟨k + 1, by omega, by exact congrArg (Value.int .i64) (by have := HX.out; omega), by rw [HN.out]; rfl, by rw [HN.out], by rw [HN.out], L6⟩
            case measure => have := HX.out; simp only [intOf]; omega
          | true =>
            go_wp2
            go_roundw
            case rel => exact ⟨k + 1, by omega, by exact congrArg (Value.int .i64) (by have := HX.out; omega), by rw [HN.out]; rfl, by rw [HN.out], by rw [HN.out], L6⟩
            case measure => have := HX.out; simp only [intOf]; omega
        · have GF := Lib.hid (show G x = false by rw [G1.out]; unfold firmB; rw [hpq, decide_eq_false hl]; rfl)
          have HN := Lib.hid (SN.out GF.out)
          obtain ⟨t, ht⟩ : ∃ t, looseP q = t := ⟨_, rfl⟩
          rw [ht] at LQ hl
          have hge : ¬ ((t : Int) - 1 < 0) := by omega
          clear SY SN GF G1 hpq ht
          go_wp2_with fail
          clear hW3 u0 u1 u2
          refine DQ.out.mono ?_
          rintro e w5 ⟨rfl, l5⟩
          obtain ⟨_, y0, y1, y2⟩ := BZ.out.lo l5
          have LQ5 := Lib.hid (LQ.out w5 l5)
          have L5 := Lib.hid (lo_on L3.out l5)
          clear l5 DQ LQ
          go_wp2_with fail
          refine LQ5.out.mono ?_
          rintro e w6 ⟨rfl, l6⟩
          have L6 := Lib.hid (lo_on L5.out l6)
          clear l6 LQ5 y0 y1 y2
          go_wp2
          go_roundw
          case rel => exact ⟨k + 1, by omega, by exact congrArg (Value.int .i64) (by have := HX.out; omega), by rw [HN.out], by rw [HN.out], by rw [HN.out], L6⟩
          case measure => have := HX.out; simp only [intOf]; omega
    · obtain rfl : k = 199 := by omega
      clear MV HG HSM x0 x1 x2
      have L0 := Lib.hid (LW.out.trans (HW.out.mono LW.out.size))
      obtain ⟨s, hs⟩ : ∃ s, spanS G 199 = s := ⟨_, rfl⟩
      have HGS := Lib.hid hs
      rw [hs]
      clear hs
      go_wp2
      exact bodyPost_ret (v := .tuple #[.int .i64 s.1, .int .i64 s.2.1, .bool s.2.2]) (by simp [results, Try.results74, go_sem]) rfl ⟨by rw [HGS.out], L0.out⟩
set_option maxRecDepth 100000 in
set_option maxHeartbeats 1600000 in
theorem specTops_any (v : Value) (p : PileV) (z : Int) (w : World) (hv : PileRow w v p) (hs : SmallP p) :
    Calls Try.prog 74 #[v, .int .i64 z] w fun e w' => e = .returned (.tuple #[.int .i64 (ftV p z).1, .int .i64 (ftV p z).2.1, .bool (ftV p z).2.2]) ∧ Below w.heap.size w w' := by
  unfold ftV
  cases hp : pileB p with
  | true =>
    have hf := (pileB_iff p).1 hp
    by_cases hl : looseP p = 0
    · rw [if_pos (show firmB p = true by unfold firmB; rw [hp, hl]; rfl)]
      exact specTops_yes v p z w hv hf hl
    · rw [if_neg (show ¬ firmB p = true by unfold firmB; rw [hp, decide_eq_false hl]; simp)]
      obtain ⟨a, b, c, d, rfl⟩ := hv.form
      obtain ⟨W, hW⟩ : ∃ W, w.alloc (.cells #[.int .i64 p.wd, .slice a p.ls.length c, .slice b p.ws.length d] 63) = W := ⟨_, rfl⟩
      have LW := Lib.hid (show Below w.heap.size w W by rw [← hW]; exact (Below.refl _ _).alloc (Nat.le_refl _) _)
      have BX := Lib.hid (show Box3 W w.heap.size (.int .i64 p.wd) (.slice a p.ls.length c) (.slice b p.ws.length d) by rw [← hW]; exact box3_new _ _ _ _ _)
      have D := Lib.hid (l4Pile_any _ p W (hv.lo LW.out) hs)
      have LO := Lib.hid (fun w5 (l : Below W.heap.size W w5) => l4Loose_any _ p w5 ((hv.lo LW.out).lo l) hf)
      rw [hp] at D
      obtain ⟨t, ht⟩ : ∃ t, looseP p = t := ⟨_, rfl⟩
      rw [ht] at LO hl
      have hge : ¬ ((t : Int) - 1 < 0) := by omega
      have hge2 : (0 : Int) ≤ (t : Int) - 1 := by omega
      clear hv hs hp ht hf
      obtain ⟨_, u0, u1, u2⟩ := BX.out
      go_enter Try.func74, Try.ntmps74
      go_wp2_with fail
      clear hW u0 u1 u2
      refine D.out.mono ?_
      rintro e w1 ⟨rfl, l1⟩
      have L1 := Lib.hid (lo_on LW.out l1)
      have LO1 := Lib.hid (LO.out w1 l1)
      obtain ⟨_, u0, u1, u2⟩ := BX.out.lo l1
      clear l1 D LO
      go_wp2_with fail
      refine LO1.out.mono ?_
      rintro e w2 ⟨rfl, l2⟩
      have L2 := Lib.hid (lo_on L1.out l2)
      clear l2 LO1 u0 u1 u2
      go_wp2
      exact bodyPost_ret (v := .tuple #[.int .i64 0, .int .i64 0, .bool false]) (by simp [results, Try.results74, go_sem]) rfl ⟨rfl, L2.out⟩
  | false =>
    rw [if_neg (show ¬ firmB p = true by unfold firmB; rw [hp]; simp)]
    obtain ⟨a, b, c, d, rfl⟩ := hv.form
    obtain ⟨W, hW⟩ : ∃ W, w.alloc (.cells #[.int .i64 p.wd, .slice a p.ls.length c, .slice b p.ws.length d] 63) = W := ⟨_, rfl⟩
    have LW := Lib.hid (show Below w.heap.size w W by rw [← hW]; exact (Below.refl _ _).alloc (Nat.le_refl _) _)
    have BX := Lib.hid (show Box3 W w.heap.size (.int .i64 p.wd) (.slice a p.ls.length c) (.slice b p.ws.length d) by rw [← hW]; exact box3_new _ _ _ _ _)
    have D := Lib.hid (l4Pile_any _ p W (hv.lo LW.out) hs)
    rw [hp] at D
    clear hv hs hp
    obtain ⟨_, u0, u1, u2⟩ := BX.out
    go_enter Try.func74, Try.ntmps74
    go_wp2_with fail
    clear hW u0 u1 u2
    refine D.out.mono ?_
    rintro e w1 ⟨rfl, l1⟩
    have L1 := Lib.hid (lo_on LW.out l1)
    clear l1 D
    go_wp2
    exact bodyPost_ret (v := .tuple #[.int .i64 0, .int .i64 0, .bool false]) (by simp [results, Try.results74, go_sem]) rfl ⟨rfl, L1.out⟩
end Go.Proofs.Ythihamjgfemacaa
