/- The contracts of both functions WorstBend: the model's refusals and the program's side. -/
import Derived.Test.YthncgcdnljoakaaBi6
namespace Go.Proofs.Ythncgcdnljoakaa
open Go.RowKit
set_option maxHeartbeats 1600000 in
theorem specWb_no (p : BeamV) (v : Value) (cs : List (Int × Int)) (q : Int) (w : World) (hr : LoadRow w v cs) (hn : cs.length ≤ 2000000) (h : cvB p cs q = false) :
    Calls Try.prog 51 #[.agg #[.int .i64 p.l, .int .i64 p.a, .int .i64 p.b], v, .int .i64 q] w fun e w' => e = .returned (.tuple #[.int .i64 0, .int .i64 0, .bool false]) ∧ Below w.heap.size w w' := by
  have C := Lib.hid (fun w => l6Beam_any p w)
  have V := Lib.hid (fun w1 (l : Below w.heap.size w w1) => l6Convoy_any v cs w1 (hr.lo l) hn)
  have hq : beamB p = true → convB cs = true → (decide (0 ≤ q) && decide (q ≤ p.l)) = false := fun h1 h2 => by
    cases e : (decide (0 ≤ q) && decide (q ≤ p.l)) with
    | false => rfl
    | true =>
      have hq : 0 ≤ q ∧ q ≤ p.l := by simpa using e
      obtain ⟨b1, b2, b3, b4, b5⟩ := (beamB_iff p).1 h1
      have hh : cvB p cs q = true := (cvB_iff p cs q).2 ⟨(propB_iff _).1 h2, ⟨b1, b2, b3, b4, b5, hq.1, hq.2⟩⟩
      rw [h] at hh; cases hh
  have HQ := Lib.hid hq
  clear h hq hr
  generalize beamB p = b1 at *
  generalize convB cs = b2 at *
  obtain ⟨l, a, b⟩ := p
  simp only at C HQ ⊢
  obtain ⟨W, hW⟩ : ∃ W, w.alloc (.cells #[.int .i64 l, .int .i64 a, .int .i64 b] 25) = W := ⟨_, rfl⟩
  have LW := Lib.hid (show Below w.heap.size w W by rw [← hW]; exact below_new _ _)
  have BX := Lib.hid (show Cel3 W w.heap.size (.int .i64 l) (.int .i64 a) (.int .i64 b) by rw [← hW]; exact cel3_new _ _ _ _ _)
  obtain ⟨_, u0, u1, u2⟩ := BX.out
  cases b1 with
  | false =>
    go_enter Try.func51, Try.ntmps51
    go_wp2_with fail
    clear hW
    refine (C.out W).mono ?_
    rintro e w1 ⟨rfl, l1⟩
    go_wp2
    go_ret3
    exact ⟨rfl, lo_on LW.out l1⟩
  | true =>
    cases b2 with
    | false =>
      go_enter Try.func51, Try.ntmps51
      go_wp2_with fail
      clear hW
      refine (C.out W).mono ?_
      rintro e w1 ⟨rfl, l1⟩
      have L1 := Lib.hid (lo_on LW.out l1)
      clear l1 C u0 u1 u2
      go_wp2_with fail
      refine (V.out w1 L1.out).mono ?_
      rintro e w2 ⟨rfl, l2⟩
      go_wp2
      go_ret3
      exact ⟨rfl, lo_on L1.out l2⟩
    | true =>
      have IN := Lib.hid (fun w => l1In_is q 0 l false (HQ.out rfl rfl) w)
      go_enter Try.func51, Try.ntmps51
      go_wp2_with fail
      clear hW
      refine (C.out W).mono ?_
      rintro e w1 ⟨rfl, l1⟩
      have L1 := Lib.hid (lo_on LW.out l1)
      have B1 := Lib.hid (BX.out.lo l1)
      clear l1 C u0 u1 u2
      go_wp2_with fail
      refine (V.out w1 L1.out).mono ?_
      rintro e w2 ⟨rfl, l2⟩
      obtain ⟨_, x0, x1, x2⟩ := B1.out.lo l2
      have L2 := Lib.hid (lo_on L1.out l2)
      clear l2 V B1 L1
      go_wp2_with fail
      refine (IN.out _).mono ?_
      rintro e w' ⟨rfl, rfl⟩
      clear x0 x1 x2 IN
      go_wp2
      go_ret3
      exact ⟨rfl, L2.out⟩
theorem specWb_any (p : BeamV) (v : Value) (cs : List (Int × Int)) (q : Int) (w : World) (hr : LoadRow w v cs) (hn : cs.length ≤ 2000000) :
    Calls Try.prog 51 #[.agg #[.int .i64 p.l, .int .i64 p.a, .int .i64 p.b], v, .int .i64 q] w fun e w' => e = .returned (.tuple #[.int .i64 (wbR p cs q).1, .int .i64 (wbR p cs q).2, .bool (cvB p cs q)]) ∧ Below w.heap.size w w' := by
  unfold wbR
  cases h : cvB p cs q with
  | true =>
    obtain ⟨h1, h2⟩ := (cvB_iff p cs q).1 h
    have a1 := h2.l0; have a2 := h2.q0
    rw [if_pos rfl]
    exact specWb_yes p p.l.toNat q.toNat (by omega) v cs q (by omega) w hr h1 h2
  | false => exact specWb_no p v cs q w hr hn h
set_option maxHeartbeats 1600000 in
theorem wb_no (p : BeamV) (v : Value) (cs : List (Int × Int)) (q : Int) (w : World) (hr : LoadRow w v cs) (h : cvB p cs q = false) :
    Calls Try.prog 52 #[.agg #[.int .i64 p.l, .int .i64 p.a, .int .i64 p.b], v, .int .i64 q] w fun e w' => e = .returned (.tuple #[.int .i64 0, .int .i64 0, .bool false]) ∧ Below w.heap.size w w' := by
  have C := Lib.hid (fun w => (inf_any p q w).mono fun e w' ⟨u, h1, _, h3⟩ => (⟨u, h1, h3⟩ : ∃ u, e = Ending.returned (.tuple #[u, .bool (plB p q)]) ∧ Below w.heap.size w w'))
  have V := Lib.hid (fun w1 (l : Below w.heap.size w w1) => isConvoy_any v cs w1 (hr.lo l))
  unfold cvB at h
  generalize plB p q = b1 at *
  generalize convB cs = b2 at *
  clear hr
  obtain ⟨l, a, b⟩ := p
  simp only at C ⊢
  obtain ⟨W, hW⟩ : ∃ W, w.alloc (.cells #[.int .i64 l, .int .i64 a, .int .i64 b] 25) = W := ⟨_, rfl⟩
  have LW := Lib.hid (show Below w.heap.size w W by rw [← hW]; exact below_new _ _)
  have BX := Lib.hid (show Cel3 W w.heap.size (.int .i64 l) (.int .i64 a) (.int .i64 b) by rw [← hW]; exact cel3_new _ _ _ _ _)
  obtain ⟨_, u0, u1, u2⟩ := BX.out
  cases b1 with
  | false =>
    go_enter Try.func52, Try.ntmps52
    go_wp2_with fail
    clear hW
    refine (C.out W).mono ?_
    rintro e w1 ⟨u, rfl, l1⟩
    have L1 := Lib.hid (lo_on LW.out l1)
    clear l1 u0 u1 u2 C
    go_wp2
    go_ret3
    exact ⟨rfl, L1.out⟩
  | true =>
    rw [Bool.and_true] at h
    subst h
    go_enter Try.func52, Try.ntmps52
    go_wp2_with fail
    clear hW
    refine (C.out W).mono ?_
    rintro e w1 ⟨u, rfl, l1⟩
    have L1 := Lib.hid (lo_on LW.out l1)
    clear l1 u0 u1 u2 C
    go_wp2_with fail
    refine (V.out w1 L1.out).mono ?_
    rintro e w2 ⟨rfl, l2⟩
    go_wp2
    go_ret3
    exact ⟨rfl, lo_on L1.out l2⟩
set_option maxRecDepth 100000 in
set_option maxHeartbeats 6400000 in
theorem wb_yes (p : BeamV) (L : Nat) (hL : p.l = (L : Int)) (v : Value) (cs : List (Int × Int)) (q : Int) (w : World) (hr : LoadRow w v cs) (hf : ConvF cs) (hp : PlF p q) :
    Calls Try.prog 52 #[.agg #[.int .i64 p.l, .int .i64 p.a, .int .i64 p.b], v, .int .i64 q] w fun e w' => e = .returned (.tuple #[.int .i64 (wbF (wbN p cs q) (L + 1)).1, .int .i64 (wbF (wbN p cs q) (L + 1)).2, .bool true]) ∧ Below w.heap.size w w' := by
  have hl1 := hp.l1
  have hq1 := hp.q1
  have C := Lib.hid (fun w => (inf_yes p L hL q w hp).mono fun e w' ⟨u, h1, h2, h3⟩ => (⟨u, h1, h2.row, h3⟩ : ∃ u, e = Ending.returned (.tuple #[u, .bool true]) ∧ IntRow w' u (rowOf (fun x : Nat => inF p q (x : Int)) (L + 1)) ∧ Below w.heap.size w w'))
  have V := Lib.hid (fun w1 (l : Below w.heap.size w w1) => by have := isConvoy_any v cs w1 (hr.lo l); rw [show convB cs = true from propB_yes hf] at this; exact this)
  have A := Lib.hid (fun (x : Nat) (hx : (x : Int) ≤ p.l) w1 (l : Below w.heap.size w w1) => (cv_yes p v cs (x : Int) w1 (hr.lo l) hf ⟨hp.l0, hp.l1, hp.a0, hp.ab, hp.b1, by omega, hx⟩).mono fun e w' ⟨u, h1, h2, h3⟩ => (⟨u, h1, h2.row, h3⟩ : ∃ u, e = Ending.returned (.tuple #[u, .bool true]) ∧ LoadRow w' u (atC (x : Int) cs) ∧ Below w1.heap.size w1 w'))
  have D := Lib.hid (fun (x : Nat) (hx : (x : Int) ≤ p.l) u0 u w1 (hu0 : IntRow w1 u0 (rowOf (fun x : Nat => inF p q (x : Int)) (L + 1))) (hu : LoadRow w1 u (atC (x : Int) cs)) => show Calls Try.prog 96 #[u0, u] w1 fun e w' => e = .returned (.int .i64 (wbN p cs q x)) ∧ Below w1.heap.size w1 w' by
    have := byInf_any p L hL q u0 u (atC (x : Int) cs) w1 hu0 hu (atC_on (plF_beam hp) hf (x : Int) hx) (by omega)
    rw [← bd_sum] at this
    exact this)
  have HS := Lib.hid (fun k : Nat => show wbF (wbN p cs q) (k + 1) = if k = 0 ∨ (wbF (wbN p cs q) k).1 < wbN p cs q k then (wbN p cs q k, (k : Int)) else wbF (wbN p cs q) k from rfl)
  have H0 := Lib.hid (show wbF (wbN p cs q) 0 = (0, 0) from rfl)
  generalize wbF (wbN p cs q) = G at *
  generalize wbN p cs q = NN at *
  generalize rowOf (fun x : Nat => inF p q (x : Int)) (L + 1) = RI at *
  obtain ⟨AT, hAT⟩ : ∃ AT : Nat → List (Int × Int), AT = fun x : Nat => atC (x : Int) cs := ⟨_, rfl⟩
  have A2 := Lib.hid (fun (x : Nat) (hx : (x : Int) ≤ p.l) w1 (l : Below w.heap.size w w1) => show Calls Try.prog 49 #[.agg #[.int .i64 p.l, .int .i64 p.a, .int .i64 p.b], v, .int .i64 (x : Int)] w1 fun e w' => ∃ u, e = .returned (.tuple #[u, .bool true]) ∧ LoadRow w' u (AT x) ∧ Below w1.heap.size w1 w' by rw [hAT]; exact A.out x hx w1 l)
  have D2 := Lib.hid (fun (x : Nat) (hx : (x : Int) ≤ p.l) u0 u w1 (hu0 : IntRow w1 u0 RI) (hu : LoadRow w1 u (AT x)) => D.out x hx u0 u w1 hu0 (by rw [hAT] at hu; exact hu))
  clear A D hAT hr hf hp
  obtain ⟨l, a, b⟩ := p
  simp only at hL hl1 hq1 C A2 D2 ⊢
  subst hL
  obtain ⟨W, hW⟩ : ∃ W, w.alloc (.cells #[.int .i64 (L : Int), .int .i64 a, .int .i64 b] 25) = W := ⟨_, rfl⟩
  have LW := Lib.hid (show Below w.heap.size w W by rw [← hW]; exact below_new _ _)
  have BX := Lib.hid (show Cel3 W w.heap.size (.int .i64 (L : Int)) (.int .i64 a) (.int .i64 b) by rw [← hW]; exact cel3_new _ _ _ _ _)
  obtain ⟨_, u0, u1, u2⟩ := BX.out
  go_enter Try.func52, Try.ntmps52
  go_wp2_with fail
  clear hW
  refine (C.out W).mono ?_
  rintro e w1 ⟨ui, rfl, m1, l1⟩
  have L1 := Lib.hid (lo_on LW.out l1)
  have B1 := Lib.hid (BX.out.lo l1)
  have M1 := Lib.hid m1
  clear l1 C u0 u1 u2 BX m1
  go_wp2_with fail
  refine (V.out w1 L1.out).mono ?_
  rintro e w2 ⟨rfl, l2⟩
  have L2 := Lib.hid (lo_on L1.out l2)
  have B2 := Lib.hid (B1.out.lo l2)
  have M2 := Lib.hid (M1.out.lo l2)
  obtain ⟨_, x0, x1, x2⟩ := B2.out
  clear l2 V B1 L1 M1
  go_wp2
  clear x0 x1 x2
  go_loopw [11, 12, 33] (fun x y i wr => ∃ k : Nat, k ≤ L + 1 ∧ i = .int .i64 k ∧ x = .int .i64 (G k).1 ∧ y = .int .i64 (G k).2 ∧ Hid (Below w2.heap.size w2 wr)) (fun _ _ i _ => L + 1 - (intOf i).toNat)
  case atStart => exact ⟨0, Nat.zero_le _, rfl, by rw [H0.out], by rw [H0.out], Lib.hid (Below.refl _ _)⟩
  case round =>
    obtain ⟨k, hk, rfl, rfl, rfl, HL⟩ := hrel
    obtain ⟨hbx, x0, x1, x2⟩ := B2.out.lo HL.out
    by_cases hlt : k < L + 1
    · have hlt' : (k : Int) ≤ (L : Int) := by omega
      have hlt2 : (k : Int) < (L : Int) + 1 := by omega
      have HSk := Lib.hid (HS.out k)
      have AK := Lib.hid (A2.out k hlt' wr (lo_on L2.out HL.out))
      have DK := Lib.hid (D2.out k hlt')
      generalize AT k = rows at *
      generalize NN k = z at *
      have HGk := Lib.hid (show G k = ((G k).1, (G k).2) from rfl)
      obtain ⟨gx, hgx⟩ : ∃ x, (G k).1 = x := ⟨_, rfl⟩
      obtain ⟨gy, hgy⟩ : ∃ y, (G k).2 = y := ⟨_, rfl⟩
      rw [hgx] at HSk HGk ⊢
      rw [hgy] at HGk ⊢
      clear hgx hgy
      by_cases hk0 : k = 0
      · have HSy := Lib.hid (show G (k + 1) = (z, (k : Int)) by rw [HSk.out, if_pos (.inl hk0)])
        have HKB := Lib.hid (show ((k : Int) == 0) = true by simpa using hk0)
        clear HSk HGk hk0
        go_wp2_with fail
        refine AK.out.mono ?_
        rintro e w3 ⟨u, rfl, m3, l3⟩
        have L3 := Lib.hid (lo_on HL.out l3)
        have DD := Lib.hid (DK.out ui u w3 (M2.out.lo L3.out) m3)
        clear x0 x1 x2 l3 m3 AK
        go_wp2_with fail
        refine DD.out.mono ?_
        rintro e w4 ⟨rfl, l4⟩
        have L5 := Lib.hid (lo_on L3.out l4)
        clear l4 DD DK
        have hkb := HKB.out
        go_wp2
        go_roundw
        case rel => exact ⟨k + 1, by omega, by go_num, by rw [HSy.out], by rw [HSy.out], L5⟩
        case measure => simp [intOf]; omega
      · have hkb : ((k : Int) == 0) = false := by simpa using hk0
        by_cases hc : gx < z
        · have HSy := Lib.hid (show G (k + 1) = (z, (k : Int)) by rw [HSk.out, if_pos (.inr hc)])
          clear HSk HGk
          go_wp2_with fail
          refine AK.out.mono ?_
          rintro e w3 ⟨u, rfl, m3, l3⟩
          have L3 := Lib.hid (lo_on HL.out l3)
          have DD := Lib.hid (DK.out ui u w3 (M2.out.lo L3.out) m3)
          clear x0 x1 x2 l3 m3 AK
          go_wp2_with fail
          refine DD.out.mono ?_
          rintro e w4 ⟨rfl, l4⟩
          have L5 := Lib.hid (lo_on L3.out l4)
          clear l4 DD DK
          go_wp2
          go_roundw
          case rel => exact ⟨k + 1, by omega, by go_num, by rw [HSy.out], by rw [HSy.out], L5⟩
          case measure => simp [intOf]; omega
        · have HSy := Lib.hid (show G (k + 1) = (gx, gy) by rw [HSk.out, if_neg (fun h => h.elim hk0 hc), HGk.out])
          clear HSk HGk
          go_wp2_with fail
          refine AK.out.mono ?_
          rintro e w3 ⟨u, rfl, m3, l3⟩
          have L3 := Lib.hid (lo_on HL.out l3)
          have DD := Lib.hid (DK.out ui u w3 (M2.out.lo L3.out) m3)
          clear x0 x1 x2 l3 m3 AK
          go_wp2_with fail
          refine DD.out.mono ?_
          rintro e w4 ⟨rfl, l4⟩
          have L5 := Lib.hid (lo_on L3.out l4)
          clear l4 DD DK
          go_wp2
          go_roundw
          case rel => exact ⟨k + 1, by omega, by go_num, by rw [HSy.out], by rw [HSy.out], L5⟩
          case measure => simp [intOf]; omega
    · obtain rfl : k = L + 1 := by omega
      have hge : ¬ ((L : Int) + 1 < (L : Int) + 1) := by omega
      have hge2 : ¬ (((L + 1 : Nat) : Int) < (L : Int) + 1) := by omega
      go_wp2
      go_ret3
      exact ⟨rfl, lo_on L2.out HL.out⟩
theorem wb_any (p : BeamV) (v : Value) (cs : List (Int × Int)) (q : Int) (w : World) (hr : LoadRow w v cs) :
    Calls Try.prog 52 #[.agg #[.int .i64 p.l, .int .i64 p.a, .int .i64 p.b], v, .int .i64 q] w fun e w' => e = .returned (.tuple #[.int .i64 (wbR p cs q).1, .int .i64 (wbR p cs q).2, .bool (cvB p cs q)]) ∧ Below w.heap.size w w' := by
  unfold wbR
  cases h : cvB p cs q with
  | true =>
    obtain ⟨h1, h2⟩ := (cvB_iff p cs q).1 h
    have a1 := h2.l0
    rw [if_pos rfl]
    exact wb_yes p p.l.toNat (by omega) v cs q w hr h1 h2
  | false => exact wb_no p v cs q w hr h
end Go.Proofs.Ythncgcdnljoakaa
