/- The contracts of both functions CanCross. -/
import Derived.Test.YthncgcdnljoakaaBi5
namespace Go.Proofs.Ythncgcdnljoakaa
open Go.RowKit
theorem ixF_0 (a b c d : Int) (w : World) : (Instr.index 88 (.agg #[.int .i64 a, .int .i64 b, .int .i64 c, .int .i64 d]) (.int .i64 0)).run Try.prog w = .ok (.agg #[.int .i64 a, .int .i64 b]) w := by kernel_rfl
theorem ixF_1 (a b c d : Int) (w : World) : (Instr.index 88 (.agg #[.int .i64 a, .int .i64 b, .int .i64 c, .int .i64 d]) (.int .i64 1)).run Try.prog w = .ok (.agg #[.int .i64 c, .int .i64 d]) w := by kernel_rfl
def CrF (p : BeamV) (cs : List (Int × Int)) : Prop := ∀ k : Nat, (k : Int) ≤ p.l → sideF p.a p.b (atC (k : Int) cs) = 0
noncomputable def ccB (p : BeamV) (cs : List (Int × Int)) : Bool := beamB p && convB cs
noncomputable def ccR (p : BeamV) (cs : List (Int × Int)) : Bool := ccB p cs && propB (CrF p cs)
theorem ccB_iff (p : BeamV) (cs : List (Int × Int)) : ccB p cs = true ↔ beamB p = true ∧ ConvF cs := by
  unfold ccB convB
  rw [Bool.and_eq_true, propB_iff]
set_option maxRecDepth 100000 in
set_option maxHeartbeats 6400000 in
theorem specCc_yes (p : BeamV) (L : Nat) (hL : p.l = (L : Int)) (v : Value) (cs : List (Int × Int)) (w : World) (hr : LoadRow w v cs) (hf : ConvF cs) (hb : beamB p = true) :
    Calls Try.prog 53 #[.agg #[.int .i64 p.l, .int .i64 p.a, .int .i64 p.b], v] w fun e w' => e = .returned (.tuple #[.bool (propB (CrF p cs)), .bool true]) ∧ Below w.heap.size w w' := by
  have C := Lib.hid (fun w => l6Beam_is p true hb w)
  have V := Lib.hid (fun w1 (l : Below w.heap.size w w1) => by have := l6Convoy_any v cs w1 (hr.lo l) (by have := hf.short; omega); rw [show convB cs = true from propB_yes hf] at this; exact this)
  obtain ⟨q1, q2, q3, q4, q5⟩ := (beamB_iff p).1 hb
  have A := Lib.hid (fun (x : Nat) (hx : (x : Int) ≤ p.l) w1 (l : Below w.heap.size w w1) => (l6At_any v cs (x : Int) w1 (hr.lo l) hf (by omega) (by omega)).mono fun e w' ⟨u, h1, h2, h3⟩ => (⟨u, h1, loadRow_own h2, h3⟩ : ∃ u, e = Ending.returned u ∧ LoadRow w' u (atC (x : Int) cs) ∧ Below w1.heap.size w1 w'))
  have D := Lib.hid (fun (x : Nat) (hx : (x : Int) ≤ p.l) u w1 (hu : LoadRow w1 u (atC (x : Int) cs)) => l2Side_any u (atC (x : Int) cs) p.a p.b w1 hu (atC_on hb hf (x : Int) hx).row (by omega) (by omega) (by omega) (by omega))
  have HY := Lib.hid (fun h : CrF p cs => show propB (CrF p cs) = true from propB_yes h)
  have HN := Lib.hid (fun (k : Nat) (hk : (k : Int) ≤ p.l) (h : sideF p.a p.b (atC (k : Int) cs) ≠ 0) => show propB (CrF p cs) = false from propB_no (fun c => h (c k hk)))
  generalize propB (CrF p cs) = r at *
  obtain ⟨AT, hAT⟩ : ∃ AT : Nat → List (Int × Int), AT = fun x : Nat => atC (x : Int) cs := ⟨_, rfl⟩
  have A2 := Lib.hid (fun (x : Nat) (hx : (x : Int) ≤ p.l) w1 (l : Below w.heap.size w w1) => show Calls Try.prog 105 #[v, .int .i64 (x : Int)] w1 fun e w' => ∃ u, e = .returned u ∧ LoadRow w' u (AT x) ∧ Below w1.heap.size w1 w' by rw [hAT]; exact A.out x hx w1 l)
  have D2 := Lib.hid (fun (x : Nat) (hx : (x : Int) ≤ p.l) u w1 (hu : LoadRow w1 u (AT x)) => show Calls Try.prog 79 #[u, .int .i64 p.a, .int .i64 p.b] w1 fun e w' => e = .returned (.int .i64 (sideF p.a p.b (AT x))) ∧ Below w1.heap.size w1 w' by rw [hAT] at hu ⊢; exact D.out x hx u w1 hu)
  have HY2 := Lib.hid (fun h : ∀ k : Nat, (k : Int) ≤ p.l → sideF p.a p.b (AT k) = 0 => HY.out (show CrF p cs by rw [hAT] at h; exact h))
  have HN2 := Lib.hid (fun (k : Nat) (hk : (k : Int) ≤ p.l) (h : sideF p.a p.b (AT k) ≠ 0) => HN.out k hk (by rw [hAT] at h; exact h))
  clear A D HY HN hAT hr hf hb
  obtain ⟨l, a, b⟩ := p
  simp only at hL q1 q2 q3 q4 q5 C A2 D2 HY2 HN2 ⊢
  subst hL
  obtain ⟨W, hW⟩ : ∃ W, w.alloc (.cells #[.int .i64 (L : Int), .int .i64 a, .int .i64 b] 25) = W := ⟨_, rfl⟩
  have LW := Lib.hid (show Below w.heap.size w W by rw [← hW]; exact below_new _ _)
  have BX := Lib.hid (show Cel3 W w.heap.size (.int .i64 (L : Int)) (.int .i64 a) (.int .i64 b) by rw [← hW]; exact cel3_new _ _ _ _ _)
  obtain ⟨_, u0, u1, u2⟩ := BX.out
  go_enter Try.func53, Try.ntmps53
  go_wp2_with fail
  clear hW
  refine (C.out W).mono ?_
  rintro e w1 ⟨rfl, l1⟩
  have L1 := Lib.hid (lo_on LW.out l1)
  have B1 := Lib.hid (BX.out.lo l1)
  clear l1 C u0 u1 u2 BX
  go_wp2_with fail
  refine (V.out w1 L1.out).mono ?_
  rintro e w2 ⟨rfl, l2⟩
  have L2 := Lib.hid (lo_on L1.out l2)
  have B2 := Lib.hid (B1.out.lo l2)
  clear l2 V B1 L1
  go_wp2
  go_loopw [6] (fun i wr => ∃ k : Nat, k ≤ L + 1 ∧ i = .int .i64 k ∧ Hid (∀ j : Nat, j < k → sideF a b (AT j) = 0) ∧ Hid (Below w2.heap.size w2 wr)) (fun i _ => L + 1 - (intOf i).toNat)
  case atStart => exact ⟨0, Nat.zero_le _, rfl, Lib.hid (fun j h => by omega), Lib.hid (Below.refl _ _)⟩
  case round =>
    obtain ⟨k, hk, rfl, HK, HL⟩ := hrel
    obtain ⟨hbx, x0, x1, x2⟩ := B2.out.lo HL.out
    by_cases hlt : k < L + 1
    · have hlt' : (k : Int) ≤ (L : Int) := by omega
      have AK := Lib.hid (A2.out k hlt' wr.drew (lo_on (lo_on L2.out HL.out) (drw_b wr)))
      have DK := Lib.hid (D2.out k hlt')
      have HNk := Lib.hid (HN2.out k hlt')
      have HKn := Lib.hid (show sideF a b (AT k) = 0 → ∀ j : Nat, j < k + 1 → sideF a b (AT j) = 0 from fun h j hj => by
        by_cases e : j = k
        · subst e; exact h
        · exact HK.out j (by omega))
      generalize sideF a b (AT k) = s at *
      generalize AT k = rows at *
      by_cases hs : s = 0
      · subst hs
        go_wp2
        go_region_held3 (fun w' => w'.cell? ⟨w.heap.size, 1, none⟩ = some (.int .i64 a) ∧ w'.cell? ⟨w.heap.size, 2, none⟩ = some (.int .i64 b))
          (first | exact ⟨x1, x2⟩ | go_keep)
          (first
            | (go_at_call 105; refine AK.out.mono ?_; rintro e5 v5 ⟨ur, rfl, m5, hl5⟩
               have L5 := Lib.hid (show Below w2.heap.size w2 v5 from lo_on (lo_on HL.out (drw_b wr)) hl5)
               have DD := Lib.hid (DK.out ur v5 m5)
               clear x0 x1 x2 hl5 m5
               obtain ⟨_, x0, x1, x2⟩ := B2.out.lo L5.out)
            | (go_at_call 79; refine DD.out.mono ?_; rintro e6 v6 ⟨rfl, hl6⟩
               have L6 := Lib.hid (show Below w2.heap.size w2 v6 from lo_on L5.out hl6)
               clear x0 x1 x2 hl6
               obtain ⟨_, x0, x1, x2⟩ := B2.out.lo L6.out))
        go_wp2
        go_roundw
        case rel => exact ⟨k + 1, by omega, by go_num, Lib.hid (HKn.out (by trivial)), L6⟩
        case measure => simp [intOf]; omega
      · have HF := Lib.hid (HNk.out hs)
        have hs' : (s == 0) = false := by simpa using hs
        clear HKn HNk
        go_wp2
        go_region_held3 (fun w' => w'.cell? ⟨w.heap.size, 1, none⟩ = some (.int .i64 a) ∧ w'.cell? ⟨w.heap.size, 2, none⟩ = some (.int .i64 b))
          (first | exact ⟨x1, x2⟩ | go_keep)
          (first
            | (go_at_call 105; refine AK.out.mono ?_; rintro e5 v5 ⟨ur, rfl, m5, hl5⟩
               have L5 := Lib.hid (show Below w2.heap.size w2 v5 from lo_on (lo_on HL.out (drw_b wr)) hl5)
               have DD := Lib.hid (DK.out ur v5 m5)
               clear x0 x1 x2 hl5 m5
               obtain ⟨_, x0, x1, x2⟩ := B2.out.lo L5.out)
            | (go_at_call 79; refine DD.out.mono ?_; rintro e6 v6 ⟨rfl, hl6⟩
               have L6 := Lib.hid (show Below w2.heap.size w2 v6 from lo_on L5.out hl6)
               clear x0 x1 x2 hl6
               obtain ⟨_, x0, x1, x2⟩ := B2.out.lo L6.out))
        go_wp2
        go_ret2
        exact ⟨by rw [HF.out]; rfl, lo_on L2.out L6.out⟩
    · obtain rfl : k = L + 1 := by omega
      have hge : ¬ ((L : Int) + 1 ≤ (L : Int)) := by omega
      have HF := Lib.hid (HY2.out (fun j hj => HK.out j (by omega)))
      go_wp2
      go_ret2
      exact ⟨by rw [HF.out]; rfl, lo_on L2.out HL.out⟩
set_option maxHeartbeats 1600000 in
theorem specCc_no (p : BeamV) (v : Value) (cs : List (Int × Int)) (w : World) (hr : LoadRow w v cs) (hn : cs.length ≤ 2000000) (h : ccB p cs = false) :
    Calls Try.prog 53 #[.agg #[.int .i64 p.l, .int .i64 p.a, .int .i64 p.b], v] w fun e w' => e = .returned (.tuple #[.bool false, .bool false]) ∧ Below w.heap.size w w' := by
  have C := Lib.hid (fun w => l6Beam_any p w)
  have V := Lib.hid (fun w1 (l : Below w.heap.size w w1) => l6Convoy_any v cs w1 (hr.lo l) hn)
  unfold ccB at h
  generalize beamB p = b1 at *
  generalize convB cs = b2 at *
  clear hr
  obtain ⟨l, a, b⟩ := p
  simp only at C ⊢
  obtain ⟨W, hW⟩ : ∃ W, w.alloc (.cells #[.int .i64 l, .int .i64 a, .int .i64 b] 25) = W := ⟨_, rfl⟩
  have LW := Lib.hid (show Below w.heap.size w W by rw [← hW]; exact below_new _ _)
  have BX := Lib.hid (show Cel3 W w.heap.size (.int .i64 l) (.int .i64 a) (.int .i64 b) by rw [← hW]; exact cel3_new _ _ _ _ _)
  obtain ⟨_, u0, u1, u2⟩ := BX.out
  cases b1 with
  | false =>
    go_enter Try.func53, Try.ntmps53
    go_wp2_with fail
    clear hW
    refine (C.out W).mono ?_
    rintro e w1 ⟨rfl, l1⟩
    go_wp2
    go_ret2
    exact ⟨rfl, lo_on LW.out l1⟩
  | true =>
    obtain rfl : b2 = false := h
    go_enter Try.func53, Try.ntmps53
    go_wp2_with fail
    clear hW
    refine (C.out W).mono ?_
    rintro e w1 ⟨rfl, l1⟩
    have L1 := Lib.hid (lo_on LW.out l1)
    clear l1 C u0 u1 u2
    go_wp2_with fail
    refine (V.out w1 L1.out).mono ?_
    rintro e w2 ⟨rfl, l2⟩
    go_wp2
    go_ret2
    exact ⟨rfl, lo_on L1.out l2⟩
theorem specCc_any (p : BeamV) (v : Value) (cs : List (Int × Int)) (w : World) (hr : LoadRow w v cs) (hn : cs.length ≤ 2000000) :
    Calls Try.prog 53 #[.agg #[.int .i64 p.l, .int .i64 p.a, .int .i64 p.b], v] w fun e w' => e = .returned (.tuple #[.bool (ccR p cs), .bool (ccB p cs)]) ∧ Below w.heap.size w w' := by
  unfold ccR
  cases h : ccB p cs with
  | true =>
    obtain ⟨h1, h2⟩ := (ccB_iff p cs).1 h
    rw [Bool.true_and]
    exact specCc_yes p p.l.toNat (by have := ((beamB_iff p).1 h1).1; omega) v cs w hr h2 h1
  | false => exact specCc_no p v cs w hr hn h
set_option maxHeartbeats 1600000 in
theorem cc_no (p : BeamV) (v : Value) (cs : List (Int × Int)) (w : World) (hr : LoadRow w v cs) (h : ccB p cs = false) :
    Calls Try.prog 54 #[.agg #[.int .i64 p.l, .int .i64 p.a, .int .i64 p.b], v] w fun e w' => e = .returned (.tuple #[.bool false, .bool false]) ∧ Below w.heap.size w w' := by
  have C := Lib.hid (fun w => isBeam_any p w)
  have V := Lib.hid (fun w1 (l : Below w.heap.size w w1) => isConvoy_any v cs w1 (hr.lo l))
  unfold ccB at h
  generalize beamB p = b1 at *
  generalize convB cs = b2 at *
  clear hr
  obtain ⟨l, a, b⟩ := p
  simp only at C ⊢
  obtain ⟨W, hW⟩ : ∃ W, w.alloc (.cells #[.int .i64 l, .int .i64 a, .int .i64 b] 25) = W := ⟨_, rfl⟩
  have LW := Lib.hid (show Below w.heap.size w W by rw [← hW]; exact below_new _ _)
  have BX := Lib.hid (show Cel3 W w.heap.size (.int .i64 l) (.int .i64 a) (.int .i64 b) by rw [← hW]; exact cel3_new _ _ _ _ _)
  obtain ⟨_, u0, u1, u2⟩ := BX.out
  cases b1 with
  | false =>
    go_enter Try.func54, Try.ntmps54
    go_wp2_with fail
    refine wp_scope_straight ?_
    go_wp2_with fail
    clear hW
    refine (C.out W).mono ?_
    rintro e w1 ⟨rfl, l1⟩
    go_wp2
    rw [Exit.noGoto_ret]
    go_ret2
    exact ⟨rfl, lo_on LW.out l1⟩
  | true =>
    obtain rfl : b2 = false := h
    go_enter Try.func54, Try.ntmps54
    go_wp2_with fail
    refine wp_scope_straight ?_
    go_wp2_with fail
    clear hW
    refine (C.out W).mono ?_
    rintro e w1 ⟨rfl, l1⟩
    have L1 := Lib.hid (lo_on LW.out l1)
    clear l1 C u0 u1 u2
    go_wp2_with fail
    refine (V.out w1 L1.out).mono ?_
    rintro e w2 ⟨rfl, l2⟩
    go_wp2
    rw [Exit.noGoto_ret]
    go_ret2
    exact ⟨rfl, lo_on L1.out l2⟩
set_option maxRecDepth 100000 in
set_option maxHeartbeats 6400000 in
theorem cc_yes (p : BeamV) (L : Nat) (hL : p.l = (L : Int)) (v : Value) (cs : List (Int × Int)) (w : World) (hr : LoadRow w v cs) (hf : ConvF cs) (hb : beamB p = true) :
    Calls Try.prog 54 #[.agg #[.int .i64 p.l, .int .i64 p.a, .int .i64 p.b], v] w fun e w' => e = .returned (.tuple #[.bool (propB (CrF p cs)), .bool true]) ∧ Below w.heap.size w w' := by
  have C := Lib.hid (fun w => isBeam_is p true hb w)
  have V := Lib.hid (fun w1 (l : Below w.heap.size w w1) => by have := isConvoy_any v cs w1 (hr.lo l); rw [show convB cs = true from propB_yes hf] at this; exact this)
  have hb' := hb
  obtain ⟨q1, q2, q3, q4, q5⟩ := (beamB_iff p).1 hb'
  have A := Lib.hid (fun (x : Nat) (hx : (x : Int) ≤ p.l) w1 (l : Below w.heap.size w w1) => (cv_yes p v cs (x : Int) w1 (hr.lo l) hf ⟨q1, q2, q3, q4, q5, by omega, hx⟩).mono fun e w' ⟨u, h1, h2, h3⟩ => (⟨u, h1, h2.row, h3⟩ : ∃ u, e = Ending.returned (.tuple #[u, .bool true]) ∧ LoadRow w' u (atC (x : Int) cs) ∧ Below w1.heap.size w1 w'))
  have D := Lib.hid (fun (x : Nat) (hx : (x : Int) ≤ p.l) u w1 (hu : LoadRow w1 u (atC (x : Int) cs)) => supF_any p u (atC (x : Int) cs) w1 hu (atC_on hb hf (x : Int) hx))
  have HM := Lib.hid (fun (x : Nat) (hx : (x : Int) ≤ p.l) => And.intro ((rowF_bounds (atC_on hb hf (x : Int) hx).row).2.2.2 p.a (by omega) (by omega)) ((rowF_bounds (atC_on hb hf (x : Int) hx).row).2.2.2 p.b (by omega) (by omega)))
  have HY := Lib.hid (fun h : CrF p cs => show propB (CrF p cs) = true from propB_yes h)
  have HN := Lib.hid (fun (k : Nat) (hk : (k : Int) ≤ p.l) (h : ¬ (0 ≤ momF p.a (atC (k : Int) cs) ∧ momF p.b (atC (k : Int) cs) ≤ 0)) => show propB (CrF p cs) = false from propB_no (fun c => h ((side_zero _ _ _).1 (c k hk))))
  generalize propB (CrF p cs) = r at *
  obtain ⟨AT, hAT⟩ : ∃ AT : Nat → List (Int × Int), AT = fun x : Nat => atC (x : Int) cs := ⟨_, rfl⟩
  have A2 := Lib.hid (fun (x : Nat) (hx : (x : Int) ≤ p.l) w1 (l : Below w.heap.size w w1) => show Calls Try.prog 49 #[.agg #[.int .i64 p.l, .int .i64 p.a, .int .i64 p.b], v, .int .i64 (x : Int)] w1 fun e w' => ∃ u, e = .returned (.tuple #[u, .bool true]) ∧ LoadRow w' u (AT x) ∧ Below w1.heap.size w1 w' by rw [hAT]; exact A.out x hx w1 l)
  have D2 := Lib.hid (fun (x : Nat) (hx : (x : Int) ≤ p.l) u w1 (hu : LoadRow w1 u (AT x)) => show Calls Try.prog 85 #[.agg #[.int .i64 p.l, .int .i64 p.a, .int .i64 p.b], u] w1 fun e w' => e = .returned (.agg #[.int .i64 p.a, .int .i64 (-momF p.b (AT x)), .int .i64 p.b, .int .i64 (momF p.a (AT x))]) ∧ Below w1.heap.size w1 w' by rw [hAT] at hu ⊢; exact D.out x hx u w1 hu)
  have HM2 := Lib.hid (fun (x : Nat) (hx : (x : Int) ≤ p.l) => show (-71280 ≤ momF p.a (AT x) ∧ momF p.a (AT x) ≤ 71280) ∧ -71280 ≤ momF p.b (AT x) ∧ momF p.b (AT x) ≤ 71280 by rw [hAT]; exact HM.out x hx)
  have HY2 := Lib.hid (fun h : ∀ k : Nat, (k : Int) ≤ p.l → 0 ≤ momF p.a (AT k) ∧ momF p.b (AT k) ≤ 0 => HY.out (show CrF p cs by rw [hAT] at h; exact fun k hk => (side_zero _ _ _).2 (h k hk)))
  have HN2 := Lib.hid (fun (k : Nat) (hk : (k : Int) ≤ p.l) (h : ¬ (0 ≤ momF p.a (AT k) ∧ momF p.b (AT k) ≤ 0)) => HN.out k hk (by rw [hAT] at h; exact h))
  clear A D HM HY HN hAT hr hf hb hb'
  obtain ⟨l, a, b⟩ := p
  simp only at hL q1 q2 q3 q4 q5 C A2 D2 HM2 HY2 HN2 ⊢
  subst hL
  obtain ⟨W, hW⟩ : ∃ W, w.alloc (.cells #[.int .i64 (L : Int), .int .i64 a, .int .i64 b] 25) = W := ⟨_, rfl⟩
  have LW := Lib.hid (show Below w.heap.size w W by rw [← hW]; exact below_new _ _)
  have BX := Lib.hid (show Cel3 W w.heap.size (.int .i64 (L : Int)) (.int .i64 a) (.int .i64 b) by rw [← hW]; exact cel3_new _ _ _ _ _)
  obtain ⟨_, u0, u1, u2⟩ := BX.out
  go_enter Try.func54, Try.ntmps54
  go_wp2_with fail
  refine wp_scope_straight ?_
  go_wp2_with fail
  clear hW
  refine (C.out W).mono ?_
  rintro e w1 ⟨rfl, l1⟩
  have L1 := Lib.hid (lo_on LW.out l1)
  have B1 := Lib.hid (BX.out.lo l1)
  clear l1 C u0 u1 u2 BX
  go_wp2_with fail
  refine (V.out w1 L1.out).mono ?_
  rintro e w2 ⟨rfl, l2⟩
  have L2 := Lib.hid (lo_on L1.out l2)
  have B2 := Lib.hid (B1.out.lo l2)
  obtain ⟨_, x0, x1, x2⟩ := B2.out
  clear l2 V B1 L1
  go_wp2_with fail
  refine wp_label ?_
  go_wp2
  clear x0 x1 x2
  go_loopw [6, 23] (fun cr i wr => ∃ k : Nat, k ≤ L + 1 ∧ i = .int .i64 k ∧ cr = .bool true ∧ Hid (∀ j : Nat, j < k → 0 ≤ momF a (AT j) ∧ momF b (AT j) ≤ 0) ∧ Hid (Below w2.heap.size w2 wr)) (fun _ i _ => L + 1 - (intOf i).toNat)
  case atStart => exact ⟨0, Nat.zero_le _, rfl, rfl, Lib.hid (fun j h => by omega), Lib.hid (Below.refl _ _)⟩
  case round =>
    obtain ⟨k, hk, rfl, rfl, HK, HL⟩ := hrel
    obtain ⟨hbx, x0, x1, x2⟩ := B2.out.lo HL.out
    by_cases hlt : k < L + 1
    · have hlt' : (k : Int) ≤ (L : Int) := by omega
      have hlt2 : (k : Int) < (L : Int) + 1 := by omega
      have AK := Lib.hid (A2.out k hlt' wr (lo_on L2.out HL.out))
      have DK := Lib.hid (D2.out k hlt')
      have HNk := Lib.hid (HN2.out k hlt')
      have hm := HM2.out k hlt'
      have HKn := Lib.hid (show (0 ≤ momF a (AT k) ∧ momF b (AT k) ≤ 0) → ∀ j : Nat, j < k + 1 → 0 ≤ momF a (AT j) ∧ momF b (AT j) ≤ 0 from fun h j hj => by
        by_cases e : j = k
        · subst e; exact h
        · exact HK.out j (by omega))
      generalize momF a (AT k) = n at *
      generalize momF b (AT k) = m at *
      generalize AT k = rows at *
      obtain ⟨⟨n0, n1⟩, m0, m1⟩ := hm
      by_cases hm0 : m ≤ 0
      case neg =>
        have HF := Lib.hid (HNk.out (fun h => hm0 h.2))
        have hneg : -m < 0 := by omega
        clear HKn HNk HK
        go_wp2_with fail
        refine AK.out.mono ?_
        rintro e w3 ⟨u, rfl, m3, l3⟩
        have L3 := Lib.hid (lo_on HL.out l3)
        have DD := Lib.hid (DK.out u w3 m3)
        clear x0 x1 x2 l3 m3 AK
        obtain ⟨_, x0, x1, x2⟩ := B2.out.lo L3.out
        go_wp2_with fail
        refine DD.out.mono ?_
        rintro e w4 ⟨rfl, l4⟩
        have L4 := Lib.hid (lo_on L2.out (lo_on L3.out l4))
        have L5 := Lib.hid (fun ob => lo_on L4.out (below_new w4 ob))
        clear x0 x1 x2 l4 DD DK
        have ix0 := ixF_0 a (-m) b n w4
        have ix1 := fun ob => ixF_1 a (-m) b n (w4.alloc ob)
        go_wp2
        refine wp_loop_rounds 3 ?_
        rw [rounds_succ]
        go_wp2
        rw [Exit.noGoto_ret]
        go_ret2
        exact ⟨by rw [HF.out]; rfl, L5.out _⟩
      by_cases hn0 : 0 ≤ n
      case neg =>
        have HF := Lib.hid (HNk.out (fun h => hn0 h.1))
        have hneg : ¬ -m < 0 := by omega
        have hneg2 : n < 0 := by omega
        clear HKn HNk HK
        go_wp2_with fail
        refine AK.out.mono ?_
        rintro e w3 ⟨u, rfl, m3, l3⟩
        have L3 := Lib.hid (lo_on HL.out l3)
        have DD := Lib.hid (DK.out u w3 m3)
        clear x0 x1 x2 l3 m3 AK
        obtain ⟨_, x0, x1, x2⟩ := B2.out.lo L3.out
        go_wp2_with fail
        refine DD.out.mono ?_
        rintro e w4 ⟨rfl, l4⟩
        have L4 := Lib.hid (lo_on L2.out (lo_on L3.out l4))
        have L5 := Lib.hid (fun ob ob2 => lo_on L4.out (lo_on (below_new w4 ob) (below_new _ ob2)))
        clear x0 x1 x2 l4 DD DK
        have ix0 := ixF_0 a (-m) b n w4
        have ix1 := fun ob => ixF_1 a (-m) b n (w4.alloc ob)
        go_wp2
        refine wp_loop_rounds 3 ?_
        rw [rounds_succ]
        go_wp2
        rw [rounds_succ]
        go_wp2
        rw [Exit.noGoto_ret]
        go_ret2
        exact ⟨by rw [HF.out]; rfl, L5.out _ _⟩
      have hneg : ¬ -m < 0 := by omega
      have hneg2 : ¬ n < 0 := by omega
      have HKz := Lib.hid (HKn.out ⟨hn0, hm0⟩)
      clear HKn HNk HK
      go_wp2_with fail
      refine AK.out.mono ?_
      rintro e w3 ⟨u, rfl, m3, l3⟩
      have L3 := Lib.hid (lo_on HL.out l3)
      have DD := Lib.hid (DK.out u w3 m3)
      clear x0 x1 x2 l3 m3 AK
      obtain ⟨_, x0, x1, x2⟩ := B2.out.lo L3.out
      go_wp2_with fail
      refine DD.out.mono ?_
      rintro e w4 ⟨rfl, l4⟩
      have L4 := Lib.hid (lo_on L3.out l4)
      have L5 := Lib.hid (fun ob ob2 => lo_on L4.out (lo_on (below_new w4 ob) (below_new _ ob2)))
      clear x0 x1 x2 l4 DD DK
      have ix0 := ixF_0 a (-m) b n w4
      have ix1 := fun ob => ixF_1 a (-m) b n (w4.alloc ob)
      go_wp2
      refine wp_loop_rounds 3 ?_
      rw [rounds_succ]
      go_wp2
      rw [rounds_succ]
      go_wp2
      rw [rounds_succ]
      go_wp2
      go_roundw
      case rel => exact ⟨k + 1, by omega, by go_num, rfl, HKz, Lib.hid (L5.out _ _)⟩
      case measure => simp [intOf]; omega
    · obtain rfl : k = L + 1 := by omega
      have hge : ¬ ((L : Int) + 1 < (L : Int) + 1) := by omega
      have HF := Lib.hid (HY2.out (fun j hj => HK.out j (by omega)))
      go_wp2
      go_ret2
      exact ⟨by rw [HF.out]; rfl, lo_on L2.out HL.out⟩
theorem cc_any (p : BeamV) (v : Value) (cs : List (Int × Int)) (w : World) (hr : LoadRow w v cs) :
    Calls Try.prog 54 #[.agg #[.int .i64 p.l, .int .i64 p.a, .int .i64 p.b], v] w fun e w' => e = .returned (.tuple #[.bool (ccR p cs), .bool (ccB p cs)]) ∧ Below w.heap.size w w' := by
  unfold ccR
  cases h : ccB p cs with
  | true =>
    obtain ⟨h1, h2⟩ := (ccB_iff p cs).1 h
    rw [Bool.true_and]
    exact cc_yes p p.l.toNat (by have := ((beamB_iff p).1 h1).1; omega) v cs w hr h2 h1
  | false => exact cc_no p v cs w hr h
end Go.Proofs.Ythncgcdnljoakaa
