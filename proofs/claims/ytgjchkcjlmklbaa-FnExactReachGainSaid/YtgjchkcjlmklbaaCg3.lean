/- The contracts of the program's chains. -/
import Derived.Test.YtgjchkcjlmklbaaCg2
namespace Go.Proofs.Ytgjchkcjlmklbaa
open Go.RowKit
set_option maxHeartbeats 800000 in
theorem times_any (o g : Int × Int) (w : World) (h0 : 1 ≤ o.1 * g.1 ∧ o.1 * g.1 ≤ 254803968) (h1 : 1 ≤ o.2 * g.2 ∧ o.2 * g.2 ≤ 254803968) :
    Calls Try.prog 190 #[.agg #[.int .i64 o.1, .int .i64 o.2], .agg #[.int .i64 g.1, .int .i64 g.2]] w fun e w' => e = .returned (.agg #[.int .i64 (mulF o g).1, .int .i64 (mulF o g).2]) ∧ Below w.heap.size w w' := by
  unfold mulF
  obtain ⟨o1, o2⟩ := o
  obtain ⟨g1, g2⟩ := g
  simp only at *
  have M := Lib.hid (fun w => lowest_any (o1 * g1) (o2 * g2) w (by omega) (by omega) (by omega) (by omega))
  have n1 : -9223372036854775808 ≤ o1 * g1 := by omega
  have n2 : o1 * g1 ≤ 9223372036854775807 := by omega
  have n3 : -9223372036854775808 ≤ o2 * g2 := by omega
  have n4 : o2 * g2 ≤ 9223372036854775807 := by omega
  clear h0 h1
  have P := Lib.hid (show Below w.heap.size w (((w.alloc (.cells #[.int .i64 o1, .int .i64 o2] 138)).alloc (.cells #[.int .i64 g1, .int .i64 g2] 138)).alloc (.cells #[.int .i64 0, .int .i64 0] 138)) from lo_on (below_pair _ _ _) (below_one _ _))
  have R0 := Lib.hid (show Cel2 (((w.alloc (.cells #[.int .i64 o1, .int .i64 o2] 138)).alloc (.cells #[.int .i64 g1, .int .i64 g2] 138)).alloc (.cells #[.int .i64 0, .int .i64 0] 138)) (w.heap.size + 2) (0, 0) from by
    have := cel2_new ((w.alloc (.cells #[.int .i64 o1, .int .i64 o2] 138)).alloc (.cells #[.int .i64 g1, .int .i64 g2] 138)) 0 0 138
    rw [World.size_alloc, World.size_alloc] at this
    exact this)
  go_enter Try.func190, Try.ntmps190
  go_wp2_with fail
  refine (M.out _).mono ?_
  rintro e w1 ⟨rfl, l⟩
  obtain ⟨x, hx⟩ : ∃ x, cutA (o1 * g1) (o2 * g2) = x := ⟨_, rfl⟩
  obtain ⟨y, hy⟩ : ∃ y, cutB (o1 * g1) (o2 * g2) = y := ⟨_, rfl⟩
  rw [hx, hy]
  have HX := Lib.hid hx
  have HY := Lib.hid hy
  have R1 := Lib.hid (R0.out.lo l)
  have L := Lib.hid (lo_on P.out l)
  have R2 := Lib.hid (R1.out.put x y)
  obtain ⟨_, z1, z2, z3, z4⟩ := R1.out
  clear hx hy l R0 M n1 n2 n3 n4 P
  go_wp2
  obtain ⟨_, q0, q1, _, _⟩ := R2.out
  exact bodyPost_ret (v := .agg #[.int .i64 x, .int .i64 y]) (by simp [results, Try.results190, go_sem, q0, q1]) rfl ⟨by rw [HX.out, HY.out], two_put L.out (by omega) _ _⟩
/-- A chain up to a place, all of whose stages are valid. -/
theorem ch_step' {xs : List StageV} {k : Nat} (hL : ∀ j, j < k → stgB (xs.getD j stZ) = true) (hk : k < xs.length) (h5 : xs.length ≤ 5) (hx : stgB (xs.getD k stZ) = true) :
    (1 ≤ (chF (xs.take k)).1 * (gnF (xs.getD k stZ)).1 ∧ (chF (xs.take k)).1 * (gnF (xs.getD k stZ)).1 ≤ 254803968) ∧ 1 ≤ (chF (xs.take k)).2 * (gnF (xs.getD k stZ)).2 ∧ (chF (xs.take k)).2 * (gnF (xs.getD k stZ)).2 ≤ 254803968 := by
  have hl : (xs.take (k + 1)).length = k + 1 := by rw [List.length_take]; omega
  have hat : ∀ j, j < k + 1 → (xs.take (k + 1)).getD j stZ = xs.getD j stZ := fun j hj => by simp [List.getD, hj]
  have ha : allB (xs.take (k + 1)) = true := allB_yes (fun j hj => by
    rw [hl] at hj
    rw [hat j hj]
    by_cases e : j = k
    · rw [e]; exact hx
    · exact hL j (by omega))
  have := ch_step ha (by omega) (k := k) (by omega)
  rw [hat k (by omega), List.take_take, Nat.min_eq_left (by omega)] at this
  exact this
theorem not_chain {xs : List StageV} (h : allB xs = false ∨ ¬ xs.length ≤ 5) : chainB xs = false := by
  unfold chainB
  rcases h with h | h
  · rw [h]; rfl
  · rw [show decide (xs.length ≤ 5) = false by simp; omega, Bool.and_false]
theorem cg_no {xs : List StageV} (h : chainB xs = false) : cgF xs = (0, 0) := by unfold cgF; rw [h]; rfl
theorem cg_yes {xs : List StageV} (h : chainB xs = true) : cgF xs = chF xs := by unfold cgF; rw [h]; rfl
set_option maxRecDepth 100000 in
set_option maxHeartbeats 1600000 in
theorem chainGain_any (v : Value) (xs : List StageV) (w : World) (hr : StgRow w v xs) (hn : xs.length ≤ 2000000) :
    Calls Try.prog 107 #[v] w fun e w' => e = .returned (.tuple #[.agg #[.int .i64 (cgF xs).1, .int .i64 (cgF xs).2], .bool (chainB xs)]) ∧ Below w.heap.size w w' := by
  obtain ⟨a, c, rfl, _, hr⟩ := hr
  by_cases h5 : xs.length ≤ 5
  case neg =>
    rw [cg_no (not_chain (.inr h5)), not_chain (.inr h5)]
    have h5' : (5 : Int) < (xs.length : Int) := by omega
    clear hr
    go_enter Try.func107, Try.ntmps107
    go_wp2
    exact bodyPost_ret (v := .tuple #[.agg #[.int .i64 0, .int .i64 0], .bool false]) (by simp [results, Try.results107, go_sem]) rfl ⟨rfl, below_one _ _⟩
  have h5' : ¬ (5 : Int) < (xs.length : Int) := by omega
  go_enter Try.func107, Try.ntmps107
  go_wp2
  go_loopw [16] (fun i wr => ∃ k : Nat, k ≤ xs.length ∧ i = .int .i64 k ∧ Hid (∀ j, j < k → stgB (xs.getD j stZ) = true) ∧ Hid (Cel2 wr w.heap.size (0, 0)) ∧ Hid (Cel2 wr (w.heap.size + 1) (chF (xs.take k))) ∧ Below w.heap.size w wr) (fun i _ => xs.length - (intOf i).toNat)
  case atStart =>
    refine ⟨0, Nat.zero_le _, rfl, Lib.hid (fun j h => by omega), Lib.hid ((cel2_new _ _ _ _).lo (below_one _ _)), Lib.hid ?_, below_pair _ _ _⟩
    have := cel2_new (w.alloc (.cells #[.int .i64 0, .int .i64 0] 94)) 1 1 138
    rw [World.size_alloc] at this
    exact this
  case round =>
    obtain ⟨k, hk, rfl, HL, H0, H1, hw⟩ := hrel
    by_cases hlt : k < xs.length
    · rcases hr with h | ⟨g, off, rfl, hg, hc⟩
      · subst h; simp at hlt
      obtain ⟨h1, h2, h3⟩ := hc k hlt
      rw [← hw.cell (p := ⟨g, off + k * 3, none⟩) hg] at h1
      rw [← hw.cell (p := ⟨g, off + k * 3 + 1, none⟩) hg] at h2
      rw [← hw.cell (p := ⟨g, off + k * 3 + 2, none⟩) hg] at h3
      have hlt' : (k : Int) < (xs.length : Int) := by omega
      have ST := Lib.hid (ch_step' HL.out hlt h5)
      have NX := Lib.hid (ch_take xs k hlt)
      have HN := Lib.hid (allB_not (xs := xs) hlt)
      obtain ⟨x, hx⟩ : ∃ x, xs.getD k stZ = x := ⟨_, rfl⟩
      rw [hx] at h1 h2 h3 ST NX HN
      have HX := Lib.hid hx
      clear hx hc
      have HW := Lib.hid hw
      clear hw
      cases hb : stgB x with
      | false =>
        have C := Lib.hid (fun w => stageGain_no x hb w)
        have HF := Lib.hid (not_chain (.inl (HN.out hb)))
        obtain ⟨p, q, r⟩ := x
        simp only at h1 h2 h3 C
        clear hb HN ST NX HX
        have NB := Lib.hid (show Below wr.heap.size wr (wr.alloc (.cells #[.int .i64 p, .int .i64 q, .int .i64 r] 103)) from below_one _ _)
        have K0 := Lib.hid (H0.out.lo NB.out)
        have KW := Lib.hid (HW.out.trans (NB.out.mono HW.out.size))
        clear H0 H1 HW NB
        go_wp2_with fail
        refine (C.out _).mono ?_
        rintro e w1 ⟨rfl, l⟩
        have J0 := Lib.hid ((K0.out.lo l).lo (below_one w1 (.cells #[.int .i64 0, .int .i64 0] 94)))
        have JW := Lib.hid (KW.out.trans ((lo_on l (below_one w1 (.cells #[.int .i64 0, .int .i64 0] 94))).mono KW.out.size))
        have J1 := Lib.hid (J0.out.put 0 0)
        obtain ⟨_, z1, z2, z3, z4⟩ := J0.out
        clear l C K0 KW h1 h2 h3
        go_wp2
        obtain ⟨_, q0, q1, _, _⟩ := J1.out
        exact bodyPost_ret (v := .tuple #[.agg #[.int .i64 0, .int .i64 0], .bool false]) (by simp [results, Try.results107, go_sem, q0, q1]) rfl ⟨by rw [cg_no HF.out, HF.out], two_put JW.out (Nat.le_refl _) _ _⟩
      | true =>
        have C := Lib.hid (fun w => stageGain_yes x hb w)
        have SS := ST.out hb
        have HB := Lib.hid hb
        generalize gnF x = y at *
        obtain ⟨y1, y2⟩ := y
        obtain ⟨p, q, r⟩ := x
        generalize chF (xs.take k) = o at *
        obtain ⟨o1, o2⟩ := o
        simp only at h1 h2 h3 C SS
        have M := Lib.hid (fun w => times_any (o1, o2) (y1, y2) w SS.1 SS.2)
        generalize mulF (o1, o2) (y1, y2) = u at *
        obtain ⟨u1, u2⟩ := u
        simp only at M
        clear hb HN ST SS
        have NB := Lib.hid (show Below wr.heap.size wr (wr.alloc (.cells #[.int .i64 p, .int .i64 q, .int .i64 r] 103)) from below_one _ _)
        have K0 := Lib.hid (H0.out.lo NB.out)
        have K1 := Lib.hid (H1.out.lo NB.out)
        have KW := Lib.hid (HW.out.trans (NB.out.mono HW.out.size))
        clear H0 H1 HW NB
        go_wp2_with fail
        refine (C.out _).mono ?_
        rintro e w1 ⟨rfl, l⟩
        have G1 := Lib.hid (cel2_new w1 y1 y2 94)
        have J0 := Lib.hid ((K0.out.lo l).lo (below_one w1 (.cells #[.int .i64 y1, .int .i64 y2] 94)))
        have J1 := Lib.hid ((K1.out.lo l).lo (below_one w1 (.cells #[.int .i64 y1, .int .i64 y2] 94)))
        have JW := Lib.hid (KW.out.trans ((lo_on l (below_one w1 (.cells #[.int .i64 y1, .int .i64 y2] 94))).mono KW.out.size))
        obtain ⟨_, g1, g2, _, _⟩ := G1.out
        obtain ⟨_, k1, k2, _, _⟩ := J1.out
        clear l C h1 h2 h3 K0 K1 KW G1
        go_wp2_with fail
        refine (M.out _).mono ?_
        rintro e w2 ⟨rfl, l⟩
        have I0 := Lib.hid ((J0.out.lo l).far (c := w.heap.size + 1) (by omega) (.int .i64 u1) (.int .i64 u2))
        have I1 := Lib.hid (J1.out.lo l)
        have IW := Lib.hid (JW.out.trans (l.mono JW.out.size))
        clear l M J0 J1 JW g1 g2 k1 k2
        obtain ⟨_, k1, k2, k3, k4⟩ := I1.out
        go_wp2
        go_roundw
        case rel =>
          refine ⟨k + 1, by omega, by go_num, Lib.hid (fun j hj => ?_), I0, Lib.hid (by rw [NX.out]; exact I1.out.put u1 u2), two_put IW.out (by omega) _ _⟩
          by_cases e : j = k
          · subst e; rw [HX.out]; exact HB.out
          · exact HL.out j (by omega)
        case measure => simp [intOf]; omega
    · obtain rfl : k = xs.length := by omega
      have hge : ¬ (xs.length : Int) < (xs.length : Int) := by omega
      rw [List.take_length] at H1
      have HF := Lib.hid ((chainB_iff xs).2 ⟨allB_yes HL.out, h5⟩)
      obtain ⟨o, ho⟩ : ∃ o, chF xs = o := ⟨_, rfl⟩
      rw [ho] at H1
      have HO := Lib.hid ho
      clear ho
      obtain ⟨o1, o2⟩ := o
      obtain ⟨_, z1, z2, z3, z4⟩ := H0.out
      obtain ⟨_, k1, k2, _, _⟩ := H1.out
      have J0 := Lib.hid (H0.out.put o1 o2)
      have HW := Lib.hid hw
      clear hw
      simp only at k1 k2
      go_wp2
      obtain ⟨_, q0, q1, _, _⟩ := J0.out
      exact bodyPost_ret (v := .tuple #[.agg #[.int .i64 o1, .int .i64 o2], .bool true]) (by simp [results, Try.results107, go_sem, q0, q1]) rfl ⟨by rw [cg_yes HF.out, HF.out, HO.out], two_put HW.out (Nat.le_refl _) _ _⟩
end Go.Proofs.Ytgjchkcjlmklbaa
