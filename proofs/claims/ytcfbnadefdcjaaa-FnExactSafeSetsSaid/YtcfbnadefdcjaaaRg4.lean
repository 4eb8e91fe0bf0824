/- The contracts of both sides' RaftReserve and RaftSide. -/
import Derived.Test.YtcfbnadefdcjaaaRg3
import Derived.Deep.RegionLaw
namespace Go.Proofs.Ytcfbnadefdcjaaa
open Go.RowKit
noncomputable def rrA (a b o : Int) (row : List (Int × Int)) (xs : List Int) : Int := if codeOk a b o row xs = true then rsA a b o (deckL row (codeF xs)) else 0
noncomputable def rrB (a b o : Int) (row : List (Int × Int)) (xs : List Int) : Int := if codeOk a b o row xs = true then rsB a b o (deckL row (codeF xs)) else 0
noncomputable def rrS (a b o : Int) (row : List (Int × Int)) (xs : List Int) : Int := if rrA a b o row xs < 0 then -1 else if rrB a b o row xs < 0 then 1 else 0
theorem codeOk_iff {a b o : Int} {row : List (Int × Int)} {xs : List Int} (h : codeOk a b o row xs = true) : cargoB a b o row = true ∧ setB row.length xs = true := by simpa [codeOk] using h
theorem codeOk_lt {a b o : Int} {row : List (Int × Int)} {xs : List Int} (h : codeOk a b o row xs = true) : codeF xs < 256 := by
  obtain ⟨h1, h2⟩ := codeOk_iff h
  have h8 := ((cargoB_iff _ _ _ _).1 h1).2.1
  exact code_lt8 h8 (set_code h8 h2).2
set_option maxRecDepth 100000 in
set_option maxHeartbeats 1600000 in
theorem specReserve_any (a b o : Int) (v u : Value) (row : List (Int × Int)) (xs : List Int) (w : World) (hr : LoadRow w v row) (hu : IntRow w u xs) (hn : xs.length ≤ 2000000) :
    Calls Try.prog 31 #[.agg #[.int .i64 a, .int .i64 b, .int .i64 o], v, u] w fun e w' => e = .returned (.tuple #[.int .i64 (rrA a b o row xs), .int .i64 (rrB a b o row xs), .bool (codeOk a b o row xs)]) ∧ Below w.heap.size w w' := by
  unfold rrA rrB
  have C1 := Lib.hid (fun w1 (l : Below w.heap.size w w1) => l10Code_any a b o v u row xs w1 (hr.lo l) (hu.lo l) hn)
  cases hok : codeOk a b o row xs with
  | false =>
    rw [hok] at C1
    obtain ⟨av, cv, rfl, _⟩ := hr
    obtain ⟨au, cu, rfl, _⟩ := hu
    clear hok
    go_enter Try.func31, Try.ntmps31
    go_wp2_with fail
    refine (C1.out _ (below_one _ _)).mono ?_
    rintro e w1 ⟨rfl, l⟩
    have L1 := Lib.hid ((below_one w (.cells #[.int .i64 a, .int .i64 b, .int .i64 o] 25)).trans (l.mono (by simp)))
    have BX := Lib.hid (show Cel3R w1 w.heap.size (.int .i64 a) (.int .i64 b) (.int .i64 o) from (cel3R_new w _ _ _ 25).lo l)
    clear l C1
    clear BX
    go_wp2
    go_ret3
    exact ⟨rfl, L1.out⟩
  | true =>
    rw [hok] at C1
    have C2 := Lib.hid (fun w1 (l : Below w.heap.size w w1) => l10Reserve_any a b o v row (codeF xs) w1 (hr.lo l) (codeOk_iff hok).1 (codeOk_lt hok))
    obtain ⟨av, cv, rfl, _⟩ := hr
    obtain ⟨au, cu, rfl, _⟩ := hu
    generalize rsA a b o (deckL row (codeF xs)) = x at *
    generalize rsB a b o (deckL row (codeF xs)) = y at *
    generalize codeF xs = cd at *
    clear hok
    simp only [if_true] at C1 ⊢
    go_enter Try.func31, Try.ntmps31
    go_wp2_with fail
    refine (C1.out _ (below_one _ _)).mono ?_
    rintro e w1 ⟨rfl, l⟩
    have L1 := Lib.hid ((below_one w (.cells #[.int .i64 a, .int .i64 b, .int .i64 o] 25)).trans (l.mono (by simp)))
    have BX := Lib.hid (show Cel3R w1 w.heap.size (.int .i64 a) (.int .i64 b) (.int .i64 o) from (cel3R_new w _ _ _ 25).lo l)
    clear l C1
    obtain ⟨_, k0, k1, k2⟩ := BX.out
    go_wp2_with fail
    clear k0 k1 k2
    refine (C2.out _ L1.out).mono ?_
    rintro e w2 ⟨rfl, l⟩
    have L2 := Lib.hid (lo_on L1.out l)
    clear l C2
    go_wp2
    go_ret3
    exact ⟨rfl, L2.out⟩
set_option maxRecDepth 100000 in
set_option maxHeartbeats 1600000 in
theorem specSide_any (a b o : Int) (v u : Value) (row : List (Int × Int)) (xs : List Int) (w : World) (hr : LoadRow w v row) (hu : IntRow w u xs) (hn : xs.length ≤ 2000000) :
    Calls Try.prog 25 #[.agg #[.int .i64 a, .int .i64 b, .int .i64 o], v, u] w fun e w' => e = .returned (.tuple #[.int .i64 (rrS a b o row xs), .bool (codeOk a b o row xs)]) ∧ Below w.heap.size w w' := by
  unfold rrS rrA rrB
  have C1 := Lib.hid (fun w1 (l : Below w.heap.size w w1) => l10Code_any a b o v u row xs w1 (hr.lo l) (hu.lo l) hn)
  cases hok : codeOk a b o row xs with
  | false =>
    rw [hok] at C1
    obtain ⟨av, cv, rfl, _⟩ := hr
    obtain ⟨au, cu, rfl, _⟩ := hu
    clear hok
    go_enter Try.func25, Try.ntmps25
    go_wp2_with fail
    refine (C1.out _ (below_one _ _)).mono ?_
    rintro e w1 ⟨rfl, l⟩
    have L1 := Lib.hid ((below_one w (.cells #[.int .i64 a, .int .i64 b, .int .i64 o] 25)).trans (l.mono (by simp)))
    have BX := Lib.hid (show Cel3R w1 w.heap.size (.int .i64 a) (.int .i64 b) (.int .i64 o) from (cel3R_new w _ _ _ 25).lo l)
    clear l C1
    clear BX
    go_wp2
    go_ret2
    exact ⟨rfl, L1.out⟩
  | true =>
    rw [hok] at C1
    have C2 := Lib.hid (fun w1 (l : Below w.heap.size w w1) => l10Reserve_any a b o v row (codeF xs) w1 (hr.lo l) (codeOk_iff hok).1 (codeOk_lt hok))
    obtain ⟨av, cv, rfl, _⟩ := hr
    obtain ⟨au, cu, rfl, _⟩ := hu
    generalize rsA a b o (deckL row (codeF xs)) = x at *
    generalize rsB a b o (deckL row (codeF xs)) = y at *
    generalize codeF xs = cd at *
    clear hok
    simp only [if_true] at C1 ⊢
    by_cases hx : x < 0
    case pos =>
      go_enter Try.func25, Try.ntmps25
      go_wp2_with fail
      refine (C1.out _ (below_one _ _)).mono ?_
      rintro e w1 ⟨rfl, l⟩
      have L1 := Lib.hid ((below_one w (.cells #[.int .i64 a, .int .i64 b, .int .i64 o] 25)).trans (l.mono (by simp)))
      have BX := Lib.hid (show Cel3R w1 w.heap.size (.int .i64 a) (.int .i64 b) (.int .i64 o) from (cel3R_new w _ _ _ 25).lo l)
      clear l C1
      obtain ⟨_, k0, k1, k2⟩ := BX.out
      go_wp2_with fail
      clear k0 k1 k2
      refine (C2.out _ L1.out).mono ?_
      rintro e w2 ⟨rfl, l⟩
      have L2 := Lib.hid (lo_on L1.out l)
      clear l C2
      go_wp2
      go_ret2
      exact ⟨by first | (simp; done) | (simp [hx]; done), L2.out⟩
    case neg =>
      by_cases hy : y < 0
      all_goals go_enter Try.func25, Try.ntmps25
      all_goals go_wp2_with fail
      all_goals refine (C1.out _ (below_one _ _)).mono ?_
      all_goals rintro e w1 ⟨rfl, l⟩
      all_goals have L1 := Lib.hid ((below_one w (.cells #[.int .i64 a, .int .i64 b, .int .i64 o] 25)).trans (l.mono (by simp)))
      all_goals have BX := Lib.hid (show Cel3R w1 w.heap.size (.int .i64 a) (.int .i64 b) (.int .i64 o) from (cel3R_new w _ _ _ 25).lo l)
      all_goals clear l C1
      all_goals obtain ⟨_, k0, k1, k2⟩ := BX.out
      all_goals go_wp2_with fail
      all_goals clear k0 k1 k2
      all_goals refine (C2.out _ L1.out).mono ?_
      all_goals rintro e w2 ⟨rfl, l⟩
      all_goals have L2 := Lib.hid (lo_on L1.out l)
      all_goals clear l C2
      all_goals go_wp2
      all_goals go_ret2
      all_goals exact ⟨by first | (simp; done) | (simp [hx]; done) | (simp [hy]; done) | (simp [hx, hy]; done), L2.out⟩
set_option maxRecDepth 100000 in
set_option maxHeartbeats 1600000 in
theorem reservesWith_any (a b o : Int) (v : Value) (zs : List (Int × Int)) (w : World) (hr : LoadRow w v zs) (hrb : raftB a b o = true) (hz : RowF zs) :
    Calls Try.prog 96 #[.agg #[.int .i64 a, .int .i64 b, .int .i64 o], v] w fun e w' => e = .returned (.tuple #[.int .i64 (rsA a b o zs), .int .i64 (rsB a b o zs)]) ∧ Below w.heap.size w w' := by
  have C1 := Lib.hid (fun w1 (l : Below w.heap.size w w1) => baseMoments_yes v zs a b w1 (hr.lo l) hz ((raftB_iff a b o).1 hrb).1)
  obtain ⟨⟨o0, o1⟩, d0, d1⟩ := own_bnd hrb
  have hbb := baseB_ok ((raftB_iff a b o).1 hrb).1
  have m1 := mom_abs a hbb.1 zs (fun x hx => ⟨(hz.each x hx).1, by have := (hz.each x hx).2; omega⟩)
  have m2 := mom_abs b hbb.2.1 zs (fun x hx => ⟨(hz.each x hx).1, by have := (hz.each x hx).2; omega⟩)
  have hl := hz.short
  unfold rsA rsB
  obtain ⟨av, cv, rfl, _⟩ := hr
  generalize momF a zs = x at *
  generalize momF b zs = y at *
  have bx : -100000 ≤ x ∧ x ≤ 100000 := by omega
  have byy : -100000 ≤ y ∧ y ≤ 100000 := by omega
  obtain ⟨s, hs⟩ : ∃ s, b - a = s := ⟨_, rfl⟩
  rw [hs] at d0 d1 o0 o1 ⊢
  obtain ⟨m0, hm0⟩ : ∃ m, o * s = m := ⟨_, rfl⟩
  rw [hm0] at o0 o1 ⊢
  obtain ⟨ws, ws'⟩ := wr_64 (x := s) (by omega) (by omega)
  obtain ⟨wm, wm'⟩ := wr_64 (x := m0) (by omega) (by omega)
  obtain ⟨w2x, w2x'⟩ := wr_64 (x := 2 * x) (by omega) (by omega)
  obtain ⟨w2y, w2y'⟩ := wr_64 (x := 2 * y) (by omega) (by omega)
  obtain ⟨wa, wa'⟩ := wr_64 (x := m0 + 2 * x) (by omega) (by omega)
  obtain ⟨wb, wb'⟩ := wr_64 (x := m0 - 2 * y) (by omega) (by omega)
  clear m1 m2 hl bx byy o0 o1 d0 d1 hbb hz hrb
  go_enter Try.func96, Try.ntmps96
  go_wp2_with fail
  refine (C1.out _ (below_one _ _)).mono ?_
  rintro e w1 ⟨rfl, l⟩
  have L1 := Lib.hid ((below_one w (.cells #[.int .i64 a, .int .i64 b, .int .i64 o] 25)).trans (l.mono (by simp)))
  have BX := Lib.hid (show Cel3R w1 w.heap.size (.int .i64 a) (.int .i64 b) (.int .i64 o) from (cel3R_new w _ _ _ 25).lo l)
  clear l C1
  obtain ⟨_, k0, k1, k2⟩ := BX.out
  go_wp2
  go_ret2
  exact ⟨rfl, L1.out⟩
theorem pick_row {row : List (Int × Int)} (hz : RowF row) (h8 : row.length ≤ 8) {xs : List Int} (h : setB row.length xs = true) : RowF (pickL row xs) ∧ (∀ x ∈ xs, 0 ≤ x ∧ x < row.length) ∧ xs.length ≤ 8 := by
  have h1 := set_lev h xs.length (Nat.le_refl _)
  rw [List.take_length] at h1
  exact ⟨pickL_row hz h1, fun x hx => lev_in _ _ xs h1 x hx, by have := (set_every h).2; omega⟩
set_option maxRecDepth 100000 in
set_option maxHeartbeats 3200000 in
theorem implReserve_any (a b o : Int) (v u : Value) (row : List (Int × Int)) (xs : List Int) (w : World) (hr : LoadRow w v row) (hu : IntRow w u xs) (hn : xs.length ≤ 2000000) :
    Calls Try.prog 32 #[.agg #[.int .i64 a, .int .i64 b, .int .i64 o], v, u] w fun e w' => e = .returned (.tuple #[.int .i64 (rrA a b o row xs), .int .i64 (rrB a b o row xs), .bool (codeOk a b o row xs)]) ∧ Below w.heap.size w w' := by
  unfold rrA rrB codeOk
  have C1 := Lib.hid (fun w1 (l : Below w.heap.size w w1) => canTake_any a b o v row w1 (hr.lo l))
  cases hcb : cargoB a b o row with
  | false =>
    rw [hcb] at C1
    obtain ⟨av, cv, rfl, _⟩ := hr
    obtain ⟨au, cu, rfl, _⟩ := hu
    clear hcb
    go_enter Try.func32, Try.ntmps32
    go_wp2_with fail
    refine (C1.out _ (below_one _ _)).mono ?_
    rintro e w1 ⟨rfl, l⟩
    have L1 := Lib.hid ((below_one w (.cells #[.int .i64 a, .int .i64 b, .int .i64 o] 25)).trans (l.mono (by simp)))
    have BX := Lib.hid (show Cel3R w1 w.heap.size (.int .i64 a) (.int .i64 b) (.int .i64 o) from (cel3R_new w _ _ _ 25).lo l)
    clear l C1
    clear BX
    go_wp2
    go_ret3
    exact ⟨rfl, L1.out⟩
  | true =>
    rw [hcb] at C1
    obtain ⟨hrb, h8, hz⟩ := (cargoB_iff _ _ _ _).1 hcb
    have C2 := Lib.hid (fun w1 (l : Below w.heap.size w w1) => isItemSet_any u xs row.length w1 (hu.lo l) hn (by omega))
    cases hsb : setB row.length xs with
    | false =>
      rw [hsb] at C2
      obtain ⟨av, cv, rfl, _⟩ := hr
      obtain ⟨au, cu, rfl, _⟩ := hu
      clear hcb hsb hz
      go_enter Try.func32, Try.ntmps32
      go_wp2_with fail
      refine (C1.out _ (below_one _ _)).mono ?_
      rintro e w1 ⟨rfl, l⟩
      have L1 := Lib.hid ((below_one w (.cells #[.int .i64 a, .int .i64 b, .int .i64 o] 25)).trans (l.mono (by simp)))
      have BX := Lib.hid (show Cel3R w1 w.heap.size (.int .i64 a) (.int .i64 b) (.int .i64 o) from (cel3R_new w _ _ _ 25).lo l)
      clear l C1
      clear BX
      go_wp2_with fail
      refine (C2.out _ L1.out).mono ?_
      rintro e w2 ⟨rfl, l⟩
      have L2 := Lib.hid (lo_on L1.out l)
      clear l C2
      go_wp2
      go_ret3
      exact ⟨rfl, L2.out⟩
    | true =>
      rw [hsb] at C2
      obtain ⟨q1, q2, q3⟩ := pick_row hz h8 hsb
      have CH := Lib.hid (fun w1 (l : Below w.heap.size w w1) => chosenL_any v u row xs w1 (hr.lo l) (hu.lo l) q2 (by omega) (by omega))
      have RS := Lib.hid (fun z w1 (h : LoadRow w1 z (pickL row xs)) => reservesWith_any a b o z (pickL row xs) w1 h hrb q1)
      obtain ⟨e1, e2⟩ := rs_set a b o h8 hsb
      rw [e1, e2] at RS
      simp only [Bool.and_self, if_true]
      generalize rsA a b o (deckL row (codeF xs)) = x at *
      generalize rsB a b o (deckL row (codeF xs)) = y at *
      generalize pickL row xs = zs at *
      obtain ⟨av, cv, rfl, _⟩ := hr
      obtain ⟨au, cu, rfl, _⟩ := hu
      clear hcb hsb hz e1 e2 q1 q2 q3 hrb
      go_enter Try.func32, Try.ntmps32
      go_wp2_with fail
      refine (C1.out _ (below_one _ _)).mono ?_
      rintro e w1 ⟨rfl, l⟩
      have L1 := Lib.hid ((below_one w (.cells #[.int .i64 a, .int .i64 b, .int .i64 o] 25)).trans (l.mono (by simp)))
      have BX := Lib.hid (show Cel3R w1 w.heap.size (.int .i64 a) (.int .i64 b) (.int .i64 o) from (cel3R_new w _ _ _ 25).lo l)
      clear l C1
      go_wp2_with fail
      refine (C2.out _ L1.out).mono ?_
      rintro e w2 ⟨rfl, l⟩
      have L2 := Lib.hid (lo_on L1.out l)
      have BX := Lib.hid (BX.out.lo l)
      clear l C2 L1
      obtain ⟨_, k0, k1, k2⟩ := BX.out
      have BD := Lib.hid (fun (X : World) (l : Below w2.heap.size w2 X) => BX.out.lo l)
      go_wp2_with fail
      go_region_law (first
        | (go_simp; go_at_call 97; refine (CH.out _ (lo_drewN L2.out 1)).mono ?_; rintro e w3 ⟨z, rfl, hz3, l3⟩; have L3 := lo_on (lo_drewN L2.out 1) l3; obtain ⟨_, j0, j1, j2⟩ := BD.out w3 (show Below w2.heap.size w2 w3 from lo_on (drw1 w2) l3))
        | (go_simp; go_at_call 96; refine (RS.out z w3 hz3).mono ?_; rintro e w4 ⟨rfl, l4⟩; have L4 := lo_on L3 l4))
      all_goals
        (have HL := Lib.hid L4
         clear L3 L4 l3 l4 hz3 j0 j1 j2 CH RS BD BX k0 k1 k2
         go_wp2
         go_ret3
         exact ⟨rfl, HL.out⟩)
set_option maxRecDepth 100000 in
set_option maxHeartbeats 1600000 in
theorem implSide_any (a b o : Int) (v u : Value) (row : List (Int × Int)) (xs : List Int) (w : World) (hr : LoadRow w v row) (hu : IntRow w u xs) (hn : xs.length ≤ 2000000) :
    Calls Try.prog 28 #[.agg #[.int .i64 a, .int .i64 b, .int .i64 o], v, u] w fun e w' => e = .returned (.tuple #[.int .i64 (rrS a b o row xs), .bool (codeOk a b o row xs)]) ∧ Below w.heap.size w w' := by
  have C1 := Lib.hid (fun w1 (l : Below w.heap.size w w1) => implReserve_any a b o v u row xs w1 (hr.lo l) (hu.lo l) hn)
  unfold rrS
  generalize rrA a b o row xs = x at *
  generalize rrB a b o row xs = y at *
  generalize codeOk a b o row xs = ok at *
  obtain ⟨av, cv, rfl, _⟩ := hr
  obtain ⟨au, cu, rfl, _⟩ := hu
  by_cases hx : x < 0
  case pos =>
    go_enter Try.func28, Try.ntmps28
    go_wp2_with fail
    refine (C1.out _ (below_one _ _)).mono ?_
    rintro e w1 ⟨rfl, l⟩
    have L1 := Lib.hid ((below_one w (.cells #[.int .i64 a, .int .i64 b, .int .i64 o] 25)).trans (l.mono (by simp)))
    have BX := Lib.hid (show Cel3R w1 w.heap.size (.int .i64 a) (.int .i64 b) (.int .i64 o) from (cel3R_new w _ _ _ 25).lo l)
    clear l C1
    clear BX
    go_wp2
    go_ret2
    exact ⟨by first | (simp; done) | (simp [hx]; done), L1.out⟩
  case neg =>
    by_cases hy : y < 0
    all_goals go_enter Try.func28, Try.ntmps28
    all_goals go_wp2_with fail
    all_goals refine (C1.out _ (below_one _ _)).mono ?_
    all_goals rintro e w1 ⟨rfl, l⟩
    all_goals have L1 := Lib.hid ((below_one w (.cells #[.int .i64 a, .int .i64 b, .int .i64 o] 25)).trans (l.mono (by simp)))
    all_goals clear l C1
    all_goals go_wp2
    all_goals go_ret2
    all_goals exact ⟨by first | (simp; done) | (simp [hx]; done) | (simp [hy]; done) | (simp [hx, hy]; done), L1.out⟩
end Go.Proofs.Ytcfbnadefdcjaaa
