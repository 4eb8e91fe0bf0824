/- The contracts of the program's functions on a chain and a number. -/
import Derived.Test.YtpklccpkgefniaaCg3
namespace Go.Proofs.Ytpklccpkgefniaa
open Go.RowKit
theorem ask_parts (xs : List StageV) (n : Int) : askB xs n = (chainB xs && (decide (0 ≤ n) && decide (n ≤ 1000000))) := rfl
set_option maxHeartbeats 800000 in
theorem divide_any (g1 g2 n : Int) (w : World) (h1 : 1 ≤ g1 ∧ g1 ≤ 254803968) (h2 : 1 ≤ g2 ∧ g2 ≤ 254803968) (n0 : 0 ≤ n) (n1 : n ≤ 1000000) :
    Calls Try.prog 127 #[.agg #[.int .i64 g1, .int .i64 g2], .int .i64 n] w fun e w' => e = .returned (.agg #[.int .i64 (divF (g1, g2) n).1, .int .i64 (divF (g1, g2) n).2]) ∧ Below w.heap.size w w' := by
  unfold divF
  simp only
  obtain ⟨m0, m1⟩ := muln_bound n g2 n0 n1 (by omega) (by omega)
  have M := Lib.hid (fun w => lowest_any (n * g2) g1 w (by omega) (by omega) (by omega) (by omega))
  have a0 : -9223372036854775808 ≤ n * g2 := by omega
  have a1 : n * g2 ≤ 9223372036854775807 := by omega
  clear h1 h2 n0 n1 m0 m1
  have P := Lib.hid (below_pair w (.cells #[.int .i64 g1, .int .i64 g2] 110) (.cells #[.int .i64 0, .int .i64 0] 110))
  have R0 := Lib.hid (show Cel2 ((w.alloc (.cells #[.int .i64 g1, .int .i64 g2] 110)).alloc (.cells #[.int .i64 0, .int .i64 0] 110)) (w.heap.size + 1) (0, 0) from by
    have := cel2_new (w.alloc (.cells #[.int .i64 g1, .int .i64 g2] 110)) 0 0 110
    rw [World.size_alloc] at this
    exact this)
  go_enter Try.func127, Try.ntmps127
  go_wp2_with fail
  refine (M.out _).mono ?_
  rintro e w1 ⟨rfl, l⟩
  obtain ⟨x, hx⟩ : ∃ x, cutA (n * g2) g1 = x := ⟨_, rfl⟩
  obtain ⟨y, hy⟩ : ∃ y, cutB (n * g2) g1 = y := ⟨_, rfl⟩
  rw [hx, hy]
  have HX := Lib.hid hx
  have HY := Lib.hid hy
  have R1 := Lib.hid (R0.out.lo l)
  have L := Lib.hid (lo_on P.out l)
  have R2 := Lib.hid (R1.out.put x y)
  obtain ⟨_, z1, z2, z3, z4⟩ := R1.out
  clear hx hy l R0 M a0 a1 P
  go_wp2
  obtain ⟨_, q0, q1, _, _⟩ := R2.out
  exact bodyPost_ret (v := .agg #[.int .i64 x, .int .i64 y]) (by simp [results, Try.results127, go_sem, q0, q1]) rfl ⟨by rw [HX.out, HY.out], two_put L.out (by omega) _ _⟩
set_option maxHeartbeats 800000 in
theorem multiply_any (g1 g2 n : Int) (w : World) (h1 : 1 ≤ g1 ∧ g1 ≤ 254803968) (h2 : 1 ≤ g2 ∧ g2 ≤ 254803968) (n0 : 0 ≤ n) (n1 : n ≤ 1000000) :
    Calls Try.prog 128 #[.agg #[.int .i64 g1, .int .i64 g2], .int .i64 n] w fun e w' => e = .returned (.agg #[.int .i64 (mltF (g1, g2) n).1, .int .i64 (mltF (g1, g2) n).2]) ∧ Below w.heap.size w w' := by
  unfold mltF
  simp only
  obtain ⟨m0, m1⟩ := muln_bound n g1 n0 n1 (by omega) (by omega)
  have M := Lib.hid (fun w => lowest_any (n * g1) g2 w (by omega) (by omega) (by omega) (by omega))
  have a0 : -9223372036854775808 ≤ n * g1 := by omega
  have a1 : n * g1 ≤ 9223372036854775807 := by omega
  clear h1 h2 n0 n1 m0 m1
  have P := Lib.hid (below_pair w (.cells #[.int .i64 g1, .int .i64 g2] 110) (.cells #[.int .i64 0, .int .i64 0] 110))
  have R0 := Lib.hid (show Cel2 ((w.alloc (.cells #[.int .i64 g1, .int .i64 g2] 110)).alloc (.cells #[.int .i64 0, .int .i64 0] 110)) (w.heap.size + 1) (0, 0) from by
    have := cel2_new (w.alloc (.cells #[.int .i64 g1, .int .i64 g2] 110)) 0 0 110
    rw [World.size_alloc] at this
    exact this)
  go_enter Try.func128, Try.ntmps128
  go_wp2_with fail
  refine (M.out _).mono ?_
  rintro e w1 ⟨rfl, l⟩
  obtain ⟨x, hx⟩ : ∃ x, cutA (n * g1) g2 = x := ⟨_, rfl⟩
  obtain ⟨y, hy⟩ : ∃ y, cutB (n * g1) g2 = y := ⟨_, rfl⟩
  rw [hx, hy]
  have HX := Lib.hid hx
  have HY := Lib.hid hy
  have R1 := Lib.hid (R0.out.lo l)
  have L := Lib.hid (lo_on P.out l)
  have R2 := Lib.hid (R1.out.put x y)
  obtain ⟨_, z1, z2, z3, z4⟩ := R1.out
  clear hx hy l R0 M a0 a1 P
  go_wp2
  obtain ⟨_, q0, q1, _, _⟩ := R2.out
  exact bodyPost_ret (v := .agg #[.int .i64 x, .int .i64 y]) (by simp [results, Try.results128, go_sem, q0, q1]) rfl ⟨by rw [HX.out, HY.out], two_put L.out (by omega) _ _⟩
set_option maxRecDepth 100000 in
set_option maxHeartbeats 1600000 in
theorem bydivide_any (v : Value) (xs : List StageV) (n : Int) (w : World) (hr : StgRow w v xs) (hn : xs.length ≤ 2000000) :
    Calls Try.prog 126 #[v, .int .i64 n, .func (.func 127) #[] #[]] w fun e w' => e = .returned (.tuple #[.agg #[.int .i64 (pullF xs n).1, .int .i64 (pullF xs n).2], .bool (askB xs n)]) ∧ Below w.heap.size w w' := by
  have hl : Below w.heap.size w (w.alloc (.cells #[.int .i64 0, .int .i64 0] 28)) := below_one _ _
  have C := Lib.hid (chainGain_any v xs _ (hr.lo hl) hn)
  have R0 := Lib.hid (cel2_new w 0 0 28)
  unfold pullF
  have HV := Lib.hid (ask_parts xs n)
  cases hb : chainB xs with
  | false =>
    rw [cg_no hb, hb] at C
    rw [hb, Bool.false_and] at HV
    rw [HV.out]
    simp only [zz, Bool.false_eq_true, if_false] at C ⊢
    clear hb HV hr hn
    go_enter Try.func126, Try.ntmps126
    go_wp2_with fail
    refine C.out.mono ?_
    rintro e w1 ⟨rfl, l⟩
    have R1 := Lib.hid ((R0.out.lo l).lo (below_one w1 (.cells #[.int .i64 0, .int .i64 0] 28)))
    have L := Lib.hid (lo_on (lo_on hl l) (below_one w1 (.cells #[.int .i64 0, .int .i64 0] 28)))
    have R2 := Lib.hid (R1.out.put 0 0)
    obtain ⟨_, z1, z2, z3, z4⟩ := R1.out
    clear l C R0 hl
    go_wp2
    obtain ⟨_, q0, q1, _, _⟩ := R2.out
    exact bodyPost_ret (v := .tuple #[.agg #[.int .i64 0, .int .i64 0], .bool false]) (by simp [results, Try.results126, go_sem, q0, q1]) rfl ⟨rfl, two_put L.out (Nat.le_refl _) _ _⟩
  | true =>
    rw [cg_yes hb, hb] at C
    rw [hb, Bool.true_and] at HV
    rw [HV.out]
    have hx := (chainB_iff xs).1 hb
    have BD := Lib.hid (ch_bound hx.1 hx.2)
    clear hb HV hr hn hx
    generalize chF xs = g at *
    obtain ⟨g1, g2⟩ := g
    simp only at C BD
    by_cases n0 : 0 ≤ n
    case neg =>
      have hlt : n < 0 := by omega
      rw [show (decide (0 ≤ n) && decide (n ≤ 1000000)) = false by simp; omega]
      simp only [zz, Bool.false_eq_true, if_false]
      clear n0
      go_enter Try.func126, Try.ntmps126
      go_wp2_with fail
      refine C.out.mono ?_
      rintro e w1 ⟨rfl, l⟩
      have R1 := Lib.hid ((R0.out.lo l).lo (below_one w1 (.cells #[.int .i64 g1, .int .i64 g2] 28)))
      have L := Lib.hid (lo_on (lo_on hl l) (below_one w1 (.cells #[.int .i64 g1, .int .i64 g2] 28)))
      have R2 := Lib.hid (R1.out.put 0 0)
      obtain ⟨_, z1, z2, z3, z4⟩ := R1.out
      clear l C R0 hl
      go_wp2
      obtain ⟨_, q0, q1, _, _⟩ := R2.out
      exact bodyPost_ret (v := .tuple #[.agg #[.int .i64 0, .int .i64 0], .bool false]) (by simp [results, Try.results126, go_sem, q0, q1]) rfl ⟨rfl, two_put L.out (Nat.le_refl _) _ _⟩
    have hge : ¬ n < 0 := by omega
    by_cases n1 : n ≤ 1000000
    case neg =>
      have hgt : 1000000 < n := by omega
      rw [show (decide (0 ≤ n) && decide (n ≤ 1000000)) = false by simp; omega]
      simp only [zz, Bool.false_eq_true, if_false]
      clear n0 n1
      go_enter Try.func126, Try.ntmps126
      go_wp2_with fail
      refine C.out.mono ?_
      rintro e w1 ⟨rfl, l⟩
      have R1 := Lib.hid ((R0.out.lo l).lo (below_one w1 (.cells #[.int .i64 g1, .int .i64 g2] 28)))
      have L := Lib.hid (lo_on (lo_on hl l) (below_one w1 (.cells #[.int .i64 g1, .int .i64 g2] 28)))
      have R2 := Lib.hid (R1.out.put 0 0)
      obtain ⟨_, z1, z2, z3, z4⟩ := R1.out
      clear l C R0 hl
      go_wp2
      obtain ⟨_, q0, q1, _, _⟩ := R2.out
      exact bodyPost_ret (v := .tuple #[.agg #[.int .i64 0, .int .i64 0], .bool false]) (by simp [results, Try.results126, go_sem, q0, q1]) rfl ⟨rfl, two_put L.out (Nat.le_refl _) _ _⟩
    have hle : ¬ 1000000 < n := by omega
    rw [show (decide (0 ≤ n) && decide (n ≤ 1000000)) = true by simp; omega]
    simp only [zz, if_true]
    have G := Lib.hid (fun w => divide_any g1 g2 n w BD.out.1 BD.out.2 n0 n1)
    generalize divF (g1, g2) n = u at *
    obtain ⟨x, y⟩ := u
    simp only at G ⊢
    clear n0 n1 BD
    go_enter Try.func126, Try.ntmps126
    go_wp2_with fail
    refine C.out.mono ?_
    rintro e w1 ⟨rfl, l⟩
    have R1 := Lib.hid ((R0.out.lo l).lo (below_one w1 (.cells #[.int .i64 g1, .int .i64 g2] 28)))
    have L1 := Lib.hid (lo_on (lo_on hl l) (below_one w1 (.cells #[.int .i64 g1, .int .i64 g2] 28)))
    have G1 := Lib.hid (cel2_new w1 g1 g2 28)
    obtain ⟨_, k1, k2, _, _⟩ := G1.out
    clear l C R0 hl G1
    go_wp2_with fail
    refine (G.out _).mono ?_
    rintro e w2 ⟨rfl, l⟩
    have R2 := Lib.hid (R1.out.lo l)
    have L2 := Lib.hid (lo_on L1.out l)
    have R3 := Lib.hid (R2.out.put x y)
    obtain ⟨_, z1, z2, z3, z4⟩ := R2.out
    clear l G R1 L1 k1 k2
    go_wp2
    obtain ⟨_, q0, q1, _, _⟩ := R3.out
    exact bodyPost_ret (v := .tuple #[.agg #[.int .i64 x, .int .i64 y], .bool true]) (by simp [results, Try.results126, go_sem, q0, q1]) rfl ⟨rfl, two_put L2.out (Nat.le_refl _) _ _⟩
set_option maxHeartbeats 800000 in
theorem implPullFor_any (v : Value) (xs : List StageV) (n : Int) (w : World) (hr : StgRow w v xs) (hn : xs.length ≤ 2000000) :
    Calls Try.prog 33 #[v, .int .i64 n] w fun e w' => e = .returned (.tuple #[.agg #[.int .i64 (pullF xs n).1, .int .i64 (pullF xs n).2], .bool (askB xs n)]) ∧ Below w.heap.size w w' := by
  have hl : Below w.heap.size w (w.alloc (.cells #[.int .i64 0, .int .i64 0] 28)) := below_one _ _
  have C := Lib.hid (bydivide_any v xs n _ (hr.lo hl) hn)
  have R0 := Lib.hid (cel2_new w 0 0 28)
  generalize pullF xs n = u at *
  generalize askB xs n = r at *
  obtain ⟨x, y⟩ := u
  simp only at C ⊢
  clear hr hn
  go_enter Try.func33, Try.ntmps33
  go_wp2_with fail
  refine C.out.mono ?_
  rintro e w1 ⟨rfl, l⟩
  have R1 := Lib.hid (R0.out.lo l)
  have L := Lib.hid (lo_on hl l)
  have R2 := Lib.hid (R1.out.put x y)
  obtain ⟨_, z1, z2, z3, z4⟩ := R1.out
  clear l C R0 hl
  go_wp2
  obtain ⟨_, q0, q1, _, _⟩ := R2.out
  exact bodyPost_ret (v := .tuple #[.agg #[.int .i64 x, .int .i64 y], .bool r]) (by simp [results, Try.results33, go_sem, q0, q1]) rfl ⟨rfl, two_put L.out (Nat.le_refl _) _ _⟩
set_option maxRecDepth 100000 in
set_option maxHeartbeats 1600000 in
theorem bymultiply_any (v : Value) (xs : List StageV) (n : Int) (w : World) (hr : StgRow w v xs) (hn : xs.length ≤ 2000000) :
    Calls Try.prog 126 #[v, .int .i64 n, .func (.func 128) #[] #[]] w fun e w' => e = .returned (.tuple #[.agg #[.int .i64 (haulF xs n).1, .int .i64 (haulF xs n).2], .bool (askB xs n)]) ∧ Below w.heap.size w w' := by
  have hl : Below w.heap.size w (w.alloc (.cells #[.int .i64 0, .int .i64 0] 28)) := below_one _ _
  have C := Lib.hid (chainGain_any v xs _ (hr.lo hl) hn)
  have R0 := Lib.hid (cel2_new w 0 0 28)
  unfold haulF
  have HV := Lib.hid (ask_parts xs n)
  cases hb : chainB xs with
  | false =>
    rw [cg_no hb, hb] at C
    rw [hb, Bool.false_and] at HV
    rw [HV.out]
    simp only [zz, Bool.false_eq_true, if_false] at C ⊢
    clear hb HV hr hn
    go_enter Try.func126, Try.ntmps126
    go_wp2_with fail
    refine C.out.mono ?_
    rintro e w1 ⟨rfl, l⟩
    have R1 := Lib.hid ((R0.out.lo l).lo (below_one w1 (.cells #[.int .i64 0, .int .i64 0] 28)))
    have L := Lib.hid (lo_on (lo_on hl l) (below_one w1 (.cells #[.int .i64 0, .int .i64 0] 28)))
    have R2 := Lib.hid (R1.out.put 0 0)
    obtain ⟨_, z1, z2, z3, z4⟩ := R1.out
    clear l C R0 hl
    go_wp2
    obtain ⟨_, q0, q1, _, _⟩ := R2.out
    exact bodyPost_ret (v := .tuple #[.agg #[.int .i64 0, .int .i64 0], .bool false]) (by simp [results, Try.results126, go_sem, q0, q1]) rfl ⟨rfl, two_put L.out (Nat.le_refl _) _ _⟩
  | true =>
    rw [cg_yes hb, hb] at C
    rw [hb, Bool.true_and] at HV
    rw [HV.out]
    have hx := (chainB_iff xs).1 hb
    have BD := Lib.hid (ch_bound hx.1 hx.2)
    clear hb HV hr hn hx
    generalize chF xs = g at *
    obtain ⟨g1, g2⟩ := g
    simp only at C BD
    by_cases n0 : 0 ≤ n
    case neg =>
      have hlt : n < 0 := by omega
      rw [show (decide (0 ≤ n) && decide (n ≤ 1000000)) = false by simp; omega]
      simp only [zz, Bool.false_eq_true, if_false]
      clear n0
      go_enter Try.func126, Try.ntmps126
      go_wp2_with fail
      refine C.out.mono ?_
      rintro e w1 ⟨rfl, l⟩
      have R1 := Lib.hid ((R0.out.lo l).lo (below_one w1 (.cells #[.int .i64 g1, .int .i64 g2] 28)))
      have L := Lib.hid (lo_on (lo_on hl l) (below_one w1 (.cells #[.int .i64 g1, .int .i64 g2] 28)))
      have R2 := Lib.hid (R1.out.put 0 0)
      obtain ⟨_, z1, z2, z3, z4⟩ := R1.out
      clear l C R0 hl
      go_wp2
      obtain ⟨_, q0, q1, _, _⟩ := R2.out
      exact bodyPost_ret (v := .tuple #[.agg #[.int .i64 0, .int .i64 0], .bool false]) (by simp [results, Try.results126, go_sem, q0, q1]) rfl ⟨rfl, two_put L.out (Nat.le_refl _) _ _⟩
    have hge : ¬ n < 0 := by omega
    by_cases n1 : n ≤ 1000000
    case neg =>
      have hgt : 1000000 < n := by omega
      rw [show (decide (0 ≤ n) && decide (n ≤ 1000000)) = false by simp; omega]
      simp only [zz, Bool.false_eq_true, if_false]
      clear n0 n1
      go_enter Try.func126, Try.ntmps126
      go_wp2_with fail
      refine C.out.mono ?_
      rintro e w1 ⟨rfl, l⟩
      have R1 := Lib.hid ((R0.out.lo l).lo (below_one w1 (.cells #[.int .i64 g1, .int .i64 g2] 28)))
      have L := Lib.hid (lo_on (lo_on hl l) (below_one w1 (.cells #[.int .i64 g1, .int .i64 g2] 28)))
      have R2 := Lib.hid (R1.out.put 0 0)
      obtain ⟨_, z1, z2, z3, z4⟩ := R1.out
      clear l C R0 hl
      go_wp2
      obtain ⟨_, q0, q1, _, _⟩ := R2.out
      exact bodyPost_ret (v := .tuple #[.agg #[.int .i64 0, .int .i64 0], .bool false]) (by simp [results, Try.results126, go_sem, q0, q1]) rfl ⟨rfl, two_put L.out (Nat.le_refl _) _ _⟩
    have hle : ¬ 1000000 < n := by omega
    rw [show (decide (0 ≤ n) && decide (n ≤ 1000000)) = true by simp; omega]
    simp only [zz, if_true]
    have G := Lib.hid (fun w => multiply_any g1 g2 n w BD.out.1 BD.out.2 n0 n1)
    generalize mltF (g1, g2) n = u at *
    obtain ⟨x, y⟩ := u
    simp only at G ⊢
    clear n0 n1 BD
    go_enter Try.func126, Try.ntmps126
    go_wp2_with fail
    refine C.out.mono ?_
    rintro e w1 ⟨rfl, l⟩
    have R1 := Lib.hid ((R0.out.lo l).lo (below_one w1 (.cells #[.int .i64 g1, .int .i64 g2] 28)))
    have L1 := Lib.hid (lo_on (lo_on hl l) (below_one w1 (.cells #[.int .i64 g1, .int .i64 g2] 28)))
    have G1 := Lib.hid (cel2_new w1 g1 g2 28)
    obtain ⟨_, k1, k2, _, _⟩ := G1.out
    clear l C R0 hl G1
    go_wp2_with fail
    refine (G.out _).mono ?_
    rintro e w2 ⟨rfl, l⟩
    have R2 := Lib.hid (R1.out.lo l)
    have L2 := Lib.hid (lo_on L1.out l)
    have R3 := Lib.hid (R2.out.put x y)
    obtain ⟨_, z1, z2, z3, z4⟩ := R2.out
    clear l G R1 L1 k1 k2
    go_wp2
    obtain ⟨_, q0, q1, _, _⟩ := R3.out
    exact bodyPost_ret (v := .tuple #[.agg #[.int .i64 x, .int .i64 y], .bool true]) (by simp [results, Try.results126, go_sem, q0, q1]) rfl ⟨rfl, two_put L2.out (Nat.le_refl _) _ _⟩
set_option maxHeartbeats 800000 in
theorem implHaulFor_any (v : Value) (xs : List StageV) (n : Int) (w : World) (hr : StgRow w v xs) (hn : xs.length ≤ 2000000) :
    Calls Try.prog 39 #[v, .int .i64 n] w fun e w' => e = .returned (.tuple #[.agg #[.int .i64 (haulF xs n).1, .int .i64 (haulF xs n).2], .bool (askB xs n)]) ∧ Below w.heap.size w w' := by
  have hl : Below w.heap.size w (w.alloc (.cells #[.int .i64 0, .int .i64 0] 28)) := below_one _ _
  have C := Lib.hid (bymultiply_any v xs n _ (hr.lo hl) hn)
  have R0 := Lib.hid (cel2_new w 0 0 28)
  generalize haulF xs n = u at *
  generalize askB xs n = r at *
  obtain ⟨x, y⟩ := u
  simp only at C ⊢
  clear hr hn
  go_enter Try.func39, Try.ntmps39
  go_wp2_with fail
  refine C.out.mono ?_
  rintro e w1 ⟨rfl, l⟩
  have R1 := Lib.hid (R0.out.lo l)
  have L := Lib.hid (lo_on hl l)
  have R2 := Lib.hid (R1.out.put x y)
  obtain ⟨_, z1, z2, z3, z4⟩ := R1.out
  clear l C R0 hl
  go_wp2
  obtain ⟨_, q0, q1, _, _⟩ := R2.out
  exact bodyPost_ret (v := .tuple #[.agg #[.int .i64 x, .int .i64 y], .bool r]) (by simp [results, Try.results39, go_sem, q0, q1]) rfl ⟨rfl, two_put L.out (Nat.le_refl _) _ _⟩
end Go.Proofs.Ytpklccpkgefniaa
