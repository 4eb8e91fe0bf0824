/- The contracts of the model's functions on a chain and a number. -/
import Derived.Test.YtpklccpkgefniaaCh3
namespace Go.Proofs.Ytpklccpkgefniaa
open Go.RowKit
theorem small5 {xs : List StageV} (h : xs.length ≤ 5) : decide ((xs.length : Int) ≤ 5) = true := by simp; omega
theorem chain_two (xs : List StageV) : (allB xs && decide ((xs.length : Int) ≤ 5)) = chainB xs := by
  unfold chainB
  by_cases h : xs.length ≤ 5
  · rw [show decide ((xs.length : Int) ≤ 5) = true by simp; omega, show decide (xs.length ≤ 5) = true by simp; omega]
  · rw [show decide ((xs.length : Int) ≤ 5) = false by simp; omega, show decide (xs.length ≤ 5) = false by simp; omega]
theorem l7Chains_is (v : Value) (xs : List StageV) (r : Bool) (h : chainB xs = r) (w : World) (hr : StgRow w v xs) (hn : xs.length ≤ 2000000) :
    Calls Try.prog 121 #[v, .int .i64 5] w fun e w' => e = .returned (.bool r) ∧ Below w.heap.size w w' :=
  l7Stages_is v xs 5 r (by rw [chain_two, h]) w hr hn
theorem l7Ask_is (v : Value) (xs : List StageV) (n : Int) (r : Bool) (h : askB xs n = r) (w : World) (hr : StgRow w v xs) (hn : xs.length ≤ 2000000) :
    Calls Try.prog 124 #[v, .int .i64 n] w fun e w' => e = .returned (.bool r) ∧ Below w.heap.size w w' := by
  subst h
  unfold askB
  have C := Lib.hid (l7Chains_is v xs _ rfl w hr hn)
  have I := Lib.hid (fun w => l1In_is n 0 1000000 _ rfl w)
  generalize chainB xs = a at *
  generalize (decide (0 ≤ n) && decide (n ≤ 1000000)) = b at *
  clear hr hn
  cases a with
  | false =>
    go_enter Try.func124, Try.ntmps124
    go_wp2_with fail
    refine C.out.mono ?_
    rintro e w1 ⟨rfl, l⟩
    go_wp2
    go_ret
    exact ⟨rfl, l⟩
  | true =>
    go_enter Try.func124, Try.ntmps124
    go_wp2_with fail
    refine C.out.mono ?_
    rintro e w1 ⟨rfl, l⟩
    go_wp2_with fail
    refine (I.out _).mono ?_
    rintro e w' ⟨rfl, rfl⟩
    go_wp2
    go_ret
    exact ⟨rfl, l⟩
set_option maxHeartbeats 800000 in
theorem specChainGain_any (v : Value) (xs : List StageV) (w : World) (hr : StgRow w v xs) (hn : xs.length ≤ 2000000) :
    Calls Try.prog 28 #[v] w fun e w' => e = .returned (.tuple #[.agg #[.int .i64 (cgF xs).1, .int .i64 (cgF xs).2], .bool (chainB xs)]) ∧ Below w.heap.size w w' := by
  have hl : Below w.heap.size w (w.alloc (.cells #[.int .i64 0, .int .i64 0] 28)) := below_one _ _
  obtain ⟨r, hb⟩ : ∃ r, chainB xs = r := ⟨_, rfl⟩
  unfold cgF
  rw [hb]
  have C := Lib.hid (l7Chains_is v xs r hb _ (hr.lo hl) hn)
  have R0 := Lib.hid (cel2_new w 0 0 28)
  cases r with
  | false =>
    clear hb hr hn
    simp only [zz, Bool.false_eq_true, if_false]
    go_enter Try.func28, Try.ntmps28
    go_wp2_with fail
    refine C.out.mono ?_
    rintro e w1 ⟨rfl, l⟩
    have R1 := Lib.hid (R0.out.lo l)
    have L := Lib.hid (lo_on hl l)
    have R2 := Lib.hid (R1.out.put 0 0)
    obtain ⟨_, z1, z2, z3, z4⟩ := R1.out
    clear l C R0 hl
    go_wp2
    obtain ⟨_, q0, q1, _, _⟩ := R2.out
    exact bodyPost_ret (v := .tuple #[.agg #[.int .i64 0, .int .i64 0], .bool false]) (by simp [results, Try.results28, go_sem, q0, q1]) rfl ⟨rfl, two_put L.out (Nat.le_refl _) _ _⟩
  | true =>
    have hx := (chainB_iff xs).1 hb
    have G := Lib.hid (fun w1 (l : Below (w.alloc (.cells #[.int .i64 0, .int .i64 0] 28)).heap.size (w.alloc (.cells #[.int .i64 0, .int .i64 0] 28)) w1) => l7Chain_any v xs w1 ((hr.lo hl).lo l) hx.1 hx.2)
    clear hb hr hn hx
    simp only [zz, if_true]
    generalize chF xs = g at *
    obtain ⟨x, y⟩ := g
    simp only at G ⊢
    go_enter Try.func28, Try.ntmps28
    go_wp2_with fail
    refine C.out.mono ?_
    rintro e w1 ⟨rfl, l⟩
    have GG := Lib.hid (G.out w1 l)
    have R1 := Lib.hid (R0.out.lo l)
    have L1 := Lib.hid (lo_on hl l)
    clear l C R0 hl G
    go_wp2_with fail
    refine GG.out.mono ?_
    rintro e w2 ⟨rfl, l⟩
    have R2 := Lib.hid (R1.out.lo l)
    have L2 := Lib.hid (lo_on L1.out l)
    have R3 := Lib.hid (R2.out.put x y)
    obtain ⟨_, z1, z2, z3, z4⟩ := R2.out
    clear l GG R1 L1
    go_wp2
    obtain ⟨_, q0, q1, _, _⟩ := R3.out
    exact bodyPost_ret (v := .tuple #[.agg #[.int .i64 x, .int .i64 y], .bool true]) (by simp [results, Try.results28, go_sem, q0, q1]) rfl ⟨rfl, two_put L2.out (Nat.le_refl _) _ _⟩
set_option maxHeartbeats 1600000 in
theorem specPullFor_any (v : Value) (xs : List StageV) (n : Int) (w : World) (hr : StgRow w v xs) (hn : xs.length ≤ 2000000) :
    Calls Try.prog 32 #[v, .int .i64 n] w fun e w' => e = .returned (.tuple #[.agg #[.int .i64 (pullF xs n).1, .int .i64 (pullF xs n).2], .bool (askB xs n)]) ∧ Below w.heap.size w w' := by
  have hl : Below w.heap.size w (w.alloc (.cells #[.int .i64 0, .int .i64 0] 28)) := below_one _ _
  obtain ⟨r, hb⟩ : ∃ r, askB xs n = r := ⟨_, rfl⟩
  unfold pullF
  rw [hb]
  have C := Lib.hid (l7Ask_is v xs n r hb _ (hr.lo hl) hn)
  have R0 := Lib.hid (cel2_new w 0 0 28)
  cases r with
  | false =>
    clear hb hr hn
    simp only [zz, Bool.false_eq_true, if_false]
    go_enter Try.func32, Try.ntmps32
    go_wp2_with fail
    refine C.out.mono ?_
    rintro e w1 ⟨rfl, l⟩
    have R1 := Lib.hid (R0.out.lo l)
    have L := Lib.hid (lo_on hl l)
    have R2 := Lib.hid (R1.out.put 0 0)
    obtain ⟨_, z1, z2, z3, z4⟩ := R1.out
    clear l C R0 hl
    go_wp2
    obtain ⟨_, q0, q1, _, _⟩ := R2.out
    exact bodyPost_ret (v := .tuple #[.agg #[.int .i64 0, .int .i64 0], .bool false]) (by simp [results, Try.results32, go_sem, q0, q1]) rfl ⟨rfl, two_put L.out (Nat.le_refl _) _ _⟩
  | true =>
    have hx := (askB_iff xs n).1 hb
    have G := Lib.hid (fun w1 (l : Below (w.alloc (.cells #[.int .i64 0, .int .i64 0] 28)).heap.size (w.alloc (.cells #[.int .i64 0, .int .i64 0] 28)) w1) => l7Chain_any v xs w1 ((hr.lo hl).lo l) hx.1.1 hx.1.2)
    have BD := Lib.hid (ch_bound hx.1.1 hx.1.2)
    obtain ⟨_, n0, n1⟩ := hx
    clear hb hr hn
    simp only [zz, if_true]
    generalize chF xs = g at *
    obtain ⟨g1, g2⟩ := g
    unfold divF
    simp only at G BD ⊢
    have MB := muln_bound n g2 n0 n1 (by have := BD.out; omega) (by have := BD.out; omega)
    have M := Lib.hid (fun w => l2Cut_any (n * g2) g1 w (by have := BD.out; omega) (by omega) (by omega) (by have := BD.out; omega))
    obtain ⟨m0, m1⟩ := MB
    have a0 : -9223372036854775808 ≤ n * g2 := by omega
    have a1 : n * g2 ≤ 9223372036854775807 := by omega
    clear n0 n1 BD m0 m1
    go_enter Try.func32, Try.ntmps32
    go_wp2_with fail
    refine C.out.mono ?_
    rintro e w1 ⟨rfl, l⟩
    have GG := Lib.hid (G.out w1 l)
    have R1 := Lib.hid (R0.out.lo l)
    have L1 := Lib.hid (lo_on hl l)
    clear l C R0 hl G
    go_wp2_with fail
    refine GG.out.mono ?_
    rintro e w2 ⟨rfl, l⟩
    have G1 := Lib.hid (cel2_new w2 g1 g2 28)
    have R2 := Lib.hid ((R1.out.lo l).lo (below_one w2 (.cells #[.int .i64 g1, .int .i64 g2] 28)))
    have L2 := Lib.hid (lo_on (lo_on L1.out l) (below_one w2 (.cells #[.int .i64 g1, .int .i64 g2] 28)))
    obtain ⟨_, k1, k2, _, _⟩ := G1.out
    clear l GG R1 L1 G1
    go_wp2_with fail
    refine (M.out _).mono ?_
    rintro e w3 ⟨rfl, l⟩
    clear a0 a1 k1 k2 M
    obtain ⟨x, hx⟩ : ∃ x, cutA (n * g2) g1 = x := ⟨_, rfl⟩
    obtain ⟨y, hy⟩ : ∃ y, cutB (n * g2) g1 = y := ⟨_, rfl⟩
    rw [hx, hy]
    have HX := Lib.hid hx
    have HY := Lib.hid hy
    clear hx hy
    have R3 := Lib.hid (R2.out.lo l)
    have L3 := Lib.hid (lo_on L2.out l)
    have R4 := Lib.hid (R3.out.put x y)
    obtain ⟨_, z1, z2, z3, z4⟩ := R3.out
    clear l R2 L2
    go_wp2
    obtain ⟨_, q0, q1, _, _⟩ := R4.out
    exact bodyPost_ret (v := .tuple #[.agg #[.int .i64 x, .int .i64 y], .bool true]) (by simp [results, Try.results32, go_sem, q0, q1]) rfl ⟨by rw [HX.out, HY.out], two_put L3.out (Nat.le_refl _) _ _⟩
set_option maxHeartbeats 1600000 in
theorem specHaulFor_any (v : Value) (xs : List StageV) (n : Int) (w : World) (hr : StgRow w v xs) (hn : xs.length ≤ 2000000) :
    Calls Try.prog 38 #[v, .int .i64 n] w fun e w' => e = .returned (.tuple #[.agg #[.int .i64 (haulF xs n).1, .int .i64 (haulF xs n).2], .bool (askB xs n)]) ∧ Below w.heap.size w w' := by
  have hl : Below w.heap.size w (w.alloc (.cells #[.int .i64 0, .int .i64 0] 28)) := below_one _ _
  obtain ⟨r, hb⟩ : ∃ r, askB xs n = r := ⟨_, rfl⟩
  unfold haulF
  rw [hb]
  have C := Lib.hid (l7Ask_is v xs n r hb _ (hr.lo hl) hn)
  have R0 := Lib.hid (cel2_new w 0 0 28)
  cases r with
  | false =>
    clear hb hr hn
    simp only [zz, Bool.false_eq_true, if_false]
    go_enter Try.func38, Try.ntmps38
    go_wp2_with fail
    refine C.out.mono ?_
    rintro e w1 ⟨rfl, l⟩
    have R1 := Lib.hid (R0.out.lo l)
    have L := Lib.hid (lo_on hl l)
    have R2 := Lib.hid (R1.out.put 0 0)
    obtain ⟨_, z1, z2, z3, z4⟩ := R1.out
    clear l C R0 hl
    go_wp2
    obtain ⟨_, q0, q1, _, _⟩ := R2.out
    exact bodyPost_ret (v := .tuple #[.agg #[.int .i64 0, .int .i64 0], .bool false]) (by simp [results, Try.results38, go_sem, q0, q1]) rfl ⟨rfl, two_put L.out (Nat.le_refl _) _ _⟩
  | true =>
    have hx := (askB_iff xs n).1 hb
    have G := Lib.hid (fun w1 (l : Below (w.alloc (.cells #[.int .i64 0, .int .i64 0] 28)).heap.size (w.alloc (.cells #[.int .i64 0, .int .i64 0] 28)) w1) => l7Chain_any v xs w1 ((hr.lo hl).lo l) hx.1.1 hx.1.2)
    have BD := Lib.hid (ch_bound hx.1.1 hx.1.2)
    obtain ⟨_, n0, n1⟩ := hx
    clear hb hr hn
    simp only [zz, if_true]
    generalize chF xs = g at *
    obtain ⟨g1, g2⟩ := g
    unfold mltF
    simp only at G BD ⊢
    have MB := muln_bound n g1 n0 n1 (by have := BD.out; omega) (by have := BD.out; omega)
    have M := Lib.hid (fun w => l2Cut_any (n * g1) g2 w (by have := BD.out; omega) (by omega) (by omega) (by have := BD.out; omega))
    obtain ⟨m0, m1⟩ := MB
    have a0 : -9223372036854775808 ≤ n * g1 := by omega
    have a1 : n * g1 ≤ 9223372036854775807 := by omega
    clear n0 n1 BD m0 m1
    go_enter Try.func38, Try.ntmps38
    go_wp2_with fail
    refine C.out.mono ?_
    rintro e w1 ⟨rfl, l⟩
    have GG := Lib.hid (G.out w1 l)
    have R1 := Lib.hid (R0.out.lo l)
    have L1 := Lib.hid (lo_on hl l)
    clear l C R0 hl G
    go_wp2_with fail
    refine GG.out.mono ?_
    rintro e w2 ⟨rfl, l⟩
    have G1 := Lib.hid (cel2_new w2 g1 g2 28)
    have R2 := Lib.hid ((R1.out.lo l).lo (below_one w2 (.cells #[.int .i64 g1, .int .i64 g2] 28)))
    have L2 := Lib.hid (lo_on (lo_on L1.out l) (below_one w2 (.cells #[.int .i64 g1, .int .i64 g2] 28)))
    obtain ⟨_, k1, k2, _, _⟩ := G1.out
    clear l GG R1 L1 G1
    go_wp2_with fail
    refine (M.out _).mono ?_
    rintro e w3 ⟨rfl, l⟩
    clear a0 a1 k1 k2 M
    obtain ⟨x, hx⟩ : ∃ x, cutA (n * g1) g2 = x := ⟨_, rfl⟩
    obtain ⟨y, hy⟩ : ∃ y, cutB (n * g1) g2 = y := ⟨_, rfl⟩
    rw [hx, hy]
    have HX := Lib.hid hx
    have HY := Lib.hid hy
    clear hx hy
    have R3 := Lib.hid (R2.out.lo l)
    have L3 := Lib.hid (lo_on L2.out l)
    have R4 := Lib.hid (R3.out.put x y)
    obtain ⟨_, z1, z2, z3, z4⟩ := R3.out
    clear l R2 L2
    go_wp2
    obtain ⟨_, q0, q1, _, _⟩ := R4.out
    exact bodyPost_ret (v := .tuple #[.agg #[.int .i64 x, .int .i64 y], .bool true]) (by simp [results, Try.results38, go_sem, q0, q1]) rfl ⟨by rw [HX.out, HY.out], two_put L3.out (Nat.le_refl _) _ _⟩
set_option maxRecDepth 100000 in
set_option maxHeartbeats 1600000 in
theorem specLeastPull_any (v : Value) (xs : List StageV) (n : Int) (w : World) (hr : StgRow w v xs) (hn : xs.length ≤ 2000000) :
    Calls Try.prog 34 #[v, .int .i64 n] w fun e w' => e = .returned (.tuple #[.int .i64 (leastF xs n), .bool (askB xs n)]) ∧ Below w.heap.size w w' := by
  obtain ⟨r, hb⟩ : ∃ r, askB xs n = r := ⟨_, rfl⟩
  unfold leastF
  rw [hb]
  have C := Lib.hid (l7Ask_is v xs n r hb w hr hn)
  cases r with
  | false =>
    clear hb hr hn
    simp only [Bool.false_eq_true, if_false]
    go_enter Try.func34, Try.ntmps34
    go_wp2_with fail
    refine C.out.mono ?_
    rintro e w1 ⟨rfl, l⟩
    go_wp2
    go_ret2
    exact ⟨rfl, l⟩
  | true =>
    have hx := (askB_iff xs n).1 hb
    have G := Lib.hid (fun w1 (l : Below w.heap.size w w1) => l7Chain_any v xs w1 (hr.lo l) hx.1.1 hx.1.2)
    have BD := Lib.hid (ch_bound hx.1.1 hx.1.2)
    obtain ⟨_, n0, n1⟩ := hx
    clear hb hr hn
    simp only [if_true]
    generalize chF xs = g at *
    obtain ⟨g1, g2⟩ := g
    simp only at G BD ⊢
    have MB := muln_bound n g2 n0 n1 (by have := BD.out; omega) (by have := BD.out; omega)
    obtain ⟨m0, m1⟩ := MB
    have a0 : -9223372036854775808 ≤ n * g2 := by omega
    have a1 : n * g2 ≤ 9223372036854775807 := by omega
    have HG := BD.out
    have gz : (g1 : Int) ≠ 0 := by omega
    have a2 : -9223372036854775808 ≤ n * g2 + g1 := by omega
    have a3 : n * g2 + g1 ≤ 9223372036854775807 := by omega
    have a4 : -9223372036854775808 ≤ n * g2 + g1 - 1 := by omega
    have a5 : n * g2 + g1 - 1 ≤ 9223372036854775807 := by omega
    have TD := tdiv_abs (n * g2 + g1 - 1) g1
    obtain ⟨q, hq⟩ : ∃ q, Int.tdiv (n * g2 + g1 - 1) g1 = q := ⟨_, rfl⟩
    rw [hq] at TD
    have hw1 : IntKind.i64.wrap q = q := by rw [IntKind.wrap_i64]; omega
    have hw2 : RowKit.wrap64 q = q := Go.IntWalk.wrap64_in q (by omega)
    rw [hq]
    clear n0 n1 BD m0 m1 HG TD
    go_enter Try.func34, Try.ntmps34
    go_wp2_with fail
    refine C.out.mono ?_
    rintro e w1 ⟨rfl, l⟩
    have GG := Lib.hid (G.out w1 l)
    have L1 := Lib.hid l
    clear l C G
    go_wp2_with fail
    refine GG.out.mono ?_
    rintro e w2 ⟨rfl, l⟩
    have G1 := Lib.hid (cel2_new w2 g1 g2 28)
    have L2 := Lib.hid (lo_on (lo_on L1.out l) (below_one w2 (.cells #[.int .i64 g1, .int .i64 g2] 28)))
    obtain ⟨_, k1, k2, _, _⟩ := G1.out
    clear l GG L1 G1
    go_wp2
    go_ret2
    exact ⟨rfl, L2.out⟩
set_option maxRecDepth 100000 in
set_option maxHeartbeats 1600000 in
theorem specMostLoad_any (v : Value) (xs : List StageV) (n : Int) (w : World) (hr : StgRow w v xs) (hn : xs.length ≤ 2000000) :
    Calls Try.prog 36 #[v, .int .i64 n] w fun e w' => e = .returned (.tuple #[.int .i64 (mostF xs n), .bool (askB xs n)]) ∧ Below w.heap.size w w' := by
  obtain ⟨r, hb⟩ : ∃ r, askB xs n = r := ⟨_, rfl⟩
  unfold mostF
  rw [hb]
  have C := Lib.hid (l7Ask_is v xs n r hb w hr hn)
  cases r with
  | false =>
    clear hb hr hn
    simp only [Bool.false_eq_true, if_false]
    go_enter Try.func36, Try.ntmps36
    go_wp2_with fail
    refine C.out.mono ?_
    rintro e w1 ⟨rfl, l⟩
    go_wp2
    go_ret2
    exact ⟨rfl, l⟩
  | true =>
    have hx := (askB_iff xs n).1 hb
    have G := Lib.hid (fun w1 (l : Below w.heap.size w w1) => l7Chain_any v xs w1 (hr.lo l) hx.1.1 hx.1.2)
    have BD := Lib.hid (ch_bound hx.1.1 hx.1.2)
    obtain ⟨_, n0, n1⟩ := hx
    clear hb hr hn
    simp only [if_true]
    generalize chF xs = g at *
    obtain ⟨g1, g2⟩ := g
    simp only at G BD ⊢
    have MB := muln_bound n g1 n0 n1 (by have := BD.out; omega) (by have := BD.out; omega)
    obtain ⟨m0, m1⟩ := MB
    have a0 : -9223372036854775808 ≤ n * g1 := by omega
    have a1 : n * g1 ≤ 9223372036854775807 := by omega
    have HG := BD.out
    have gz : (g2 : Int) ≠ 0 := by omega
    have TD := tdiv_abs (n * g1) g2
    obtain ⟨q, hq⟩ : ∃ q, Int.tdiv (n * g1) g2 = q := ⟨_, rfl⟩
    rw [hq] at TD
    have hw1 : IntKind.i64.wrap q = q := by rw [IntKind.wrap_i64]; omega
    have hw2 : RowKit.wrap64 q = q := Go.IntWalk.wrap64_in q (by omega)
    rw [hq]
    clear n0 n1 BD m0 m1 HG TD
    go_enter Try.func36, Try.ntmps36
    go_wp2_with fail
    refine C.out.mono ?_
    rintro e w1 ⟨rfl, l⟩
    have GG := Lib.hid (G.out w1 l)
    have L1 := Lib.hid l
    clear l C G
    go_wp2_with fail
    refine GG.out.mono ?_
    rintro e w2 ⟨rfl, l⟩
    have G1 := Lib.hid (cel2_new w2 g1 g2 28)
    have L2 := Lib.hid (lo_on (lo_on L1.out l) (below_one w2 (.cells #[.int .i64 g1, .int .i64 g2] 28)))
    obtain ⟨_, k1, k2, _, _⟩ := G1.out
    clear l GG L1 G1
    go_wp2
    go_ret2
    exact ⟨rfl, L2.out⟩
end Go.Proofs.Ytpklccpkgefniaa
