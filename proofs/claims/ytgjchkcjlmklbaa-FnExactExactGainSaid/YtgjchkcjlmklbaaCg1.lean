/- The contracts of the program's machines: what is sound, and the gains. -/
import Derived.Test.YtgjchkcjlmklbaaCh4
import Derived.RegionTactic
namespace Go.Proofs.Ytgjchkcjlmklbaa
open Go.RowKit
theorem isRatio_is (a : Int) (r : Bool) (h : rtB a = r) (w : World) : Calls Try.prog 296 #[.int .i64 a] w fun e w' => e = .returned (.bool r) ∧ w = w' := by
  subst h
  by_cases h1 : 1 ≤ a
  · by_cases h2 : a ≤ 24
    all_goals go_enter Try.func296, Try.ntmps296
    all_goals go_wp2
    all_goals go_ret
    all_goals exact ⟨by simp [rtB, h1, h2], rfl⟩
  · go_enter Try.func296, Try.ntmps296
    go_wp2
    go_ret
    exact ⟨by simp [rtB]; omega, rfl⟩
set_option maxHeartbeats 800000 in
theorem leverSound_any (k a b : Int) (w : World) : Calls Try.prog 295 #[.agg #[.int .i64 k, .int .i64 a, .int .i64 b]] w fun e w' => e = .returned (.bool (twoB a b)) ∧ Below w.heap.size w w' := by
  unfold twoB
  have I1 := Lib.hid (fun w => isRatio_is a _ rfl w)
  have I2 := Lib.hid (fun w => isRatio_is b _ rfl w)
  generalize rtB a = x at *
  generalize rtB b = y at *
  cases x with
  | false =>
    go_enter Try.func295, Try.ntmps295
    go_wp2_with fail
    refine (I1.out _).mono ?_
    rintro e w' ⟨rfl, rfl⟩
    go_wp2
    go_ret
    exact ⟨rfl, below_one _ _⟩
  | true =>
    cases y with
    | false =>
      go_enter Try.func295, Try.ntmps295
      go_wp2_with fail
      refine (I1.out _).mono ?_
      rintro e w' ⟨rfl, rfl⟩
      go_wp2_with fail
      refine (I2.out _).mono ?_
      rintro e w' ⟨rfl, rfl⟩
      go_wp2
      go_ret
      exact ⟨rfl, below_one _ _⟩
    | true =>
      go_enter Try.func295, Try.ntmps295
      go_wp2_with fail
      refine (I1.out _).mono ?_
      rintro e w' ⟨rfl, rfl⟩
      go_wp2_with fail
      refine (I2.out _).mono ?_
      rintro e w' ⟨rfl, rfl⟩
      go_wp2
      go_ret
      exact ⟨rfl, below_one _ _⟩
set_option maxHeartbeats 800000 in
theorem tackleSound_any (k a b : Int) (w : World) : Calls Try.prog 298 #[.agg #[.int .i64 k, .int .i64 a, .int .i64 b]] w fun e w' => e = .returned (.bool (rtB a && decide (b = 0))) ∧ Below w.heap.size w w' := by
  have I1 := Lib.hid (fun w => isRatio_is a _ rfl w)
  generalize rtB a = x at *
  cases x with
  | false =>
    go_enter Try.func298, Try.ntmps298
    go_wp2_with fail
    refine (I1.out _).mono ?_
    rintro e w' ⟨rfl, rfl⟩
    go_wp2
    go_ret
    exact ⟨rfl, below_one _ _⟩
  | true =>
    go_enter Try.func298, Try.ntmps298
    go_wp2_with fail
    refine (I1.out _).mono ?_
    rintro e w' ⟨rfl, rfl⟩
    go_wp2
    go_ret
    exact ⟨rfl, below_one _ _⟩
set_option maxHeartbeats 800000 in
theorem rampSound_any (k a b : Int) (w : World) : Calls Try.prog 300 #[.agg #[.int .i64 k, .int .i64 a, .int .i64 b]] w fun e w' => e = .returned (.bool (twoB a b && decide (b ≤ a))) ∧ Below w.heap.size w w' := by
  unfold twoB
  have I1 := Lib.hid (fun w => isRatio_is a _ rfl w)
  have I2 := Lib.hid (fun w => isRatio_is b _ rfl w)
  generalize rtB a = x at *
  generalize rtB b = y at *
  cases x with
  | false =>
    go_enter Try.func300, Try.ntmps300
    go_wp2_with fail
    refine (I1.out _).mono ?_
    rintro e w' ⟨rfl, rfl⟩
    go_wp2
    go_ret
    exact ⟨rfl, below_one _ _⟩
  | true =>
    cases y with
    | false =>
      go_enter Try.func300, Try.ntmps300
      go_wp2_with fail
      refine (I1.out _).mono ?_
      rintro e w' ⟨rfl, rfl⟩
      go_wp2_with fail
      refine (I2.out _).mono ?_
      rintro e w' ⟨rfl, rfl⟩
      go_wp2
      go_ret
      exact ⟨rfl, below_one _ _⟩
    | true =>
      go_enter Try.func300, Try.ntmps300
      go_wp2_with fail
      refine (I1.out _).mono ?_
      rintro e w' ⟨rfl, rfl⟩
      go_wp2_with fail
      refine (I2.out _).mono ?_
      rintro e w' ⟨rfl, rfl⟩
      go_wp2
      go_ret
      exact ⟨rfl, below_one _ _⟩
set_option maxHeartbeats 800000 in
theorem twinSound_any (k a b : Int) (w : World) : Calls Try.prog 302 #[.agg #[.int .i64 k, .int .i64 a, .int .i64 b]] w fun e w' => e = .returned (.bool (twoB a b && decide (b < a))) ∧ Below w.heap.size w w' := by
  unfold twoB
  have I1 := Lib.hid (fun w => isRatio_is a _ rfl w)
  have I2 := Lib.hid (fun w => isRatio_is b _ rfl w)
  generalize rtB a = x at *
  generalize rtB b = y at *
  cases x with
  | false =>
    go_enter Try.func302, Try.ntmps302
    go_wp2_with fail
    refine (I1.out _).mono ?_
    rintro e w' ⟨rfl, rfl⟩
    go_wp2
    go_ret
    exact ⟨rfl, below_one _ _⟩
  | true =>
    cases y with
    | false =>
      go_enter Try.func302, Try.ntmps302
      go_wp2_with fail
      refine (I1.out _).mono ?_
      rintro e w' ⟨rfl, rfl⟩
      go_wp2_with fail
      refine (I2.out _).mono ?_
      rintro e w' ⟨rfl, rfl⟩
      go_wp2
      go_ret
      exact ⟨rfl, below_one _ _⟩
    | true =>
      go_enter Try.func302, Try.ntmps302
      go_wp2_with fail
      refine (I1.out _).mono ?_
      rintro e w' ⟨rfl, rfl⟩
      go_wp2_with fail
      refine (I2.out _).mono ?_
      rintro e w' ⟨rfl, rfl⟩
      go_wp2
      go_ret
      exact ⟨rfl, below_one _ _⟩
set_option maxHeartbeats 800000 in
theorem leverGain_any (k a b : Int) (w : World) (ha : 1 ≤ a ∧ a ≤ 24) (hb : 1 ≤ b ∧ b ≤ 24) : Calls Try.prog 294 #[.agg #[.int .i64 k, .int .i64 a, .int .i64 b]] w fun e w' => e = .returned (.agg #[.int .i64 (cutA (a) (b)), .int .i64 (cutB (a) (b))]) ∧ Below w.heap.size w w' := by
  have M := Lib.hid (fun w => lowest_any (a) (b) w (by omega) (by omega) (by omega) (by omega))
  obtain ⟨x, hx⟩ : ∃ x, cutA (a) (b) = x := ⟨_, rfl⟩
  obtain ⟨y, hy⟩ : ∃ y, cutB (a) (b) = y := ⟨_, rfl⟩
  rw [hx, hy] at M ⊢
  obtain ⟨a0, a1⟩ := ha
  obtain ⟨b0, b1⟩ := hb
  clear hx hy
  go_enter Try.func294, Try.ntmps294
  go_wp2_with fail
  refine (M.out _).mono ?_
  rintro e w1 ⟨rfl, l⟩
  have GC := Lib.hid (gn_cells l)
  obtain ⟨_, ⟨c1, c2, f1, f2⟩, LL⟩ := GC.out
  have TS := Lib.hid (two_set w1 (w.heap.size + 1) 0 (.int .i64 x) (.int .i64 y) c1 c2)
  have L := Lib.hid LL
  clear LL GC l M
  go_wp2
  obtain ⟨q0, q1, _⟩ := TS.out
  rw [Nat.zero_add] at q0 q1
  exact bodyPost_ret (v := .agg #[.int .i64 x, .int .i64 y]) (by simp [results, Try.results294, go_sem, q0, q1]) rfl ⟨rfl, two_up L.out _ _⟩
set_option maxHeartbeats 800000 in
theorem rampGain_any (k a b : Int) (w : World) (ha : 1 ≤ a ∧ a ≤ 24) (hb : 1 ≤ b ∧ b ≤ 24) : Calls Try.prog 299 #[.agg #[.int .i64 k, .int .i64 a, .int .i64 b]] w fun e w' => e = .returned (.agg #[.int .i64 (cutA (a) (b)), .int .i64 (cutB (a) (b))]) ∧ Below w.heap.size w w' := by
  have M := Lib.hid (fun w => lowest_any (a) (b) w (by omega) (by omega) (by omega) (by omega))
  obtain ⟨x, hx⟩ : ∃ x, cutA (a) (b) = x := ⟨_, rfl⟩
  obtain ⟨y, hy⟩ : ∃ y, cutB (a) (b) = y := ⟨_, rfl⟩
  rw [hx, hy] at M ⊢
  obtain ⟨a0, a1⟩ := ha
  obtain ⟨b0, b1⟩ := hb
  clear hx hy
  go_enter Try.func299, Try.ntmps299
  go_wp2_with fail
  refine (M.out _).mono ?_
  rintro e w1 ⟨rfl, l⟩
  have GC := Lib.hid (gn_cells l)
  obtain ⟨_, ⟨c1, c2, f1, f2⟩, LL⟩ := GC.out
  have TS := Lib.hid (two_set w1 (w.heap.size + 1) 0 (.int .i64 x) (.int .i64 y) c1 c2)
  have L := Lib.hid LL
  clear LL GC l M
  go_wp2
  obtain ⟨q0, q1, _⟩ := TS.out
  rw [Nat.zero_add] at q0 q1
  exact bodyPost_ret (v := .agg #[.int .i64 x, .int .i64 y]) (by simp [results, Try.results299, go_sem, q0, q1]) rfl ⟨rfl, two_up L.out _ _⟩
set_option maxHeartbeats 800000 in
theorem twinGain_any (k a b : Int) (w : World) (ha : 1 ≤ a ∧ a ≤ 24) (hb : 1 ≤ b ∧ b ≤ 24) (hl : b < a) : Calls Try.prog 301 #[.agg #[.int .i64 k, .int .i64 a, .int .i64 b]] w fun e w' => e = .returned (.agg #[.int .i64 (cutA (2 * a) (a - b)), .int .i64 (cutB (2 * a) (a - b))]) ∧ Below w.heap.size w w' := by
  have M := Lib.hid (fun w => lowest_any (2 * a) (a - b) w (by omega) (by omega) (by omega) (by omega))
  obtain ⟨x, hx⟩ : ∃ x, cutA (2 * a) (a - b) = x := ⟨_, rfl⟩
  obtain ⟨y, hy⟩ : ∃ y, cutB (2 * a) (a - b) = y := ⟨_, rfl⟩
  rw [hx, hy] at M ⊢
  obtain ⟨a0, a1⟩ := ha
  obtain ⟨b0, b1⟩ := hb
  clear hx hy
  go_enter Try.func301, Try.ntmps301
  go_wp2_with fail
  refine (M.out _).mono ?_
  rintro e w1 ⟨rfl, l⟩
  have GC := Lib.hid (gn_cells l)
  obtain ⟨_, ⟨c1, c2, f1, f2⟩, LL⟩ := GC.out
  have TS := Lib.hid (two_set w1 (w.heap.size + 1) 0 (.int .i64 x) (.int .i64 y) c1 c2)
  have L := Lib.hid LL
  clear LL GC l M
  go_wp2
  obtain ⟨q0, q1, _⟩ := TS.out
  rw [Nat.zero_add] at q0 q1
  exact bodyPost_ret (v := .agg #[.int .i64 x, .int .i64 y]) (by simp [results, Try.results301, go_sem, q0, q1]) rfl ⟨rfl, two_up L.out _ _⟩
theorem tackleGain_any (k a b : Int) (w : World) : Calls Try.prog 297 #[.agg #[.int .i64 k, .int .i64 a, .int .i64 b]] w fun e w' => e = .returned (.agg #[.int .i64 a, .int .i64 1]) ∧ Below w.heap.size w w' := by
  go_enter Try.func297, Try.ntmps297
  go_wp2
  exact bodyPost_ret (v := .agg #[.int .i64 a, .int .i64 1]) (by simp [results, Try.results297, go_sem]) rfl ⟨rfl, lo_on (below_one _ _) (below_one _ _)⟩
end Go.Proofs.Ytgjchkcjlmklbaa
