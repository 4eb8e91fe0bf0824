/- The contracts of the program's own functions on one row and a base: fractions, centre, sides, reactions. -/
import Derived.Test.YtcfbnadefdcjaaaGcd
namespace Go.Proofs.Ytcfbnadefdcjaaa
open Go.RowKit
set_option maxRecDepth 100000 in
set_option maxHeartbeats 800000 in
theorem lowest_any (a b : Int) (w : World) (hb : 0 < b) (a0 : -1000000000000000 ≤ a) (a1 : a ≤ 1000000000000000) (b1 : b ≤ 1000000000000000) :
    Calls Try.prog 183 #[.int .i64 a, .int .i64 b] w fun e w' => e = .returned (.agg #[.int .i64 (cutA a b), .int .i64 (cutB a b)]) ∧ Below w.heap.size w w' := by
  have hg := gc_pos a b hb
  have HA := Lib.hid (show cutA a b = Int.tdiv a (Nat.gcd a.natAbs b.natAbs : Nat) from rfl)
  have HB := Lib.hid (show cutB a b = Int.tdiv b (Nat.gcd a.natAbs b.natAbs : Nat) from rfl)
  have C := Lib.hid (fun v => common_any a b v (by omega) (by omega))
  unfold gcF at hg
  generalize Nat.gcd a.natAbs b.natAbs = x at *
  go_enter Try.func183, Try.ntmps183
  go_wp2_with fail
  refine (C.out _).mono ?_
  rintro e w1 ⟨rfl, d, hw1⟩
  have c1 : w1.cell? ⟨w.heap.size, 0, none⟩ = some (.int .i64 0) := by rw [hw1]; exact (World.cell?_alloc_at _ _ _ _ rfl).trans rfl
  have c2 : w1.cell? ⟨w.heap.size, 1, none⟩ = some (.int .i64 0) := by rw [hw1]; exact (World.cell?_alloc_at _ _ _ _ rfl).trans rfl
  have f1 : w1.frozen? ⟨w.heap.size, 0, none⟩ = false := by rw [hw1]; exact World.frozen?_alloc_at _ _ _ _ rfl
  have f2 : w1.frozen? ⟨w.heap.size, 1, none⟩ = false := by rw [hw1]; exact World.frozen?_alloc_at _ _ _ _ rfl
  have L1 := Lib.hid (show Below w.heap.size w w1 by rw [hw1]; exact ((Below.refl _ _).alloc (Nat.le_refl _) _).trans ((drewN_below _ d).mono (by simp)))
  clear hw1 C
  go_wp2
  have TA := tdiv_small a x
  have TB := tdiv_small b x
  obtain ⟨u, hu⟩ : ∃ u, Int.tdiv a (x : Int) = u := ⟨_, rfl⟩
  obtain ⟨v, hv⟩ : ∃ v, Int.tdiv b (x : Int) = v := ⟨_, rfl⟩
  rw [hu] at TA
  rw [hv] at TB
  have ta0 : -9223372036854775808 ≤ u := by omega
  have ta1 : u ≤ 9223372036854775807 := by omega
  have tb0 : -9223372036854775808 ≤ v := by omega
  have tb1 : v ≤ 9223372036854775807 := by omega
  have hgn : ¬ x = 0 := by omega
  have hg0 : (x : Int) ≠ 0 := by omega
  have hw1 : IntKind.i64.wrap u = u := by rw [IntKind.wrap_i64]; omega
  have hw2 : IntKind.i64.wrap v = v := by rw [IntKind.wrap_i64]; omega
  refine wp_region_still_tail 7 (by kernel_rfl) (by kernel_rfl) ?_
  simp only [List.take_succ_cons, List.take_zero, List.drop_succ_cons, List.drop_zero]
  change wpStill _ _ w1.drew _ _ _
  repeat still_step
  refine wpStill_nil ?_
  change wpList _ _ _ _ _ w1.drew
  have TS := Lib.hid (two_set w1 w.heap.size 0 (.int .i64 u) (.int .i64 v) c1 c2)
  go_wp2
  obtain ⟨q0, q1, _⟩ := TS.out
  rw [Nat.zero_add] at q0 q1
  refine bodyPost_ret (v := .agg #[.int .i64 u, .int .i64 v]) (by simp [results, Try.results183, go_sem, q0, q1]) rfl ⟨by rw [HA.out, HB.out, hu, hv], ?_⟩
  exact ((L1.out.setCell (p := ⟨w.heap.size, 0, none⟩) (Nat.le_refl _) _).setCell (p := ⟨w.heap.size, 1, none⟩) (Nat.le_refl _) _).drew
end Go.Proofs.Ytcfbnadefdcjaaa
