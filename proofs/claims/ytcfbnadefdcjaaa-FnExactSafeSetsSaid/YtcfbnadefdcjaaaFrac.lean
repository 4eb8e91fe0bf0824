/- The model's fractions. -/
import Derived.Test.YtcfbnadefdcjaaaLoadTo
import Derived.StillTailTactics
namespace Go.Proofs.Ytcfbnadefdcjaaa
open Go.RowKit
theorem l1Most_any (a b : Int) (w : World) : Calls Try.prog 116 #[.int .i64 a, .int .i64 b] w fun e w' => e = .returned (.int .i64 (if b < a then a else b)) ∧ w = w' := by
  by_cases h : b < a
  all_goals go_enter Try.func116, Try.ntmps116
  all_goals go_wp2
  all_goals go_ret
  all_goals exact ⟨rfl, rfl⟩
theorem l2Gcd_any (a b : Nat) (w : World) (ha : a ≤ 1000000000000000) (hb : b ≤ 1000000000000000) : Calls Try.prog 216 #[.int .i64 (a : Int), .int .i64 (b : Int)] w fun e w' => e = .returned (.int .i64 (Nat.gcd a b : Nat)) ∧ Below w.heap.size w w' := by
  go_enter Try.func216, Try.ntmps216
  go_wp2
  go_loopw [0, 1] (fun u v wr => ∃ x y d : Nat, u = .int .i64 (x : Int) ∧ v = .int .i64 (y : Int) ∧ x ≤ 1000000000000000 ∧ y ≤ 1000000000000000 ∧ Nat.gcd x y = Nat.gcd a b ∧ wr = w.drewN d) (fun _ v _ => (intOf v).toNat)
  case atStart => exact ⟨a, b, 0, rfl, rfl, ha, hb, rfl, rfl⟩
  case round =>
    obtain ⟨x, y, d, rfl, rfl, hx, hy, hg, rfl⟩ := hrel
    by_cases h0 : 0 < y
    · have h0' : (0 : Int) < (y : Int) := by omega
      have hy0 : (y : Int) ≠ 0 := by omega
      have hlt : x % y < y := Nat.mod_lt _ h0
      go_wp2
      go_quiet (fail)
      go_wp2
      go_roundw
      case rel => exact ⟨y, x % y, d + nq, rfl, by rw [Int.natCast_emod], hy, by omega, by rw [gc_step]; exact hg, by simp⟩
      case measure => simp only [intOf]; rw [← Int.natCast_emod]; omega
    · obtain rfl : y = 0 := by omega
      rw [Nat.gcd_zero_right] at hg
      go_wp2
      go_ret
      exact ⟨by rw [← hg]; rfl, drewN_below w d⟩
theorem tdiv_small (a : Int) (g : Nat) : (Int.tdiv a (g : Int)).natAbs ≤ a.natAbs := by
  rw [Int.natAbs_tdiv]
  exact Nat.div_le_self _ _
set_option maxRecDepth 100000 in
set_option maxHeartbeats 800000 in
theorem l2Cut_any (a b : Int) (w : World) (hb : 0 < b) (a0 : -1000000000000000 ≤ a) (a1 : a ≤ 1000000000000000) (b1 : b ≤ 1000000000000000) :
    Calls Try.prog 175 #[.int .i64 a, .int .i64 b] w fun e w' => e = .returned (.agg #[.int .i64 (cutA a b), .int .i64 (cutB a b)]) ∧ Below w.heap.size w w' := by
  have M := l1Most_any a (-a)
  have hx : (if -a < a then a else -a) = (a.natAbs : Int) := by split <;> omega
  rw [hx] at M
  have MM := Lib.hid M
  have G := fun w => l2Gcd_any a.natAbs b.natAbs w (by omega) (by omega)
  rw [show ((b.natAbs : Nat) : Int) = b by omega] at G
  have GG := Lib.hid G
  have hg := gc_pos a b hb
  have HA := Lib.hid (show cutA a b = Int.tdiv a (Nat.gcd a.natAbs b.natAbs : Nat) from rfl)
  have HB := Lib.hid (show cutB a b = Int.tdiv b (Nat.gcd a.natAbs b.natAbs : Nat) from rfl)
  have hle : Nat.gcd a.natAbs b.natAbs ≤ b.natAbs := Nat.gcd_le_right _ (by omega)
  unfold gcF at hg
  generalize Nat.gcd a.natAbs b.natAbs = g at *
  have hg0 : (g : Int) ≠ 0 := by omega
  clear M G hx
  go_enter Try.func175, Try.ntmps175
  go_wp2_with fail
  refine (MM.out _).mono ?_
  rintro e w' ⟨rfl, rfl⟩
  go_wp2_with fail
  refine (GG.out _).mono ?_
  rintro e w1 ⟨rfl, l1⟩
  have hb0 : w.heap.size < (w.alloc (.cells #[.int .i64 0, .int .i64 0] 57)).heap.size := by simp
  have c1 : w1.cell? ⟨w.heap.size, 0, none⟩ = some (.int .i64 0) := by rw [l1.cell (p := ⟨w.heap.size, 0, none⟩) hb0, World.cell?_alloc_at _ _ _ _ rfl]; rfl
  have c2 : w1.cell? ⟨w.heap.size, 1, none⟩ = some (.int .i64 0) := by rw [l1.cell (p := ⟨w.heap.size, 1, none⟩) hb0, World.cell?_alloc_at _ _ _ _ rfl]; rfl
  have f1 : w1.frozen? ⟨w.heap.size, 0, none⟩ = false := by rw [l1.frozen (p := ⟨w.heap.size, 0, none⟩) hb0]; exact World.frozen?_alloc_at _ _ _ _ rfl
  have f2 : w1.frozen? ⟨w.heap.size, 1, none⟩ = false := by rw [l1.frozen (p := ⟨w.heap.size, 1, none⟩) hb0]; exact World.frozen?_alloc_at _ _ _ _ rfl
  have L1 := Lib.hid l1
  clear l1 GG MM
  go_wp2_with fail
  have TA := tdiv_small a g
  have TB := tdiv_small b g
  obtain ⟨u, hu⟩ : ∃ u, Int.tdiv a (g : Int) = u := ⟨_, rfl⟩
  obtain ⟨v, hv⟩ : ∃ v, Int.tdiv b (g : Int) = v := ⟨_, rfl⟩
  rw [hu] at TA
  rw [hv] at TB
  have ta0 : -9223372036854775808 ≤ u := by omega
  have ta1 : u ≤ 9223372036854775807 := by omega
  have tb0 : -9223372036854775808 ≤ v := by omega
  have tb1 : v ≤ 9223372036854775807 := by omega
  have hgn : ¬ g = 0 := by omega
  have hw1 : IntKind.i64.wrap u = u := by rw [IntKind.wrap_i64]; omega
  have hw2 : IntKind.i64.wrap v = v := by rw [IntKind.wrap_i64]; omega
  refine wp_region_still_tail 7 (by kernel_rfl) (by kernel_rfl) ?_
  simp only [List.take_succ_cons, List.take_zero, List.drop_succ_cons, List.drop_zero]
  change wpStill _ _ w1.drew _ _ _
  repeat still_step
  refine wpStill_nil ?_
  change wpList _ _ _ _ _ w1.drew
  have TS := Lib.hid (two_set w1 w.heap.size 0 (.int .i64 u) (.int .i64 v) c1 c2)
  go_wp2
  obtain ⟨q0, q1, _⟩ := TS.out
  rw [Nat.zero_add] at q0 q1
  refine bodyPost_ret (v := .agg #[.int .i64 u, .int .i64 v]) (by simp [results, Try.results175, go_sem, q0, q1]) rfl ⟨by rw [HA.out, HB.out, hu, hv], ?_⟩
  have LL : Below w.heap.size w w1 := ((Below.refl _ _).alloc (Nat.le_refl _) _).trans (L1.out.mono (by simp))
  exact ((LL.setCell (p := ⟨w.heap.size, 0, none⟩) (Nat.le_refl _) _).setCell (p := ⟨w.heap.size, 1, none⟩) (Nat.le_refl _) _).drew
end Go.Proofs.Ytcfbnadefdcjaaa
