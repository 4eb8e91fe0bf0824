/- Tables of lists of places whose every list is the call's own. -/
import Derived.Test.YtgjchkcjlmklbaaSr5
import Derived.Test.YtgjchkcjlmklbaaSr3
import Derived.Test.YtgjchkcjlmklbaaTabM
namespace Go.Proofs.Ytgjchkcjlmklbaa
open Go.RowKit
theorem eq_ratio (a b c d : Int) (w : World) : (Op.equalIn 10000 138 (.agg #[.int .i64 a, .int .i64 b]) (.agg #[.int .i64 c, .int .i64 d])).run Try.prog w = .ok ((a == c) && (b == d)) w := by
  obtain ⟨i0, hi, _⟩ := info_parts infoInt
  have hc : Try.prog.cellsOf 3 = 1 := by kernel_rfl
  have hk : Try.prog.plainKey 3 = true := by kernel_rfl
  have p0 : ∀ x y : Int, (part 3 #[.int .i64 x, .int .i64 y] (0 * 1)).run Try.prog w = .ok (.int .i64 x) w := fun x y => run_part_plain w hk rfl
  have p1 : ∀ x y : Int, (part 3 #[.int .i64 x, .int .i64 y] 1).run Try.prog w = .ok (.int .i64 y) w := fun x y => run_part_plain w hk rfl
  have q : ∀ x y : Int, (Op.equalIn 9999 3 (.int .i64 x) (.int .i64 y)).run Try.prog w = .ok (x == y) w := fun x y => run_equalIn_int w 9998 _ _ _ _ _ Try.underlying3
  rw [run_equalIn_array w 9999 _ _ Try.underlying138 hi, hc, show List.range 2 = [0, 1] from rfl]
  simp only [Op.eqItems, Sem.run_bind, p0, q, Result.andThen_ok]
  cases a == c with
  | false => simp
  | true =>
    simp only [Bool.not_true, Bool.false_eq_true, if_false, Sem.run_bind, p1, q, Result.andThen_ok]
    cases b == d <;> simp
/-- A fraction that is cut and that is an integer has the divisor 1. -/
def RedF (g : Int × Int) : Prop := ∀ n, g.1 = n * g.2 → g.2 = 1
theorem red_cut (a b : Int) (hb : 0 < b) : RedF (cutA a b, cutB a b) := by
  intro n h
  simp only at *
  have hm := cut_mul a b
  refine (cut_one a b hb).2 ⟨n, ?_⟩
  calc a = cutA a b * gcF a b := hm.1.symm
    _ = n * cutB a b * gcF a b := by rw [h]
    _ = n * (cutB a b * gcF a b) := Int.mul_assoc _ _ _
    _ = n * b := by rw [hm.2]
    _ = b * n := Int.mul_comm _ _
theorem red_ch {xs : List StageV} (h : allB xs = true) (h5 : xs.length ≤ 5) : RedF (chF xs) := by
  by_cases h0 : xs.length = 0
  · rw [List.length_eq_zero_iff.1 h0]
    intro n _
    rfl
  · obtain ⟨k, hk⟩ : ∃ k, xs.length = k + 1 := ⟨xs.length - 1, by omega⟩
    have st := ch_step h h5 (k := k) (by omega)
    have e := ch_take xs k (by omega)
    rw [← hk, List.take_length] at e
    rw [e]
    exact red_cut _ _ (by omega)
set_option maxHeartbeats 800000 in
theorem equals_any (g1 g2 n : Int) (w : World) (hred : RedF (g1, g2)) :
    Calls Try.prog 147 #[.agg #[.int .i64 g1, .int .i64 g2], .int .i64 n] w fun e w' => e = .returned (.bool (doesB true (g1, g2) n)) ∧ Below w.heap.size w w' := by
  have E : doesB true (g1, g2) n = ((g1 == n) && (g2 == 1)) := by
    unfold doesB
    simp only [Bool.not_true, Bool.false_and, Bool.or_false]
    by_cases h : g1 = n * g2
    · have h1 : g2 = 1 := hred n h
      subst h1
      rw [Int.mul_one] at h
      subst h
      simp
    · rw [decide_eq_false h]
      by_cases h2 : g2 = 1
      · subst h2
        rw [Int.mul_one] at h
        simp [h]
      · simp [h2]
  have Q := eq_ratio g1 g2 n 1
  rw [E]
  generalize ((g1 == n) && (g2 == 1)) = r at *
  clear E hred
  go_enter Try.func147, Try.ntmps147
  go_wp2
  go_ret
  exact ⟨rfl, below_one _ _⟩
end Go.Proofs.Ytgjchkcjlmklbaa
