/- The model's fractions. -/
import Derived.Test.YthncgcdnljoakaaLoadTo
import Derived.StillTailTactics
namespace Go.Proofs.Ythncgcdnljoakaa
open Go.RowKit
theorem l1Most_any (a b : Int) (w : World) : Calls Try.prog 91 #[.int .i64 a, .int .i64 b] w fun e w' => e = .returned (.int .i64 (if b < a then a else b)) ∧ w = w' := by
  by_cases h : b < a
  all_goals go_enter Try.func91, Try.ntmps91
  all_goals go_wp2
  all_goals go_ret
  all_goals exact ⟨rfl, rfl⟩
theorem tdiv_small (a : Int) (g : Nat) : (Int.tdiv a (g : Int)).natAbs ≤ a.natAbs := by
  rw [Int.natAbs_tdiv]
  exact Nat.div_le_self _ _
end Go.Proofs.Ythncgcdnljoakaa
