/- The contracts of the model's centre, reactions and narrow base, and of the law's own comparison of two fractions. -/
import Derived.Test.YtnadchgekfljkaaSpec1
namespace Go.Proofs.Ytnadchgekfljkaa
open Go.RowKit
set_option maxHeartbeats 800000 in
theorem eqA2_same (p q : Int) (w : World) : Calls Try.prog 143 #[.agg #[.int .i64 p, .int .i64 q], .agg #[.int .i64 p, .int .i64 q]] w fun e w' => e = .returned (.bool true) ∧ Below w.heap.size w w' := by
  go_enter Try.func143, Try.ntmps143
  go_wp2
  refine wp_loop_rounds 3 ?_
  rw [rounds_succ]
  go_wp2
  go_quiet (fail)
  go_wp2
  rw [rounds_succ]
  go_wp2
  go_quiet (fail)
  go_wp2
  rw [rounds_succ]
  go_wp2
  go_ret
  exact ⟨rfl, (alloc_two _ _ _).trans ((drewN_below _ _).mono (by simp; omega))⟩
end Go.Proofs.Ytnadchgekfljkaa
