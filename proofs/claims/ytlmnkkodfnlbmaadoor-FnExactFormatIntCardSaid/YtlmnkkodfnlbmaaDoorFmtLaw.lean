/- The walk of the law on FormatInt. -/
import Derived.Test.YtlmnkkodfnlbmaaDoorFmt
namespace Go.Proofs.YtlmnkkodfnlbmaaDoor
open Go.RowKit
theorem exFmt_walk (a : Int) (w : World) (ht : Tab w) : Calls Tryd.prog 4 #[.int .i64 a] w fun e w' => e = .returned (.bool true) ∧ Lo w w' := by
  by_cases h : -999999 ≤ a ∧ a ≤ 999999
  · go_enter Tryd.func4, Tryd.ntmps4
    go_wp2_with fail
    refine (specFmt_yes _ _ h.1 h.2).mono ?_
    rintro e w1 ⟨rfl, l1⟩
    go_wp2_with fail
    refine (implFmt_yes _ _ h.1 h.2 (ht.lo l1)).mono ?_
    rintro e w2 ⟨rfl, l2⟩
    go_wp2
    go_ret
    exact ⟨rfl, lo_trans l1 l2⟩
  · go_enter Tryd.func4, Tryd.ntmps4
    go_wp2_with fail
    refine (specFmt_no _ _ h).mono ?_
    rintro e w1 ⟨rfl, l1⟩
    go_wp2_with fail
    refine (implFmt_no _ _ h).mono ?_
    rintro e w2 ⟨rfl, l2⟩
    go_wp2
    go_ret
    exact ⟨rfl, lo_trans l1 l2⟩
end Go.Proofs.YtlmnkkodfnlbmaaDoor
