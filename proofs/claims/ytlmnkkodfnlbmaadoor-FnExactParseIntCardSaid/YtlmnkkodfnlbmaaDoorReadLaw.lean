/- The walk of the law on ParseInt. -/
import Derived.Test.YtlmnkkodfnlbmaaDoorRead2
namespace Go.Proofs.YtlmnkkodfnlbmaaDoor
open Go.RowKit
theorem exParse_walk (s : ByteArray) (w : World) (w0 : s.size ≤ maxLen) (ht : Tab w) : Calls Tryd.prog 5 #[.string s] w fun e w' => e = .returned (.bool true) ∧ Lo w w' := by
  unfold maxLen at w0
  by_cases h : 1048576 < s.size
  · go_enter Tryd.func5, Tryd.ntmps5
    go_wp2
    go_ret
    exact ⟨rfl, Below.refl _ _⟩
  · go_enter Tryd.func5, Tryd.ntmps5
    go_wp2_with fail
    refine (specParse_any _ _ (by omega)).mono ?_
    rintro e w1 ⟨r, hr, rfl, l1⟩
    cases r with
    | none =>
      unfold retOpt
      go_wp2_with fail
      refine (implParse_any _ _ (by omega) (ht.lo l1)).mono ?_
      rintro e w2 ⟨r2, hr2, rfl, l2⟩
      obtain rfl := isRead_one hr hr2
      unfold retOpt
      go_wp2
      go_ret
      exact ⟨rfl, lo_trans l1 l2⟩
    | some n =>
      unfold retOpt
      go_wp2_with fail
      refine (implParse_any _ _ (by omega) (ht.lo l1)).mono ?_
      rintro e w2 ⟨r2, hr2, rfl, l2⟩
      obtain rfl := isRead_one hr hr2
      unfold retOpt
      go_wp2
      go_ret
      exact ⟨rfl, lo_trans l1 l2⟩
end Go.Proofs.YtlmnkkodfnlbmaaDoor
