/- The walk of the law on the checksum. -/
import Derived.Test.YtlmnkkodfnlbmaaCk
namespace Go.Proofs.Ytlmnkkodfnlbmaa
open Go.RowKit
theorem exChecksum_walk (s : ByteArray) (w : World) (hs : s.size ≤ maxLen) : Calls Try.prog 7 #[.string s] w fun e w' => e = .returned (.bool true) ∧ Grown w w' := by
  unfold maxLen at hs
  by_cases g0 : 1048576 < s.size
  · go_enter Try.func7, Try.ntmps7
    go_wp2
    go_ret
    exact ⟨rfl, Grown.refl _⟩
  · by_cases g1 : 4000 < s.size
    · go_enter Try.func7, Try.ntmps7
      go_wp2_with (first | (go_at_call 23; refine (specChecksum_no _ _ (by omega) (by omega)).mono ?_; rintro e w' ⟨rfl, rfl⟩) | (go_at_call 24; refine (implChecksum_no _ _ (by omega) (by omega)).mono ?_; rintro e w' ⟨rfl, rfl⟩))
      go_ret
      exact ⟨rfl, Grown.refl _⟩
    · go_enter Try.func7, Try.ntmps7
      go_wp2_with (first | (go_at_call 23; refine (specChecksum_yes _ _ (by omega)).mono ?_; rintro e w' ⟨rfl, rfl⟩) | (go_at_call 24; refine (implChecksum_yes _ _ (by omega)).mono ?_; rintro e w' ⟨rfl, rfl⟩))
      go_ret
      exact ⟨rfl, Grown.refl _⟩
end Go.Proofs.Ytlmnkkodfnlbmaa
