/- The contract of l1Stands: does a byte stand in a text? -/
import Derived.Test.YtlmnkkodfnlbmaaRows
import Derived.Test.YtlmnkkodfnlbmaaSealPlain
namespace Go.Proofs.Ytlmnkkodfnlbmaa
open Go.RowKit
set_option maxHeartbeats 400000 in
theorem l1Stands_any (s : ByteArray) (b : Int) (w : World) (hs : s.size ≤ 1048576) :
    Calls Try.prog 32 #[.string s, .int .u8 b] w fun e w' => e = .returned (.bool (has b s.data.toList)) ∧ w = w' := by
  go_enter Try.func32, Try.ntmps32
  go_wp2
  go_loop [5] (fun i => ∃ k : Nat, k ≤ s.size ∧ i = .int .i64 k ∧ Hid (has b (s.data.toList.take k) = false)) (fun i => s.size - (intOf i).toNat)
  case atStart => exact ⟨0, Nat.zero_le _, rfl, Lib.hid rfl⟩
  case round =>
    obtain ⟨k, hk, rfl, hh⟩ := hrel
    by_cases hlt : k < s.size
    · have hsn := has_snoc b (s.data.toList.take k) s[k]
      rw [← take_snoc s k hlt, hh.out, Bool.false_or] at hsn
      cases hc : ((s[k].toNat : Int) == b) with
      | true =>
        have HS := Lib.hid (show has b s.data.toList = true by
          rw [hc] at hsn
          unfold has at *
          rw [List.any_eq_true] at *
          obtain ⟨x, hx, hy⟩ := hsn
          exact ⟨x, List.mem_of_mem_take hx, hy⟩)
        clear hsn hh
        go_wp2
        go_ret
        exact ⟨by rw [HS.out]; rfl, rfl⟩
      | false =>
        have HS := Lib.hid (hsn.trans hc)
        clear hsn hh
        go_wp2
        go_round
        case rel => exact ⟨k + 1, by omega, by go_num, HS⟩
        case measure => simp [intOf]; omega
    · go_wp2
      go_ret
      obtain rfl : k = s.size := by omega
      rw [take_all] at hh
      exact ⟨by rw [hh.out]; rfl, rfl⟩
end Go.Proofs.Ytlmnkkodfnlbmaa
