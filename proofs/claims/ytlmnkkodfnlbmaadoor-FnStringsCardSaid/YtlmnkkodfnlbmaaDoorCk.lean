/- The contracts of the checksum: the program's and the model's. -/
import Derived.Test.YtlmnkkodfnlbmaaDoorRows
import Derived.Lib.Hide
import Derived.Test.YtlmnkkodfnlbmaaDoorCkPlain
namespace Go.Proofs.YtlmnkkodfnlbmaaDoor
open Go.RowKit
set_option maxHeartbeats 400000 in
theorem l1Sum_any (s : ByteArray) (w : World) (hs : s.size ≤ 1048576) :
    Calls Tryd.prog 39 #[.string s] w fun e w' => e = .returned (.int .i64 (ck s.data.toList)) ∧ w = w' := by
  go_enter Tryd.func39, Tryd.ntmps39
  go_wp2
  go_loop [3, 4] (fun n i => ∃ k : Nat, k ≤ s.size ∧ i = .int .i64 k ∧ n = .int .i64 (ck (s.data.toList.take k))) (fun _ i => s.size - (intOf i).toNat)
  case atStart => exact ⟨0, Nat.zero_le _, rfl, rfl⟩
  case round =>
    obtain ⟨k, hk, rfl, rfl⟩ := hrel
    have hd := ck_bd (s.data.toList.take k)
    have hd1 := hd.1
    have hd2 := hd.2
    clear hd
    by_cases hlt : k < s.size
    · have hb := byte_lt s[k]
      have HS := Lib.hid (ck_take_succ s k hlt)
      go_wp2
      go_round
      case rel => exact ⟨k + 1, by omega, by go_num, by rw [← HS.out]⟩
      case measure => simp [intOf]; omega
    · go_wp2
      go_ret
      exact ⟨ret_int (by rw [List.take_of_length_le (by simp; omega)]), rfl⟩
theorem implChecksum_no (s : ByteArray) (w : World) (h : 4000 < s.size) (hs : s.size ≤ 1048576) : Calls Tryd.prog 31 #[.string s] w fun e w' => e = .returned (.tuple #[.int .i64 0, .bool false]) ∧ w = w' := by
  go_enter Tryd.func31, Tryd.ntmps31
  go_wp2
  go_ret2
  exact ⟨rfl, rfl⟩
set_option maxHeartbeats 400000 in
theorem implChecksum_yes (s : ByteArray) (w : World) (hs : s.size ≤ 4000) : Calls Tryd.prog 31 #[.string s] w fun e w' => e = .returned (.tuple #[.int .i64 (ck s.data.toList), .bool true]) ∧ w = w' := by
  go_enter Tryd.func31, Tryd.ntmps31
  go_wp2
  go_loop [4, 11] (fun n i => ∃ k : Nat, k ≤ s.size ∧ i = .int .i64 k ∧ n = .int .i64 (ck (s.data.toList.take k))) (fun _ i => s.size - (intOf i).toNat)
  case atStart => exact ⟨0, Nat.zero_le _, rfl, rfl⟩
  case round =>
    obtain ⟨k, hk, rfl, rfl⟩ := hrel
    have hd := ck_bd (s.data.toList.take k)
    have hd1 := hd.1
    have hd2 := hd.2
    clear hd
    by_cases hlt : k < s.size
    · have hb := byte_lt s[k]
      have HS := Lib.hid (ck_take_succ s k hlt)
      go_wp2
      go_round
      case rel => exact ⟨k + 1, by omega, by go_num, by rw [← HS.out]⟩
      case measure => simp [intOf]; omega
    · go_wp2
      go_ret2
      obtain rfl : k = s.size := by omega
      rw [take_all]
      exact ⟨rfl, rfl⟩
end Go.Proofs.YtlmnkkodfnlbmaaDoor
