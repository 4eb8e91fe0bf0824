/- The contracts of AppendChecksum and VerifyChecksum: the program's and the model's. -/
import Derived.Test.YtlmnkkodfnlbmaaDoorSealPlain
import Derived.Test.YtlmnkkodfnlbmaaDoorSplit
import Derived.Test.YtlmnkkodfnlbmaaDoorCk
import Derived.Test.YtlmnkkodfnlbmaaDoorFmt
namespace Go.Proofs.YtlmnkkodfnlbmaaDoor
open Go.RowKit
set_option maxHeartbeats 400000 in
theorem l1Stands_any (s : ByteArray) (b : Int) (w : World) (hs : s.size ≤ 1048576) :
    Calls Tryd.prog 32 #[.string s, .int .u8 b] w fun e w' => e = .returned (.bool (has b s.data.toList)) ∧ w = w' := by
  go_enter Tryd.func32, Tryd.ntmps32
  go_wp2
  go_loop [5] (fun i => ∃ k : Nat, k ≤ s.size ∧ i = .int .i64 k ∧ Hid (has b (s.data.toList.take k) = false)) (fun i => s.size - (intOf i).toNat)
  case atStart => exact ⟨0, Nat.zero_le _, rfl, Lib.hid rfl⟩
  case round =>
    obtain ⟨k, hk, rfl, hh⟩ := hrel
    by_cases hlt : k < s.size
    · have hsn := has_snoc b (s.data.toList.take k) s[k]
      rw [← take_snoc s k hlt, hh.out, Bool.false_or] at hsn
      cases hc : ((s[k].toNat : Int) == b) with
      | true =>
        have HS := Lib.hid (show has b s.data.toList = true by
          rw [hc] at hsn
          unfold has at *
          rw [List.any_eq_true] at *
          obtain ⟨x, hx, hy⟩ := hsn
          exact ⟨x, List.mem_of_mem_take hx, hy⟩)
        clear hsn hh
        go_wp2
        go_ret
        exact ⟨by rw [HS.out]; rfl, rfl⟩
      | false =>
        have HS := Lib.hid (hsn.trans hc)
        clear hsn hh
        go_wp2
        go_round
        case rel => exact ⟨k + 1, by omega, by go_num, HS⟩
        case measure => simp [intOf]; omega
    · go_wp2
      go_ret
      obtain rfl : k = s.size := by omega
      rw [take_all] at hh
      exact ⟨by rw [hh.out]; rfl, rfl⟩
theorem l1Seal_any (s : ByteArray) (w : World) (hs : s.size ≤ 1048576) :
    Calls Tryd.prog 33 #[.string s] w fun e w' => e = .returned (.string (sealB s)) ∧ Lo w w' := by
  have hb := ck_bd s.data.toList
  have hl := seal_tail s
  go_enter Tryd.func33, Tryd.ntmps33
  go_wp2_with (first | (go_at_call 39; refine (l1Sum_any _ _ (by omega)).mono ?_; rintro e w' ⟨rfl, rfl⟩) | (go_at_call 25; refine (l1Num_any _ _ (by omega) (by omega)).mono ?_; rintro e w' ⟨rfl, m, rfl⟩))
  go_ret
  exact ⟨rfl, lo_drew _ _⟩
theorem specSeal_yes (s : ByteArray) (w : World) (h : ¬ Unseal s) :
    Calls Tryd.prog 17 #[.string s] w fun e w' => e = .returned (.tuple #[.string (sealB s), .bool true]) ∧ Lo w w' := by
  have h1 : s.size ≤ 4000 := by unfold Unseal at h; omega
  have h2 : has 35 s.data.toList = false := by unfold Unseal at h; cases hh : has 35 s.data.toList <;> simp_all
  have h3 : (sealB s).size ≤ 4000 := by unfold Unseal at h; omega
  have C := l1Stands_any s 35 w (by omega)
  rw [h2] at C
  have HC := Lib.hid C
  clear C h2 h
  go_enter Tryd.func17, Tryd.ntmps17
  go_wp2_with fail
  refine HC.out.mono ?_
  rintro e w' ⟨rfl, rfl⟩
  go_wp2_with fail
  refine (l1Seal_any s _ (by omega)).mono ?_
  rintro e w1 ⟨rfl, l1⟩
  go_wp2_with fail
  refine (l1Seal_any s _ (by omega)).mono ?_
  rintro e w2 ⟨rfl, l2⟩
  go_wp2
  go_ret2
  exact ⟨rfl, lo_trans l1 l2⟩
theorem specSeal_no (s : ByteArray) (w : World) (hs : s.size ≤ 1048576) (h : Unseal s) :
    Calls Tryd.prog 17 #[.string s] w fun e w' => e = .returned (.tuple #[.string ⟨#[]⟩, .bool false]) ∧ Lo w w' := by
  by_cases h1 : 4000 < s.size
  · clear h
    go_enter Tryd.func17, Tryd.ntmps17
    go_wp2
    go_ret2
    exact ⟨rfl, Below.refl _ _⟩
  · have C := l1Stands_any s 35 w (by omega)
    cases h2 : has 35 s.data.toList with
    | true =>
      rw [h2] at C
      have HC := Lib.hid C
      clear C h2 h
      go_enter Tryd.func17, Tryd.ntmps17
      go_wp2_with fail
      refine HC.out.mono ?_
      rintro e w' ⟨rfl, rfl⟩
      go_wp2
      go_ret2
      exact ⟨rfl, Below.refl _ _⟩
    | false =>
      have h3 : 4000 < (sealB s).size := by unfold Unseal at h; rw [h2] at h; simp at h; omega
      rw [h2] at C
      have HC := Lib.hid C
      clear C h2 h
      go_enter Tryd.func17, Tryd.ntmps17
      go_wp2_with fail
      refine HC.out.mono ?_
      rintro e w' ⟨rfl, rfl⟩
      go_wp2_with fail
      refine (l1Seal_any s _ (by omega)).mono ?_
      rintro e w1 ⟨rfl, l1⟩
      go_wp2
      go_ret2
      exact ⟨rfl, l1⟩
theorem implSeal_yes (s : ByteArray) (w : World) (h : ¬ Unseal s) (ht : Tab w) (hm : Len w) :
    Calls Tryd.prog 16 #[.string s] w fun e w' => e = .returned (.tuple #[.string (sealB s), .bool true]) ∧ Lo w w' := by
  have h1 : s.size ≤ 4000 := by unfold Unseal at h; omega
  have h2 : Lib.contains s.data.toList [35] = false := by rw [contains_eq]; unfold Unseal at h; cases hh : has 35 s.data.toList <;> simp_all
  have h3 : s.size + 1 + (Lib.itoa (ck s.data.toList)).length ≤ 4000 := by rw [← seal_size_eq]; unfold Unseal at h; omega
  obtain ⟨m, hm⟩ := hm
  have C := Tryd.strings_Contains s ⟨#[35]⟩ m w (by omega) hm
  rw [show (⟨#[35]⟩ : ByteArray).data.toList = [35] from rfl, h2] at C
  have HC := Lib.hid C
  clear C h2 h
  have hb := ck_bd s.data.toList
  have hl := seal_tail s
  go_enter Tryd.func16, Tryd.ntmps16
  go_wp2_with fail
  refine HC.out.mono ?_
  rintro e w' ⟨rfl, rfl⟩
  go_wp2_with fail
  refine (implChecksum_yes s _ h1).mono ?_
  rintro e w' ⟨rfl, rfl⟩
  go_wp2_with fail
  refine (implFmt_yes _ _ (by omega) (by omega) ht).mono ?_
  rintro e w1 ⟨rfl, l1⟩
  go_wp2
  go_ret2
  exact ⟨rfl, l1⟩
theorem implSeal_no (s : ByteArray) (w : World) (hs : s.size ≤ 1048576) (h : Unseal s) (ht : Tab w) (hm : Len w) :
    Calls Tryd.prog 16 #[.string s] w fun e w' => e = .returned (.tuple #[.string ⟨#[]⟩, .bool false]) ∧ Lo w w' := by
  obtain ⟨m, hm⟩ := hm
  have C := Tryd.strings_Contains s ⟨#[35]⟩ m w (by omega) hm
  rw [show (⟨#[35]⟩ : ByteArray).data.toList = [35] from rfl, contains_eq] at C
  cases h2 : has 35 s.data.toList with
  | true =>
    rw [h2] at C
    have HC := Lib.hid C
    clear C h2 h
    go_enter Tryd.func16, Tryd.ntmps16
    go_wp2_with fail
    refine HC.out.mono ?_
    rintro e w' ⟨rfl, rfl⟩
    go_wp2
    go_ret2
    exact ⟨rfl, Below.refl _ _⟩
  | false =>
    rw [h2] at C
    have HC := Lib.hid C
    by_cases h1 : 4000 < s.size
    · clear C h2 h
      go_enter Tryd.func16, Tryd.ntmps16
      go_wp2_with fail
      refine HC.out.mono ?_
      rintro e w' ⟨rfl, rfl⟩
      go_wp2_with fail
      refine (implChecksum_no s _ h1 hs).mono ?_
      rintro e w' ⟨rfl, rfl⟩
      go_wp2
      go_ret2
      exact ⟨rfl, Below.refl _ _⟩
    · have h3 : 4000 < s.size + 1 + (Lib.itoa (ck s.data.toList)).length := by rw [← seal_size_eq]; unfold Unseal at h; rw [h2] at h; simp only [Bool.false_eq_true, false_or] at h; omega
      clear C h2 h
      have hb := ck_bd s.data.toList
      have hl := seal_tail s
      go_enter Tryd.func16, Tryd.ntmps16
      go_wp2_with fail
      refine HC.out.mono ?_
      rintro e w' ⟨rfl, rfl⟩
      go_wp2_with fail
      refine (implChecksum_yes s _ (by omega)).mono ?_
      rintro e w' ⟨rfl, rfl⟩
      go_wp2_with fail
      refine (implFmt_yes _ _ (by omega) (by omega) ht).mono ?_
      rintro e w1 ⟨rfl, l1⟩
      go_wp2
      go_ret2
      exact ⟨rfl, l1⟩
end Go.Proofs.YtlmnkkodfnlbmaaDoor
