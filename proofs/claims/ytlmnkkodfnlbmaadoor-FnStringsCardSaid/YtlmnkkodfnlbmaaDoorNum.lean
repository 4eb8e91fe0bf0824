/- The contracts of l1In and l1Num: the decimal text of a number. -/
import Derived.Test.YtlmnkkodfnlbmaaDoorRows
import Derived.WalkKit
import Derived.Lib.Hide
import Derived.Lib.ItoaLen
import Derived.Deep.QuietTactic
import Derived.BigQuiet
namespace Go.Proofs.YtlmnkkodfnlbmaaDoor
open Go.RowKit
theorem l1In_any (a b c : Int) (w : World) : Calls Tryd.prog 24 #[.int .i64 a, .int .i64 b, .int .i64 c] w fun e w' => e = .returned (.bool (decide (b ≤ a) && decide (a ≤ c))) ∧ w = w' := by
  by_cases h : b ≤ a
  · by_cases h2 : a ≤ c
    · go_enter Tryd.func24, Tryd.ntmps24
      go_wp2
      go_ret
      exact ⟨by simp [h, h2], rfl⟩
    · go_enter Tryd.func24, Tryd.ntmps24
      go_wp2
      go_ret
      exact ⟨by simp [h2], rfl⟩
  · go_enter Tryd.func24, Tryd.ntmps24
    go_wp2
    go_ret
    exact ⟨by simp; omega, rfl⟩
def dg1 (a : Int) : List UInt8 := [UInt8.ofNat (48 + a.toNat)]
theorem digit_slice (a : Int) (h0 : 0 ≤ a) (h : a < 10) (w : World) :
    (Instr.slice 9 (.string ⟨#[48, 49, 50, 51, 52, 53, 54, 55, 56, 57]⟩) (some (.int .i64 a)) (some (.int .i64 (a + 1))) none).run Tryd.prog w = .ok (.string ⟨(dg1 a).toArray⟩) w := by
  have : a = 0 ∨ a = 1 ∨ a = 2 ∨ a = 3 ∨ a = 4 ∨ a = 5 ∨ a = 6 ∨ a = 7 ∨ a = 8 ∨ a = 9 := by omega
  rcases this with rfl | rfl | rfl | rfl | rfl | rfl | rfl | rfl | rfl | rfl
  all_goals show _ = _
  all_goals kernel_rfl
theorem dec_len (u : Nat) (h : u ≤ 1000000000000) : ((Lib.decDigits u).length : Int) ≤ 8388608 := by
  rw [Lib.decDigits_length]; have := Lib.nDigits_le20 u (by omega); omega
theorem dec_cat (a : Int) (h0 : 10 ≤ a) : Lib.decDigits (a / 10).toNat ++ dg1 (a % 10) = Lib.decDigits a.toNat := by
  obtain ⟨n, rfl⟩ := Int.eq_ofNat_of_zero_le (show 0 ≤ a by omega)
  rw [show ((n : Int) / 10).toNat = n / 10 by omega]
  unfold dg1
  rw [show ((n : Int) % 10).toNat = n % 10 by omega]
  conv => rhs; rw [Int.toNat_natCast, Lib.decDigits, dif_neg (by omega)]
theorem ret_str {a b : List UInt8} (h : a = b) : Ending.returned (.string ⟨a.toArray⟩) = .returned (.string ⟨b.toArray⟩) := by rw [h]
theorem l1Num_pos (k : Nat) : ∀ (a : Int) (w : World), a ≤ k → 0 ≤ a → a ≤ 1000000000000 →
    Calls Tryd.prog 25 #[.int .i64 a] w fun e w' => e = .returned (.string ⟨(Lib.decDigits a.toNat).toArray⟩) ∧ ∃ m, w' = w.drewN m := by
  induction k with
  | zero =>
    intro a w hk h0 hb
    obtain rfl : a = 0 := by omega
    have hsl := digit_slice 0 (by omega) (by omega)
    go_enter Tryd.func25, Tryd.ntmps25
    go_wp2_with fail
    go_ret
    exact ⟨by rw [show (0:Int).toNat = 0 from rfl, Lib.decDigits_one (by decide)]; rfl, 0, rfl⟩
  | succ k ih =>
    intro a w hk h0 hb
    by_cases h10 : a < 10
    · have hsl := digit_slice a (by omega) (by omega)
      go_enter Tryd.func25, Tryd.ntmps25
      go_wp2_with fail
      go_ret
      exact ⟨by rw [Lib.decDigits_one (by omega)]; rfl, 0, rfl⟩
    · have hsl := digit_slice (a % 10) (by omega) (by omega)
      have C := Lib.hid (fun n => Calls.quiet_of (n := n) (ih (a / 10) (w.drewN n) (by omega) (by omega) (by omega)))
      clear ih
      have q1 : 0 ≤ a / 10 := by omega
      have hcat := fun w => run_string_add_lists (P := Tryd.prog) w (Lib.decDigits (a / 10).toNat) (dg1 (a % 10)) (dec_len _ (by omega)) (by simp [dg1])
      go_enter Tryd.func25, Tryd.ntmps25
      go_wp2_with fail
      go_quiet ((go_at_call 25; exact C.out _))
      go_wp2
      go_ret
      exact ⟨ret_str (dec_cat a (by omega)), nq, rfl⟩
theorem l1Num_any (a : Int) (w : World) (h0 : -1000000000000 ≤ a) (h1 : a ≤ 1000000000000) :
    Calls Tryd.prog 25 #[.int .i64 a] w fun e w' => e = .returned (.string ⟨(Lib.itoa a).toArray⟩) ∧ ∃ m, w' = w.drewN m := by
  by_cases hn : a < 0
  · have hcat := fun w => run_string_add_lists (P := Tryd.prog) w [45] (Lib.decDigits (-a).toNat) (by simp) (dec_len _ (by omega))
    have hi := Lib.hid (show [45] ++ Lib.decDigits (-a).toNat = Lib.itoa a by unfold Lib.itoa; rw [if_pos hn, show (-a).toNat = a.natAbs by omega]; rfl)
    go_enter Tryd.func25, Tryd.ntmps25
    go_wp2_with (go_at_call 25; refine (l1Num_pos (-a).toNat (-a) _ (by omega) (by omega) (by omega)).mono ?_; rintro e w' ⟨rfl, m, rfl⟩)
    go_ret
    exact ⟨ret_str hi.out, m, rfl⟩
  · refine (l1Num_pos a.toNat a w (by omega) (by omega) h1).mono ?_
    rintro e w' ⟨rfl, h⟩
    exact ⟨by unfold Lib.itoa; rw [if_neg hn], h⟩
end Go.Proofs.YtlmnkkodfnlbmaaDoor
