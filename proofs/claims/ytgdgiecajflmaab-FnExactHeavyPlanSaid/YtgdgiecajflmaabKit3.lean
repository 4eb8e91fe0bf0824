/- The contracts on powers: kits of powers, and the weighings that are needed. -/
import Derived.Test.YtgdgiecajflmaabKit1
import Derived.Test.YtgdgiecajflmaabIntLaw
namespace Go.Proofs.Ytgdgiecajflmaab
open Go.RowKit
set_option maxHeartbeats 800000 in
theorem power_any (b : Int) (n : Nat) (hb : b = 2 ∨ b = 3) (hn : n ≤ 7) (w : World) :
    Calls Try.prog 65 #[.int .i64 b, .int .i64 (n : Int)] w fun e w' => e = .returned (.int .i64 (powF b n)) ∧ w' = w := by
  have HB := Lib.hid (fun k hk => pow_small b hb k hk)
  rcases hb with rfl | rfl
  all_goals
    (go_enter Try.func65, Try.ntmps65
     go_wp2
     go_loop [5, 7] (fun p i => ∃ (k : Nat) (y : Int), k ≤ n ∧ i = .int .i64 k ∧ p = .int .i64 y ∧ 1 ≤ y ∧ y ≤ 3000 ∧ Hid (powF _ k = y)) (fun _ i => n - (intOf i).toNat)
     case atStart => exact ⟨0, 1, Nat.zero_le _, rfl, rfl, by omega, by omega, Lib.hid rfl⟩
     case round =>
       obtain ⟨k, y, hk, rfl, rfl, y0, y1, HY⟩ := hrel
       by_cases hlt : k < n
       · have hlt' : (k : Int) < (n : Int) := by omega
         have hs := HB.out (k + 1) (by omega)
         have he := HY.out
         rw [powF, he] at hs
         obtain ⟨s0, s1⟩ := hs
         have HS := Lib.hid he
         clear he
         go_wp2
         go_round
         case rel => exact ⟨k + 1, _, by omega, by go_num, rfl, s0, s1, Lib.hid (by rw [powF, HS.out])⟩
         case measure => simp [intOf]; omega
       · obtain rfl : k = n := by omega
         have hge : ¬ (k : Int) < (k : Int) := by omega
         go_wp2
         go_ret
         exact ⟨by rw [HY.out]; rfl, rfl⟩)
theorem isCoin_is (n : Int) (r : Bool) (h : coinsB n = r) (w : World) : Calls Try.prog 92 #[.int .i64 n] w fun e w' => e = .returned (.bool r) ∧ w = w' := by
  subst h
  unfold coinsB
  by_cases h1 : 2 ≤ n
  · by_cases h2 : n ≤ 40
    all_goals go_enter Try.func92, Try.ntmps92
    all_goals go_wp2
    all_goals go_ret
    all_goals exact ⟨by simp [h1, h2], rfl⟩
  · go_enter Try.func92, Try.ntmps92
    go_wp2
    go_ret
    exact ⟨by simp; omega, rfl⟩
theorem l3Coins_is (n : Int) (r : Bool) (h : coinsB n = r) (w : World) : Calls Try.prog 54 #[.int .i64 n] w fun e w' => e = .returned (.bool r) ∧ w = w' := by
  have D := Lib.hid (l1In_is n 2 40 r h w)
  clear h
  go_enter Try.func54, Try.ntmps54
  go_wp2_with fail
  refine D.out.mono ?_
  rintro e w' ⟨rfl, rfl⟩
  go_wp2
  go_ret
  exact ⟨rfl, rfl⟩
theorem l3Needed_any (n : Int) (h : n ≤ 40) (w : World) : Calls Try.prog 55 #[.int .i64 n] w fun e w' => e = .returned (.int .i64 (needF n : Nat)) ∧ w = w' := by
  have h4 := need_four n
  go_enter Try.func55, Try.ntmps55
  go_wp2
  go_loop [3, 4] (fun i p => ∃ (k : Nat) (y : Int), k ≤ needF n ∧ i = .int .i64 k ∧ p = .int .i64 y ∧ 1 ≤ y ∧ y ≤ 3000 ∧ Hid (powF 3 k = y)) (fun i _ => needF n - (intOf i).toNat)
  case atStart => exact ⟨0, 1, Nat.zero_le _, rfl, rfl, by omega, by omega, Lib.hid rfl⟩
  case round =>
    obtain ⟨k, y, hk, rfl, rfl, y0, y1, HY⟩ := hrel
    by_cases hlt : k < needF n
    · have hb := need_below n k hlt
      rw [HY.out] at hb
      have hs := pow_small 3 (.inr rfl) (k + 1) (by omega)
      rw [powF, HY.out] at hs
      obtain ⟨s0, s1⟩ := hs
      go_wp2
      go_round
      case rel => exact ⟨k + 1, _, by omega, by go_num, rfl, by omega, by omega, Lib.hid (by rw [powF, HY.out]; omega)⟩
      case measure => simp [intOf]; omega
    · have hk' : k = needF n := by omega
      have hb := need_at n h
      rw [← hk', HY.out] at hb
      have hge : ¬ y < n := by omega
      have HK := Lib.hid hk'
      clear hk' hb
      go_wp2
      go_ret
      exact ⟨by rw [← HK.out]; rfl, rfl⟩
theorem implNeeded_yes (n : Int) (h : coinsB n = true) (w : World) : Calls Try.prog 50 #[.int .i64 n] w fun e w' => e = .returned (.tuple #[.int .i64 (needF n : Nat), .bool true]) ∧ w = w' := by
  have h4 := need_four n
  have D := Lib.hid (isCoin_is n true h w)
  have hn : n ≤ 40 := by unfold coinsB at h; rw [Bool.and_eq_true] at h; exact of_decide_eq_true h.2
  clear h
  go_enter Try.func50, Try.ntmps50
  go_wp2_with fail
  refine D.out.mono ?_
  rintro e w' ⟨rfl, rfl⟩
  go_wp2
  go_loop [4] (fun i => ∃ k : Nat, k ≤ needF n ∧ i = .int .i64 k) (fun i => needF n - (intOf i).toNat)
  case atStart => exact ⟨0, Nat.zero_le _, rfl⟩
  case round =>
    obtain ⟨k, hk, rfl⟩ := hrel
    have P := Lib.hid (power_any 3 k (.inr rfl) (by omega) w)
    by_cases hlt : k < needF n
    · have hb := need_below n k hlt
      generalize powF 3 k = y at P hb
      go_wp2_with fail
      refine P.out.mono ?_
      rintro e w' ⟨rfl, rfl⟩
      go_wp2
      go_round
      case rel => exact ⟨k + 1, by omega, by go_num⟩
      case measure => simp [intOf]; omega
    · have hk' : k = needF n := by omega
      have hb := need_at n hn
      rw [← hk'] at hb
      have HK := Lib.hid hk'
      clear hk'
      generalize powF 3 k = y at P hb
      have hge : ¬ y < n := by omega
      go_wp2_with fail
      refine P.out.mono ?_
      rintro e w' ⟨rfl, rfl⟩
      go_wp2
      go_ret2
      exact ⟨by rw [← HK.out]; rfl, rfl⟩
theorem implNeeded_no (n : Int) (h : coinsB n = false) (w : World) : Calls Try.prog 50 #[.int .i64 n] w fun e w' => e = .returned (.tuple #[.int .i64 0, .bool false]) ∧ w = w' := by
  have D := Lib.hid (isCoin_is n false h w)
  clear h
  go_enter Try.func50, Try.ntmps50
  go_wp2_with fail
  refine D.out.mono ?_
  rintro e w' ⟨rfl, rfl⟩
  go_wp2
  go_ret2
  exact ⟨rfl, rfl⟩
theorem specNeeded_yes (n : Int) (h : coinsB n = true) (w : World) : Calls Try.prog 51 #[.int .i64 n] w fun e w' => e = .returned (.tuple #[.int .i64 (needF n : Nat), .bool true]) ∧ w = w' := by
  have D := Lib.hid (l3Coins_is n true h w)
  have hn : n ≤ 40 := by unfold coinsB at h; rw [Bool.and_eq_true] at h; exact of_decide_eq_true h.2
  have K := Lib.hid (l3Needed_any n hn w)
  clear h
  generalize needF n = m at K ⊢
  go_enter Try.func51, Try.ntmps51
  go_wp2_with fail
  refine D.out.mono ?_
  rintro e w' ⟨rfl, rfl⟩
  go_wp2_with fail
  refine K.out.mono ?_
  rintro e w' ⟨rfl, rfl⟩
  go_wp2
  go_ret2
  exact ⟨rfl, rfl⟩
theorem specNeeded_no (n : Int) (h : coinsB n = false) (w : World) : Calls Try.prog 51 #[.int .i64 n] w fun e w' => e = .returned (.tuple #[.int .i64 0, .bool false]) ∧ w = w' := by
  have D := Lib.hid (l3Coins_is n false h w)
  clear h
  go_enter Try.func51, Try.ntmps51
  go_wp2_with fail
  refine D.out.mono ?_
  rintro e w' ⟨rfl, rfl⟩
  go_wp2
  go_ret2
  exact ⟨rfl, rfl⟩
/-- What WeighingsNeeded answers. -/
def neededF (n : Int) : Int × Bool := if coinsB n = true then ((needF n : Nat), true) else (0, false)
theorem needed_impl (n : Int) (w : World) : Calls Try.prog 50 #[.int .i64 n] w fun e w' => e = .returned (.tuple #[.int .i64 (neededF n).1, .bool (neededF n).2]) ∧ Below w.heap.size w w' := by
  unfold neededF
  cases h : coinsB n with
  | true => exact (implNeeded_yes n h w).mono fun _ _ ⟨e, k⟩ => ⟨e, k ▸ Below.refl _ _⟩
  | false => exact (implNeeded_no n h w).mono fun _ _ ⟨e, k⟩ => ⟨e, k ▸ Below.refl _ _⟩
theorem needed_spec (n : Int) (w : World) : Calls Try.prog 51 #[.int .i64 n] w fun e w' => e = .returned (.tuple #[.int .i64 (neededF n).1, .bool (neededF n).2]) ∧ Below w.heap.size w w' := by
  unfold neededF
  cases h : coinsB n with
  | true => exact (specNeeded_yes n h w).mono fun _ _ ⟨e, k⟩ => ⟨e, k ▸ Below.refl _ _⟩
  | false => exact (specNeeded_no n h w).mono fun _ _ ⟨e, k⟩ => ⟨e, k ▸ Below.refl _ _⟩
end Go.Proofs.Ytgdgiecajflmaab
