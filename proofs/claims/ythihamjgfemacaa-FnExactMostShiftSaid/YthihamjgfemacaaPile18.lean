/- The span of the numbers for which a function answers true. -/
import Derived.Test.YthihamjgfemacaaPile10
namespace Go.Proofs.Ythihamjgfemacaa
open Go.RowKit
/-- The least and the greatest of the first k numbers from -99 on with g. -/
def spanS (g : Int → Bool) : Nat → Int × Int × Bool
  | 0 => (0, 0, false)
  | k + 1 => if g ((k : Int) - 99) = true then (if (spanS g k).2.2 = true then (spanS g k).1 else (k : Int) - 99, (k : Int) - 99, true) else spanS g k
theorem spanS_yes (g : Int → Bool) (k : Nat) (h : g ((k : Int) - 99) = true) : spanS g (k + 1) = (if (spanS g k).2.2 = true then (spanS g k).1 else (k : Int) - 99, (k : Int) - 99, true) := by rw [spanS, if_pos h]
theorem spanS_no (g : Int → Bool) (k : Nat) (h : g ((k : Int) - 99) = false) : spanS g (k + 1) = spanS g k := by rw [spanS, if_neg (by rw [h]; simp)]
theorem spanS_none (g : Int → Bool) (h : ∀ k : Nat, g ((k : Int) - 99) = false) : ∀ n, spanS g n = (0, 0, false) := by
  intro n
  induction n with
  | zero => rfl
  | succ n ih => rw [spanS_no g n (h n), ih]
theorem spanS_congr (g h : Int → Bool) : ∀ n : Nat, (∀ k : Nat, k < n → g ((k : Int) - 99) = h ((k : Int) - 99)) → spanS g n = spanS h n := by
  intro n
  induction n with
  | zero => intro _; rfl
  | succ n ih => intro e; rw [spanS, spanS, e n (Nat.lt_succ_self _), ih (fun k hk => e k (by omega))]
set_option maxRecDepth 100000 in
set_option maxHeartbeats 1600000 in
theorem spanOf_1 (b : Nat) (g : Int → Bool) (w : World) (hc : ∀ (x : Int) (w1 : World), -99 ≤ x → x ≤ 99 → Below w.heap.size w w1 → Calls Try.prog 116 #[.int .i64 x, .pointer (some ⟨b, 0, none⟩)] w1 fun e w' => e = .returned (.bool (g x)) ∧ Below w1.heap.size w1 w') :
    Calls Try.prog 79 #[.int .i64 (-99), .int .i64 99, .func (.func 116) #[] #[.pointer (some ⟨b, 0, none⟩)]] w fun e w' => e = .returned (.tuple #[.int .i64 (spanS g 199).1, .int .i64 (spanS g 199).2.1, .bool (spanS g 199).2.2]) ∧ Below w.heap.size w w' := by
  have HC := Lib.hid hc
  clear hc
  go_enter Try.func79, Try.ntmps79
  go_wp2
  go_loopw [9, 10, 11, 12] (fun u v q x wr => ∃ k : Nat, k ≤ 199 ∧ x = .int .i64 ((k : Int) - 99) ∧ u = .int .i64 (spanS g k).1 ∧ v = .int .i64 (spanS g k).2.1 ∧ q = .bool (spanS g k).2.2 ∧ Hid (Below w.heap.size w wr)) (fun _ _ _ x _ => (100 - intOf x).toNat)
  case atStart => exact ⟨0, Nat.zero_le _, rfl, rfl, rfl, rfl, Lib.hid (Below.refl _ _)⟩
  case round =>
    obtain ⟨k, hk, rfl, rfl, rfl, rfl, HW⟩ := hrel
    by_cases hlt : k < 199
    · have hlt' : ((k : Int) - 99) ≤ 99 := by omega
      have C := Lib.hid (HC.out ((k : Int) - 99) wr (by omega) (by omega) HW.out)
      obtain ⟨x, hx⟩ : ∃ x : Int, (k : Int) - 99 = x := ⟨_, rfl⟩
      have HX := Lib.hid hx
      have HWR := Lib.hid (show wrap64 (x + 1) = x + 1 from Go.IntWalk.wrap64_in (x + 1) (by omega))
      cases hg : g ((k : Int) - 99) with
      | false =>
        have HS := Lib.hid (spanS_no g k hg)
        rw [hg, hx] at C
        rw [hx] at hlt' ⊢
        clear hg hx HC
        generalize spanS g k = s at *
        go_wp2_with (go_at_call 116; refine (C.out).mono ?_; rintro e w1 ⟨rfl, l1⟩; have L1 := Lib.hid (lo_on HW.out l1))
        go_roundw
        case rel => exact ⟨k + 1, by omega, by rw [HWR.out]; exact congrArg (Value.int .i64) (by have := HX.out; omega), by rw [HS.out], by rw [HS.out], by rw [HS.out], L1⟩
        case measure => have := HX.out; have h := HWR.out; simp only [intOf, h]; omega
      | true =>
        have HS := Lib.hid (spanS_yes g k hg)
        rw [hg, hx] at C
        rw [hx] at hlt' HS ⊢
        clear hg hx HC
        generalize spanS g k = s at *
        obtain ⟨s1, s2, s3⟩ := s
        cases s3 with
        | false =>
          go_wp2_with (go_at_call 116; refine (C.out).mono ?_; rintro e w1 ⟨rfl, l1⟩; have L1 := Lib.hid (lo_on HW.out l1))
          go_roundw
          case rel => exact ⟨k + 1, by omega, by rw [HWR.out]; exact congrArg (Value.int .i64) (by have := HX.out; omega), by rw [HS.out]; rfl, by rw [HS.out], by rw [HS.out], L1⟩
          case measure => have := HX.out; have h := HWR.out; simp only [intOf, h]; omega
        | true =>
          go_wp2_with (go_at_call 116; refine (C.out).mono ?_; rintro e w1 ⟨rfl, l1⟩; have L1 := Lib.hid (lo_on HW.out l1))
          go_roundw
          case rel => exact ⟨k + 1, by omega, by rw [HWR.out]; exact congrArg (Value.int .i64) (by have := HX.out; omega), by rw [HS.out]; rfl, by rw [HS.out], by rw [HS.out], L1⟩
          case measure => have := HX.out; have h := HWR.out; simp only [intOf, h]; omega
    · obtain rfl : k = 199 := by omega
      clear HC
      obtain ⟨s, hs⟩ : ∃ s, spanS g 199 = s := ⟨_, rfl⟩
      have HG := Lib.hid hs
      rw [hs]
      clear hs
      go_wp2
      exact bodyPost_ret (v := .tuple #[.int .i64 s.1, .int .i64 s.2.1, .bool s.2.2]) (by simp [results, Try.results79, go_sem]) rfl ⟨by rw [HG.out], HW.out⟩
set_option maxRecDepth 100000 in
set_option maxHeartbeats 1600000 in
theorem spanOf_2 (b d : Nat) (g : Int → Bool) (w : World) (hc : ∀ (x : Int) (w1 : World), -99 ≤ x → x ≤ 99 → Below w.heap.size w w1 → Calls Try.prog 119 #[.int .i64 x, .pointer (some ⟨b, 0, none⟩), .pointer (some ⟨d, 0, none⟩)] w1 fun e w' => e = .returned (.bool (g x)) ∧ Below w1.heap.size w1 w') :
    Calls Try.prog 79 #[.int .i64 (-99), .int .i64 99, .func (.func 119) #[] #[.pointer (some ⟨b, 0, none⟩), .pointer (some ⟨d, 0, none⟩)]] w fun e w' => e = .returned (.tuple #[.int .i64 (spanS g 199).1, .int .i64 (spanS g 199).2.1, .bool (spanS g 199).2.2]) ∧ Below w.heap.size w w' := by
  have HC := Lib.hid hc
  clear hc
  go_enter Try.func79, Try.ntmps79
  go_wp2
  go_loopw [9, 10, 11, 12] (fun u v q x wr => ∃ k : Nat, k ≤ 199 ∧ x = .int .i64 ((k : Int) - 99) ∧ u = .int .i64 (spanS g k).1 ∧ v = .int .i64 (spanS g k).2.1 ∧ q = .bool (spanS g k).2.2 ∧ Hid (Below w.heap.size w wr)) (fun _ _ _ x _ => (100 - intOf x).toNat)
  case atStart => exact ⟨0, Nat.zero_le _, rfl, rfl, rfl, rfl, Lib.hid (Below.refl _ _)⟩
  case round =>
    obtain ⟨k, hk, rfl, rfl, rfl, rfl, HW⟩ := hrel
    by_cases hlt : k < 199
    · have hlt' : ((k : Int) - 99) ≤ 99 := by omega
      have C := Lib.hid (HC.out ((k : Int) - 99) wr (by omega) (by omega) HW.out)
      obtain ⟨x, hx⟩ : ∃ x : Int, (k : Int) - 99 = x := ⟨_, rfl⟩
      have HX := Lib.hid hx
      have HWR := Lib.hid (show wrap64 (x + 1) = x + 1 from Go.IntWalk.wrap64_in (x + 1) (by omega))
      cases hg : g ((k : Int) - 99) with
      | false =>
        have HS := Lib.hid (spanS_no g k hg)
        rw [hg, hx] at C
        rw [hx] at hlt' ⊢
        clear hg hx HC
        generalize spanS g k = s at *
        go_wp2_with (go_at_call 119; refine (C.out).mono ?_; rintro e w1 ⟨rfl, l1⟩; have L1 := Lib.hid (lo_on HW.out l1))
        go_roundw
        case rel => exact ⟨k + 1, by omega, by rw [HWR.out]; exact congrArg (Value.int .i64) (by have := HX.out; omega), by rw [HS.out], by rw [HS.out], by rw [HS.out], L1⟩
        case measure => have := HX.out; have h := HWR.out; simp only [intOf, h]; omega
      | true =>
        have HS := Lib.hid (spanS_yes g k hg)
        rw [hg, hx] at C
        rw [hx] at hlt' HS ⊢
        clear hg hx HC
        generalize spanS g k = s at *
        obtain ⟨s1, s2, s3⟩ := s
        cases s3 with
        | false =>
          go_wp2_with (go_at_call 119; refine (C.out).mono ?_; rintro e w1 ⟨rfl, l1⟩; have L1 := Lib.hid (lo_on HW.out l1))
          go_roundw
          case rel => exact ⟨k + 1, by omega, by rw [HWR.out]; exact congrArg (Value.int .i64) (by have := HX.out; omega), by rw [HS.out]; rfl, by rw [HS.out], by rw [HS.out], L1⟩
          case measure => have := HX.out; have h := HWR.out; simp only [intOf, h]; omega
        | true =>
          go_wp2_with (go_at_call 119; refine (C.out).mono ?_; rintro e w1 ⟨rfl, l1⟩; have L1 := Lib.hid (lo_on HW.out l1))
          go_roundw
          case rel => exact ⟨k + 1, by omega, by rw [HWR.out]; exact congrArg (Value.int .i64) (by have := HX.out; omega), by rw [HS.out]; rfl, by rw [HS.out], by rw [HS.out], L1⟩
          case measure => have := HX.out; have h := HWR.out; simp only [intOf, h]; omega
    · obtain rfl : k = 199 := by omega
      clear HC
      obtain ⟨s, hs⟩ : ∃ s, spanS g 199 = s := ⟨_, rfl⟩
      have HG := Lib.hid hs
      rw [hs]
      clear hs
      go_wp2
      exact bodyPost_ret (v := .tuple #[.int .i64 s.1, .int .i64 s.2.1, .bool s.2.2]) (by simp [results, Try.results79, go_sem]) rfl ⟨by rw [HG.out], HW.out⟩
end Go.Proofs.Ythihamjgfemacaa
