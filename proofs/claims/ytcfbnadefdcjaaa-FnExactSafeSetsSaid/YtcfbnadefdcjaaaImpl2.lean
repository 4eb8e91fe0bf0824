/- The contracts of the program's own functions on one row: its weight, its moments. -/
import Derived.Test.YtcfbnadefdcjaaaImpl1
import Derived.Test.YtcfbnadefdcjaaaFrac
namespace Go.Proofs.Ytcfbnadefdcjaaa
open Go.RowKit
theorem isBase_any (a b : Int) (w : World) : Calls Try.prog 89 #[.int .i64 a, .int .i64 b] w fun e w' => e = .returned (.bool (decide (0 ≤ a) && decide (a ≤ 60) && (decide (0 ≤ b) && decide (b ≤ 60)) && decide (a ≤ b))) ∧ w = w' := by
  have C1 := isPlace_any a w
  have C2 := isPlace_any b w
  obtain ⟨b1, hb1⟩ : ∃ x, (decide (0 ≤ a) && decide (a ≤ 60)) = x := ⟨_, rfl⟩
  obtain ⟨b2, hb2⟩ : ∃ x, (decide (0 ≤ b) && decide (b ≤ 60)) = x := ⟨_, rfl⟩
  rw [hb1] at C1 ⊢
  rw [hb2] at C2 ⊢
  have D1 := Lib.hid C1
  have D2 := Lib.hid C2
  clear C1 C2 hb1 hb2
  cases b1 with
  | false =>
    go_enter Try.func89, Try.ntmps89
    go_wp2_with fail
    refine D1.out.mono ?_
    rintro e w' ⟨rfl, rfl⟩
    go_wp2
    go_ret
    exact ⟨rfl, rfl⟩
  | true =>
    cases b2 with
    | false =>
      go_enter Try.func89, Try.ntmps89
      go_wp2_with fail
      refine D1.out.mono ?_
      rintro e w' ⟨rfl, rfl⟩
      go_wp2_with fail
      refine D2.out.mono ?_
      rintro e w' ⟨rfl, rfl⟩
      go_wp2
      go_ret
      exact ⟨rfl, rfl⟩
    | true =>
      by_cases h : a ≤ b
      all_goals go_enter Try.func89, Try.ntmps89
      all_goals go_wp2_with fail
      all_goals refine D1.out.mono ?_
      all_goals rintro e w' ⟨rfl, rfl⟩
      all_goals go_wp2_with fail
      all_goals refine D2.out.mono ?_
      all_goals rintro e w' ⟨rfl, rfl⟩
      all_goals go_wp2
      all_goals go_ret
      all_goals exact ⟨by simp [h], rfl⟩
set_option maxHeartbeats 800000 in
theorem momentAbout_yes (v : Value) (xs : List (Int × Int)) (m : Int) (w : World) (hr : LoadRow w v xs) (hz : RowF xs) (m0 : 0 ≤ m) (m1 : m ≤ 60) :
    Calls Try.prog 210 #[v, .int .i64 m] w fun e w' => e = .returned (.tuple #[.int .i64 (momF m xs), .bool true]) ∧ Below w.heap.size w w' := by
  have C := isRow_any v xs w hr
  rw [(rowB_iff xs).2 hz] at C
  have D := Lib.hid C
  have P := fun w => isPlace_any m w
  rw [show (decide (0 ≤ m) && decide (m ≤ 60)) = true by simp; omega] at P
  have PP := Lib.hid P
  obtain ⟨a, c, rfl, hr⟩ := hr
  have HZ := Lib.hid hz
  have hlen := hz.short
  clear C hz P
  go_enter Try.func210, Try.ntmps210
  go_wp2_with fail
  refine D.out.mono ?_
  rintro e w1 ⟨rfl, l1⟩
  go_wp2_with fail
  refine (PP.out _).mono ?_
  rintro e w' ⟨rfl, rfl⟩
  go_wp2
  go_loopw [6, 19] (fun s i wr => ∃ k : Nat, k ≤ xs.length ∧ i = .int .i64 k ∧ s = .int .i64 (momF m (xs.take k)) ∧ Below w.heap.size w wr) (fun _ i _ => xs.length - (intOf i).toNat)
  case atStart => exact ⟨0, Nat.zero_le _, rfl, rfl, l1⟩
  case round =>
    obtain ⟨k, hk, rfl, rfl, hw⟩ := hrel
    clear l1 D PP
    by_cases hlt : k < xs.length
    · rcases hr with h | ⟨g, off, rfl, hg, hc⟩
      · subst h; simp at hlt
      have h1 := (hc k hlt).1
      have h2 := (hc k hlt).2
      rw [← hw.cell (p := ⟨g, off + k * 2, none⟩) hg] at h1
      rw [← hw.cell (p := ⟨g, off + k * 2 + 1, none⟩) hg] at h2
      have hlt' : (k : Int) < (xs.length : Int) := by omega
      have hb := (rowF_bounds (rowF_take HZ.out k)).2.2.2 m m0 m1
      have hb2 := (rowF_bounds (rowF_take HZ.out (k + 1))).2.2.2 m m0 m1
      have hs := mom_take m xs k hlt
      have he := HZ.out.each _ (show xs.getD k (0, 0) ∈ xs by simp only [List.getD, List.getElem?_eq_getElem hlt, Option.getD_some]; exact List.getElem_mem hlt)
      obtain ⟨y, hy⟩ : ∃ y, momF m (xs.take k) = y := ⟨_, rfl⟩
      obtain ⟨z, hz⟩ : ∃ z, momF m (xs.take (k + 1)) = z := ⟨_, rfl⟩
      generalize xs.getD k (0, 0) = x at h1 h2 hs he
      obtain ⟨p, q⟩ := x
      simp only at h1 h2 hs he
      obtain ⟨⟨e0, e1⟩, e2, e3⟩ := he
      rw [hy] at hs hb ⊢
      rw [hz] at hs hb2
      obtain ⟨y0, y1⟩ := hb
      obtain ⟨z0, z1⟩ := hb2
      obtain ⟨t, ht⟩ : ∃ t, q * (p - m) = t := ⟨_, rfl⟩
      rw [ht] at hs
      have HY := Lib.hid hz
      have HW := Lib.hid hw
      have t0 : -9223372036854775808 ≤ q * (p - m) := by omega
      have t1 : q * (p - m) ≤ 9223372036854775807 := by omega
      have s0 : -9223372036854775808 ≤ y + q * (p - m) := by omega
      have s1 : y + q * (p - m) ≤ 9223372036854775807 := by omega
      have HT := Lib.hid ht
      clear hc hy hz hw ht
      go_wp2
      go_roundw
      case rel => exact ⟨k + 1, by omega, by go_num, by rw [HY.out, hs, HT.out], HW.out.alloc HW.out.size _⟩
      case measure => simp [intOf]; omega
    · obtain rfl : k = xs.length := by omega
      have hge : ¬ (xs.length : Int) < (xs.length : Int) := by omega
      go_wp2
      go_ret2
      exact ⟨rfl, hw⟩
theorem momentAbout_no (v : Value) (xs : List (Int × Int)) (m : Int) (w : World) (hr : LoadRow w v xs) (hz : (rowB xs && (decide (0 ≤ m) && decide (m ≤ 60))) = false) :
    Calls Try.prog 210 #[v, .int .i64 m] w fun e w' => e = .returned (.tuple #[.int .i64 0, .bool false]) ∧ Below w.heap.size w w' := by
  have C := isRow_any v xs w hr
  have P := fun w => isPlace_any m w
  cases h : rowB xs with
  | false =>
    rw [h] at C
    have D := Lib.hid C
    clear C hz hr P h
    go_enter Try.func210, Try.ntmps210
    go_wp2_with fail
    refine D.out.mono ?_
    rintro e w1 ⟨rfl, l1⟩
    go_wp2
    go_ret2
    exact ⟨rfl, l1⟩
  | true =>
    rw [h, Bool.true_and] at hz
    rw [hz] at P
    rw [h] at C
    have D := Lib.hid C
    have PP := Lib.hid P
    clear C hz hr P h
    go_enter Try.func210, Try.ntmps210
    go_wp2_with fail
    refine D.out.mono ?_
    rintro e w1 ⟨rfl, l1⟩
    go_wp2_with fail
    refine (PP.out _).mono ?_
    rintro e w' ⟨rfl, rfl⟩
    go_wp2
    go_ret2
    exact ⟨rfl, l1⟩
end Go.Proofs.Ytcfbnadefdcjaaa
