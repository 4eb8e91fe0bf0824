/- The contract of the model's NarrowBase, and the walk of the law on it. -/
import Derived.Test.YthihamjgfemacaaNarrow
import Derived.Test.YthihamjgfemacaaExRow
namespace Go.Proofs.Ythihamjgfemacaa
open Go.RowKit
set_option maxHeartbeats 800000 in
theorem specNarrow_no (v : Value) (xs : List (Int × Int)) (w : World) (hr : LoadRow w v xs) (hz : rowB xs = false ∨ xs = []) :
    Calls Try.prog 59 #[v] w fun e w' => e = .returned (.tuple #[.int .i64 0, .int .i64 0, .bool false]) ∧ Below w.heap.size w w' := by
  obtain ⟨b, hb⟩ : ∃ b, rowB xs = b := ⟨_, rfl⟩
  have D := Lib.hid (l2Row_is v xs b hb _ hr)
  have hbe : b = false ∨ xs.length = 0 := by
    rcases hz with h | h
    · exact .inl (hb.symm.trans h)
    · exact .inr (by rw [h]; rfl)
  obtain ⟨a, c, rfl, _⟩ := hr
  clear hz hb
  cases b
  case' true =>
    have h0 : xs.length = 0 := by simpa using hbe
    rw [h0] at D ⊢
  all_goals
    (clear hbe
     go_enter Try.func59, Try.ntmps59
     go_wp2_with fail
     refine D.out.mono ?_
     rintro e w1 ⟨rfl, rfl⟩
     go_wp2
     go_ret3
     exact ⟨rfl, Below.refl _ _⟩)
set_option maxHeartbeats 800000 in
theorem specNarrow_yes (v : Value) (xs : List (Int × Int)) (w : World) (hr : LoadRow w v xs) (hz : RowF xs) (hne : xs ≠ []) :
    Calls Try.prog 59 #[v] w fun e w' => e = .returned (.tuple #[.int .i64 (Int.tdiv (momF 0 xs) (wtF xs)), .int .i64 (highF (momF 0 xs) (wtF xs)), .bool true]) ∧ Below w.heap.size w w' := by
  have hb := rowF_bounds hz
  have hpos := hb.2.2.1 hne
  have hm := hb.2.2.2 0 (by omega) (by omega)
  have hm0 := (mom0_bound xs hz.each).1
  have h2 := hb.2.1
  have D := Lib.hid (l2Row_is v xs true ((rowB_iff xs).2 hz) w hr)
  have M := Lib.hid (fun w1 (l : Below w.heap.size w w1) => l2Moment_any v xs 0 w1 (hr.lo l) hz (by omega) (by omega))
  have N := Lib.hid (fun w1 (l : Below w.heap.size w w1) => l2Weight_any v xs w1 (hr.lo l) hz)
  have hln : ¬ xs.length = 0 := fun h => hne (List.length_eq_zero_iff.1 h)
  have hlb : ((xs.length : Int) == 0) = false := by simpa using hne
  obtain ⟨a, c, rfl, _⟩ := hr
  clear hz hb hne
  generalize momF 0 xs = m at *
  generalize wtF xs = n at *
  have hT := narrow_low m n hm0 (by omega)
  have hT2 : Int.tdiv m n ≤ m := by rw [Int.tdiv_eq_ediv_of_nonneg hm0]; exact Int.ediv_le_self _ hm0
  unfold highF
  rw [Int.tdiv_eq_ediv_of_nonneg hm0] at hT hT2 ⊢
  have hn0 : ¬ n = 0 := by omega
  obtain ⟨hT3, _, hT4⟩ := hT
  have k1 : m / n ≤ 71280 := by omega
  have k2 : m / n * n ≤ 71280 := by omega
  have k3 : 0 ≤ m / n * n := Int.mul_nonneg hT4 (by omega)
  by_cases hw : m / n * n = m
  · rw [if_pos hw]
    have hwb : (m / n * n == m) = true := by simpa using hw
    clear hw
    go_enter Try.func59, Try.ntmps59
    go_wp2_with fail
    refine D.out.mono ?_
    rintro e w' ⟨rfl, rfl⟩
    have M1 := Lib.hid (M.out w (Below.refl _ _))
    go_wp2_with fail
    refine M1.out.mono ?_
    rintro e w1 ⟨rfl, l1⟩
    have N1 := Lib.hid (N.out w1 l1)
    go_wp2_with fail
    refine N1.out.mono ?_
    rintro e w' ⟨rfl, rfl⟩
    go_wp2_with fail
    refine N1.out.mono ?_
    rintro e w' ⟨rfl, rfl⟩
    have M2 := Lib.hid (M.out w1 l1)
    go_wp2_with fail
    refine M2.out.mono ?_
    rintro e w2 ⟨rfl, l2⟩
    go_wp2
    go_ret3
    exact ⟨rfl, lo_on l1 l2⟩
  · rw [if_neg hw]
    have hwb : (m / n * n == m) = false := by simpa using hw
    have HW := Lib.hid hw
    clear hw
    go_enter Try.func59, Try.ntmps59
    go_wp2_with fail
    refine D.out.mono ?_
    rintro e w' ⟨rfl, rfl⟩
    have M1 := Lib.hid (M.out w (Below.refl _ _))
    go_wp2_with fail
    refine M1.out.mono ?_
    rintro e w1 ⟨rfl, l1⟩
    have N1 := Lib.hid (N.out w1 l1)
    go_wp2_with fail
    refine N1.out.mono ?_
    rintro e w' ⟨rfl, rfl⟩
    go_wp2_with fail
    refine N1.out.mono ?_
    rintro e w' ⟨rfl, rfl⟩
    have M2 := Lib.hid (M.out w1 l1)
    go_wp2_with fail
    refine M2.out.mono ?_
    rintro e w2 ⟨rfl, l2⟩
    go_wp2
    go_ret3
    exact ⟨rfl, lo_on l1 l2⟩
theorem narrow_both (zs : List (Int × Int)) : ∃ (x0 x1 : Int) (r : Bool), (∀ v w, LoadRow w v zs → Calls Try.prog 59 #[v] w fun e w' => e = .returned (.tuple #[.int .i64 x0, .int .i64 x1, .bool r]) ∧ Below w.heap.size w w') ∧
      (∀ v w, LoadRow w v zs → Calls Try.prog 60 #[v] w fun e w' => e = .returned (.tuple #[.int .i64 x0, .int .i64 x1, .bool r]) ∧ Below w.heap.size w w') := by
  by_cases h : rowB zs = false ∨ zs = []
  · exact ⟨0, 0, false, fun v w hr => specNarrow_no v zs w hr h, fun v w hr => narrow_no v zs w hr h⟩
  · have h1 : rowB zs = true := by
      cases e : rowB zs with
      | true => rfl
      | false => exact absurd (.inl e) h
    have h2 : zs ≠ [] := fun e => h (.inr e)
    exact ⟨_, _, true, fun v w hr => specNarrow_yes v zs w hr ((rowB_iff zs).1 h1) h2, fun v w hr => narrow_yes v zs w hr ((rowB_iff zs).1 h1) h2⟩
end Go.Proofs.Ythihamjgfemacaa
