/- The contracts of the model's functions on one row and a base. -/
import Derived.Test.YtcfbnadefdcjaaaImpl5
namespace Go.Proofs.Ytcfbnadefdcjaaa
open Go.RowKit
theorem l2In_is (a : Int) (r : Bool) (h : (decide (0 ≤ a) && decide (a ≤ 60)) = r) (w : World) : Calls Try.prog 208 #[.int .i64 a] w fun e w' => e = .returned (.bool r) ∧ w = w' := by
  subst h
  exact l2In_any a w
theorem l2Base_any (a b : Int) (w : World) : Calls Try.prog 161 #[.int .i64 a, .int .i64 b] w fun e w' => e = .returned (.bool (baseB a b)) ∧ w = w' := by
  unfold baseB
  obtain ⟨b1, hb1⟩ : ∃ x, (decide (0 ≤ a) && decide (a ≤ 60)) = x := ⟨_, rfl⟩
  obtain ⟨b2, hb2⟩ : ∃ x, (decide (0 ≤ b) && decide (b ≤ 60)) = x := ⟨_, rfl⟩
  have D1 := Lib.hid (l2In_is a b1 hb1 w)
  have D2 := Lib.hid (l2In_is b b2 hb2 w)
  rw [hb1, hb2]
  clear hb1 hb2
  cases b1 with
  | false =>
    go_enter Try.func161, Try.ntmps161
    go_wp2_with fail
    refine D1.out.mono ?_
    rintro e w' ⟨rfl, rfl⟩
    go_wp2
    go_ret
    exact ⟨rfl, rfl⟩
  | true =>
    cases b2 with
    | false =>
      go_enter Try.func161, Try.ntmps161
      go_wp2_with fail
      refine D1.out.mono ?_
      rintro e w' ⟨rfl, rfl⟩
      go_wp2_with fail
      refine D2.out.mono ?_
      rintro e w' ⟨rfl, rfl⟩
      go_wp2
      go_ret
      exact ⟨rfl, rfl⟩
    | true =>
      by_cases h : a ≤ b
      all_goals go_enter Try.func161, Try.ntmps161
      all_goals go_wp2_with fail
      all_goals refine D1.out.mono ?_
      all_goals rintro e w' ⟨rfl, rfl⟩
      all_goals go_wp2_with fail
      all_goals refine D2.out.mono ?_
      all_goals rintro e w' ⟨rfl, rfl⟩
      all_goals go_wp2
      all_goals go_ret
      all_goals exact ⟨by simp [h], rfl⟩
theorem l2Row_is (v : Value) (xs : List (Int × Int)) (r : Bool) (h : rowB xs = r) (w : World) (hr : LoadRow w v xs) : Calls Try.prog 166 #[v] w fun e w' => e = .returned (.bool r) ∧ w = w' := by
  subst h
  exact l2Row_any v xs w hr
end Go.Proofs.Ytcfbnadefdcjaaa
