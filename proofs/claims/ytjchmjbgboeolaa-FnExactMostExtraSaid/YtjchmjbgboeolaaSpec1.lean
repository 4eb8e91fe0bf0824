/- The contracts of the model's functions on one row and a base. -/
import Derived.Test.YtjchmjbgboeolaaImpl5
namespace Go.Proofs.Ytjchmjbgboeolaa
open Go.RowKit
theorem l2In_is (a : Int) (r : Bool) (h : (decide (0 ≤ a) && decide (a ≤ 60)) = r) (w : World) : Calls Try.prog 49 #[.int .i64 a] w fun e w' => e = .returned (.bool r) ∧ w = w' := by
  subst h
  exact l2In_any a w
theorem l2Base_any (a b : Int) (w : World) : Calls Try.prog 58 #[.int .i64 a, .int .i64 b] w fun e w' => e = .returned (.bool (baseB a b)) ∧ w = w' := by
  unfold baseB
  obtain ⟨b1, hb1⟩ : ∃ x, (decide (0 ≤ a) && decide (a ≤ 60)) = x := ⟨_, rfl⟩
  obtain ⟨b2, hb2⟩ : ∃ x, (decide (0 ≤ b) && decide (b ≤ 60)) = x := ⟨_, rfl⟩
  have D1 := Lib.hid (l2In_is a b1 hb1 w)
  have D2 := Lib.hid (l2In_is b b2 hb2 w)
  rw [hb1, hb2]
  clear hb1 hb2
  cases b1 with
  | false =>
    go_enter Try.func58, Try.ntmps58
    go_wp2_with fail
    refine D1.out.mono ?_
    rintro e w' ⟨rfl, rfl⟩
    go_wp2
    go_ret
    exact ⟨rfl, rfl⟩
  | true =>
    cases b2 with
    | false =>
      go_enter Try.func58, Try.ntmps58
      go_wp2_with fail
      refine D1.out.mono ?_
      rintro e w' ⟨rfl, rfl⟩
      go_wp2_with fail
      refine D2.out.mono ?_
      rintro e w' ⟨rfl, rfl⟩
      go_wp2
      go_ret
      exact ⟨rfl, rfl⟩
    | true =>
      by_cases h : a ≤ b
      all_goals go_enter Try.func58, Try.ntmps58
      all_goals go_wp2_with fail
      all_goals refine D1.out.mono ?_
      all_goals rintro e w' ⟨rfl, rfl⟩
      all_goals go_wp2_with fail
      all_goals refine D2.out.mono ?_
      all_goals rintro e w' ⟨rfl, rfl⟩
      all_goals go_wp2
      all_goals go_ret
      all_goals exact ⟨by simp [h], rfl⟩
theorem l2Row_is (v : Value) (xs : List (Int × Int)) (r : Bool) (h : rowB xs = r) (w : World) (hr : LoadRow w v xs) : Calls Try.prog 34 #[v] w fun e w' => e = .returned (.bool r) ∧ w = w' := by
  subst h
  exact l2Row_any v xs w hr
theorem l2On_is (v : Value) (xs : List (Int × Int)) (a b : Int) (r : Bool) (h : (rowB xs && baseB a b) = r) (w : World) (hr : LoadRow w v xs) :
    Calls Try.prog 43 #[v, .int .i64 a, .int .i64 b] w fun e w' => e = .returned (.bool r) ∧ w = w' := by
  subst h
  obtain ⟨b1, hb1⟩ : ∃ x, rowB xs = x := ⟨_, rfl⟩
  have D1 := Lib.hid (l2Row_is v xs b1 hb1 w hr)
  have D2 := Lib.hid (l2Base_any a b w)
  rw [hb1]
  clear hb1 hr
  obtain ⟨b2, hb2⟩ : ∃ x, baseB a b = x := ⟨_, rfl⟩
  rw [hb2] at D2 ⊢
  clear hb2
  cases b1 with
  | false =>
    go_enter Try.func43, Try.ntmps43
    go_wp2_with fail
    refine D1.out.mono ?_
    rintro e w' ⟨rfl, rfl⟩
    go_wp2
    go_ret
    exact ⟨rfl, rfl⟩
  | true =>
    cases b2
    all_goals
      (go_enter Try.func43, Try.ntmps43
       go_wp2_with fail
       refine D1.out.mono ?_
       rintro e w' ⟨rfl, rfl⟩
       go_wp2_with fail
       refine D2.out.mono ?_
       rintro e w' ⟨rfl, rfl⟩
       go_wp2
       go_ret
       exact ⟨rfl, rfl⟩)
theorem l2Side_any (v : Value) (xs : List (Int × Int)) (a b : Int) (w : World) (hr : LoadRow w v xs) (hz : RowF xs) (a0 : 0 ≤ a) (a1 : a ≤ 60) (b0 : 0 ≤ b) (b1 : b ≤ 60) :
    Calls Try.prog 44 #[v, .int .i64 a, .int .i64 b] w fun e w' => e = .returned (.int .i64 (sideF a b xs)) ∧ Below w.heap.size w w' := by
  have M1 := Lib.hid (l2Moment_any v xs a w hr hz a0 a1)
  have M2 := Lib.hid (fun w1 (l : Below w.heap.size w w1) => l2Moment_any v xs b w1 (hr.lo l) hz b0 b1)
  clear hr hz a0 a1 b0 b1
  unfold sideF
  generalize momF a xs = m at *
  generalize momF b xs = n at *
  by_cases h1 : m < 0
  · rw [if_pos h1]
    go_enter Try.func44, Try.ntmps44
    go_wp2_with fail
    refine M1.out.mono ?_
    rintro e w1 ⟨rfl, l1⟩
    go_wp2
    go_ret
    exact ⟨rfl, l1⟩
  · rw [if_neg h1]
    by_cases h2 : 0 < n
    case' pos => rw [if_pos h2]
    case' neg => rw [if_neg h2]
    all_goals
      (go_enter Try.func44, Try.ntmps44
       go_wp2_with fail
       refine M1.out.mono ?_
       rintro e w1 ⟨rfl, l1⟩
       have M3 := Lib.hid (M2.out w1 l1)
       clear M1 M2
       go_wp2_with fail
       refine M3.out.mono ?_
       rintro e w2 ⟨rfl, l2⟩
       go_wp2
       go_ret
       exact ⟨rfl, lo_on l1 l2⟩)
end Go.Proofs.Ytjchmjbgboeolaa
