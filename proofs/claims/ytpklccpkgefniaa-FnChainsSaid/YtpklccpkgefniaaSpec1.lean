/- The contracts of the model's functions on one row and a base. -/
import Derived.Test.YtpklccpkgefniaaImpl5
namespace Go.Proofs.Ytpklccpkgefniaa
open Go.RowKit
theorem l2In_is (a : Int) (r : Bool) (h : (decide (0 ≤ a) && decide (a ≤ 60)) = r) (w : World) : Calls Try.prog 220 #[.int .i64 a] w fun e w' => e = .returned (.bool r) ∧ w = w' := by
  subst h
  exact l2In_any a w
theorem l2Row_is (v : Value) (xs : List (Int × Int)) (r : Bool) (h : rowB xs = r) (w : World) (hr : LoadRow w v xs) : Calls Try.prog 198 #[v] w fun e w' => e = .returned (.bool r) ∧ w = w' := by
  subst h
  exact l2Row_any v xs w hr
theorem l2Side_any (v : Value) (xs : List (Int × Int)) (a b : Int) (w : World) (hr : LoadRow w v xs) (hz : RowF xs) (a0 : 0 ≤ a) (a1 : a ≤ 60) (b0 : 0 ≤ b) (b1 : b ≤ 60) :
    Calls Try.prog 158 #[v, .int .i64 a, .int .i64 b] w fun e w' => e = .returned (.int .i64 (sideF a b xs)) ∧ Below w.heap.size w w' := by
  have M1 := Lib.hid (l2Moment_any v xs a w hr hz a0 a1)
  have M2 := Lib.hid (fun w1 (l : Below w.heap.size w w1) => l2Moment_any v xs b w1 (hr.lo l) hz b0 b1)
  clear hr hz a0 a1 b0 b1
  unfold sideF
  generalize momF a xs = m at *
  generalize momF b xs = n at *
  by_cases h1 : m < 0
  · rw [if_pos h1]
    go_enter Try.func158, Try.ntmps158
    go_wp2_with fail
    refine M1.out.mono ?_
    rintro e w1 ⟨rfl, l1⟩
    go_wp2
    go_ret
    exact ⟨rfl, l1⟩
  · rw [if_neg h1]
    by_cases h2 : 0 < n
    case' pos => rw [if_pos h2]
    case' neg => rw [if_neg h2]
    all_goals
      (go_enter Try.func158, Try.ntmps158
       go_wp2_with fail
       refine M1.out.mono ?_
       rintro e w1 ⟨rfl, l1⟩
       have M3 := Lib.hid (M2.out w1 l1)
       clear M1 M2
       go_wp2_with fail
       refine M3.out.mono ?_
       rintro e w2 ⟨rfl, l2⟩
       go_wp2
       go_ret
       exact ⟨rfl, lo_on l1 l2⟩)
end Go.Proofs.Ytpklccpkgefniaa
