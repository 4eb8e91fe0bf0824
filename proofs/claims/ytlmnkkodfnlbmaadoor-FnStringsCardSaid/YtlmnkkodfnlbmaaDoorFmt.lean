/- The contracts of FormatInt: the program's and the model's. -/
import Derived.Test.YtlmnkkodfnlbmaaDoorNum
import Derived.Test.YtlmnkkodfnlbmaaDoorWorld
import Derived.Test.YtlmnkkodfnlbmaaDoorShelf
namespace Go.Proofs.YtlmnkkodfnlbmaaDoor
open Go.RowKit
theorem specFmt_yes (a : Int) (w : World) (h0 : -999999 ≤ a) (h1 : a ≤ 999999) :
    Calls Tryd.prog 11 #[.int .i64 a] w fun e w' => e = .returned (.tuple #[.string ⟨(Lib.itoa a).toArray⟩, .bool true]) ∧ Lo w w' := by
  have c := Lib.hid (l1In_any a (-999999) 999999 w)
  rw [show (decide (-999999 ≤ a) && decide (a ≤ 999999)) = true by simp; omega] at c
  go_enter Tryd.func11, Tryd.ntmps11
  go_wp2_with (first | (go_at_call 24; refine c.out.mono ?_; rintro e w' ⟨rfl, rfl⟩) | (go_at_call 25; refine (l1Num_any _ _ (by omega) (by omega)).mono ?_; rintro e w' ⟨rfl, m, rfl⟩))
  go_ret2
  exact ⟨rfl, lo_drew _ _⟩
theorem specFmt_no (a : Int) (w : World) (h : ¬ (-999999 ≤ a ∧ a ≤ 999999)) :
    Calls Tryd.prog 11 #[.int .i64 a] w fun e w' => e = .returned (.tuple #[.string ⟨#[]⟩, .bool false]) ∧ Lo w w' := by
  have c := Lib.hid (l1In_any a (-999999) 999999 w)
  rw [show (decide (-999999 ≤ a) && decide (a ≤ 999999)) = false by simp; omega] at c
  go_enter Tryd.func11, Tryd.ntmps11
  go_wp2_with (go_at_call 24; refine c.out.mono ?_; rintro e w' ⟨rfl, rfl⟩)
  go_ret2
  exact ⟨rfl, Below.refl _ _⟩
theorem implFmt_yes (a : Int) (w : World) (h0 : -999999 ≤ a) (h1 : a ≤ 999999) (ht : Tab w) :
    Calls Tryd.prog 10 #[.int .i64 a] w fun e w' => e = .returned (.tuple #[.string ⟨(Lib.itoa a).toArray⟩, .bool true]) ∧ Lo w w' := by
  go_enter Tryd.func10, Tryd.ntmps10
  go_wp2_with (go_at_call 23; refine (Tryd.strconv_Itoa _ (by omega) (by omega) _ ht).mono ?_; rintro e w' ⟨rfl, k, os, rfl⟩)
  go_ret2
  exact ⟨rfl, lo_grow _ _ _⟩
theorem implFmt_no (a : Int) (w : World) (h : ¬ (-999999 ≤ a ∧ a ≤ 999999)) :
    Calls Tryd.prog 10 #[.int .i64 a] w fun e w' => e = .returned (.tuple #[.string ⟨#[]⟩, .bool false]) ∧ Lo w w' := by
  by_cases h1 : a < -999999
  · go_enter Tryd.func10, Tryd.ntmps10
    go_wp2
    go_ret2
    exact ⟨rfl, Below.refl _ _⟩
  · have h2 : 999999 < a := by omega
    clear h
    go_enter Tryd.func10, Tryd.ntmps10
    go_wp2
    go_ret2
    exact ⟨rfl, Below.refl _ _⟩
end Go.Proofs.YtlmnkkodfnlbmaaDoor
