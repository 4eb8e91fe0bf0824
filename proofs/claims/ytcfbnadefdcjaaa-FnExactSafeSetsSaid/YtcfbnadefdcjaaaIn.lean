/- The model's tests of bounds. -/
import Derived.Test.YtcfbnadefdcjaaaProg
import Derived.Lib.Hide
import Derived.Below
import Derived.WalkKit
import Derived.Deep.QuietTactic
namespace Go.Proofs.Ytcfbnadefdcjaaa
open Go.RowKit
theorem l1In_is (x a b : Int) (r : Bool) (h : (decide (a ≤ x) && decide (x ≤ b)) = r) (w : World) : Calls Try.prog 139 #[.int .i64 x, .int .i64 a, .int .i64 b] w fun e w' => e = .returned (.bool r) ∧ w = w' := by
  subst h
  by_cases h1 : a ≤ x
  · by_cases h2 : x ≤ b
    all_goals go_enter Try.func139, Try.ntmps139
    all_goals go_wp2
    all_goals go_ret
    all_goals exact ⟨by simp [h1, h2], rfl⟩
  · go_enter Try.func139, Try.ntmps139
    go_wp2
    go_ret
    exact ⟨by simp; omega, rfl⟩
theorem l1In_q (x a b : Int) (r : Bool) (h : (decide (a ≤ x) && decide (x ≤ b)) = r) (w : World) : Calls Try.prog 139 #[.int .i64 x, .int .i64 a, .int .i64 b] w fun e w' => e = .returned (.bool r) ∧ w' = w :=
  (l1In_is x a b r h w).mono fun _ _ ⟨h, k⟩ => ⟨h, k.symm⟩
theorem lo_drewN {a w : World} (h : Below a.heap.size a w) (n : Nat) : Below a.heap.size a (w.drewN n) := h.trans ⟨rfl, rfl, rfl, Nat.le_refl _, fun _ _ => rfl⟩
theorem isWeight_is (p : Int) (r : Bool) (h : (decide (1 ≤ p) && decide (p ≤ 99)) = r) (w : World) : Calls Try.prog 209 #[.int .i64 p] w fun e w' => e = .returned (.bool r) ∧ w = w' := by
  subst h
  by_cases h1 : 1 ≤ p
  · by_cases h2 : p ≤ 99
    all_goals go_enter Try.func209, Try.ntmps209
    all_goals go_wp2
    all_goals go_ret
    all_goals exact ⟨by simp [h1, h2], rfl⟩
  · go_enter Try.func209, Try.ntmps209
    go_wp2
    go_ret
    exact ⟨by simp; omega, rfl⟩
theorem lo_on {a b c : World} (h : Below a.heap.size a b) (k : Below b.heap.size b c) : Below a.heap.size a c := h.trans (k.mono h.size)
end Go.Proofs.Ytcfbnadefdcjaaa
