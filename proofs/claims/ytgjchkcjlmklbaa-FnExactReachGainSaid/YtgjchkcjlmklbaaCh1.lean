/- The contracts of the model's functions on stages and chains. -/
import Derived.Test.YtgjchkcjlmklbaaChs
import Derived.Test.YtgjchkcjlmklbaaFrac
namespace Go.Proofs.Ytgjchkcjlmklbaa
open Go.RowKit
theorem l7Two_is (a b : Int) (r : Bool) (h : twoB a b = r) (w : World) : Calls Try.prog 240 #[.int .i64 a, .int .i64 b] w fun e w' => e = .returned (.bool r) ∧ w = w' := by
  subst h
  unfold twoB
  have I1 := Lib.hid (fun w => l1In_is a 1 24 (rtB a) rfl w)
  have I2 := Lib.hid (fun w => l1In_is b 1 24 (rtB b) rfl w)
  generalize rtB a = x at *
  generalize rtB b = y at *
  cases x with
  | false =>
    go_enter Try.func240, Try.ntmps240
    go_wp2_with fail
    refine (I1.out _).mono ?_
    rintro e w' ⟨rfl, rfl⟩
    go_wp2
    go_ret
    exact ⟨rfl, rfl⟩
  | true =>
    go_enter Try.func240, Try.ntmps240
    go_wp2_with fail
    refine (I1.out _).mono ?_
    rintro e w' ⟨rfl, rfl⟩
    go_wp2_with fail
    refine (I2.out _).mono ?_
    rintro e w' ⟨rfl, rfl⟩
    go_wp2
    go_ret
    exact ⟨rfl, rfl⟩
theorem below_one (w : World) (o : Obj) : Below w.heap.size w (w.alloc o) := (Below.refl _ _).alloc (Nat.le_refl _) o
set_option maxHeartbeats 1600000 in
theorem l7Stage_any (p : StageV) (w : World) : Calls Try.prog 186 #[.agg #[.int .i64 p.k, .int .i64 p.a, .int .i64 p.b]] w fun e w' => e = .returned (.bool (stgB p)) ∧ Below w.heap.size w w' := by
  obtain ⟨k, a, b⟩ := p
  unfold stgB
  simp only
  have T := Lib.hid (fun w => l7Two_is a b _ rfl w)
  have I := Lib.hid (fun w => l1In_is a 1 24 (rtB a) rfl w)
  generalize twoB a b = t at *
  generalize rtB a = r at *
  by_cases h1 : k = 1 ∨ k = 3
  · rw [if_pos h1]
    rcases h1 with rfl | rfl
    all_goals
      (go_enter Try.func186, Try.ntmps186
       go_wp2_with fail
       refine (T.out _).mono ?_
       rintro e w' ⟨rfl, rfl⟩
       go_wp2
       go_ret
       exact ⟨rfl, below_one _ _⟩)
  rw [if_neg h1]
  by_cases h2 : k = 2
  · subst h2
    rw [if_pos rfl]
    cases r with
    | false =>
      go_enter Try.func186, Try.ntmps186
      go_wp2_with fail
      refine (I.out _).mono ?_
      rintro e w' ⟨rfl, rfl⟩
      go_wp2
      go_ret
      exact ⟨rfl, below_one _ _⟩
    | true =>
      have hb : (b == 0) = decide (b = 0) := rfl
      generalize decide (b = 0) = z at *
      go_enter Try.func186, Try.ntmps186
      go_wp2_with fail
      refine (I.out _).mono ?_
      rintro e w' ⟨rfl, rfl⟩
      go_wp2
      go_ret
      exact ⟨rfl, below_one _ _⟩
  rw [if_neg h2]
  have k1 : (k == 1) = false := by simp; omega
  have k3 : (k == 3) = false := by simp; omega
  have k2 : (k == 2) = false := by simp; omega
  by_cases h4 : k = 4
  · subst h4
    rw [if_pos rfl]
    clear k1 k2 k3 h1 h2
    cases t with
    | false =>
      go_enter Try.func186, Try.ntmps186
      go_wp2_with fail
      refine (T.out _).mono ?_
      rintro e w' ⟨rfl, rfl⟩
      go_wp2
      go_ret
      exact ⟨rfl, below_one _ _⟩
    | true =>
      go_enter Try.func186, Try.ntmps186
      go_wp2_with fail
      refine (T.out _).mono ?_
      rintro e w' ⟨rfl, rfl⟩
      go_wp2
      go_ret
      exact ⟨rfl, below_one _ _⟩
  rw [if_neg h4]
  have k4 : (k == 4) = false := by simp; omega
  by_cases h5 : k = 5
  · subst h5
    rw [if_pos rfl]
    clear k1 k2 k3 k4 h1 h2 h4
    cases t with
    | false =>
      go_enter Try.func186, Try.ntmps186
      go_wp2_with fail
      refine (T.out _).mono ?_
      rintro e w' ⟨rfl, rfl⟩
      go_wp2
      go_ret
      exact ⟨rfl, below_one _ _⟩
    | true =>
      go_enter Try.func186, Try.ntmps186
      go_wp2_with fail
      refine (T.out _).mono ?_
      rintro e w' ⟨rfl, rfl⟩
      go_wp2
      go_ret
      exact ⟨rfl, below_one _ _⟩
  rw [if_neg h5]
  have k5 : (k == 5) = false := by simp; omega
  clear T I h1 h2 h4 h5
  go_enter Try.func186, Try.ntmps186
  go_wp2
  go_ret
  exact ⟨rfl, below_one _ _⟩
theorem l7Stage_is (p : StageV) (r : Bool) (h : stgB p = r) (w : World) : Calls Try.prog 186 #[.agg #[.int .i64 p.k, .int .i64 p.a, .int .i64 p.b]] w fun e w' => e = .returned (.bool r) ∧ Below w.heap.size w w' := by
  subst h
  exact l7Stage_any p w
theorem specIsStage_any (p : StageV) (w : World) : Calls Try.prog 106 #[.agg #[.int .i64 p.k, .int .i64 p.a, .int .i64 p.b]] w fun e w' => e = .returned (.bool (stgB p)) ∧ Below w.heap.size w w' := by
  have C := Lib.hid (fun w => l7Stage_any p w)
  generalize stgB p = r at *
  go_enter Try.func106, Try.ntmps106
  go_wp2_with fail
  refine (C.out _).mono ?_
  rintro e w1 ⟨rfl, l1⟩
  go_wp2
  go_ret
  exact ⟨rfl, lo_on (below_one _ _) l1⟩
end Go.Proofs.Ytgjchkcjlmklbaa
