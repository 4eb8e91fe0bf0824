/- The contracts of both sides' functions that tell whether a raft, cargo and a set are valid. -/
import Derived.Test.YtcfbnadefdcjaaaRfR
import Derived.Test.YtcfbnadefdcjaaaRfB
import Derived.Test.YtcfbnadefdcjaaaImpl4
import Derived.Test.YtcfbnadefdcjaaaSpec1
import Derived.Test.YtcfbnadefdcjaaaSw1
import Derived.Test.YtcfbnadefdcjaaaIntLaw
namespace Go.Proofs.Ytcfbnadefdcjaaa
open Go.RowKit
theorem below_one (w : World) (x : Obj) : Below w.heap.size w (w.alloc x) := (Below.refl _ _).alloc (Nat.le_refl _) _
theorem below_two {w w1 : World} (l : Below w.heap.size w w1) (x : Obj) : Below w.heap.size w (w1.alloc x) := l.alloc l.size _
set_option maxHeartbeats 800000 in
theorem l10Raft_any (a b o : Int) (w : World) : Calls Try.prog 88 #[.agg #[.int .i64 a, .int .i64 b, .int .i64 o]] w fun e w' => e = .returned (.bool (raftB a b o)) ∧ Below w.heap.size w w' := by
  unfold raftB
  have D1 := Lib.hid (fun w => l2Base_any a b w)
  have D2 := Lib.hid (fun w => l1In_is o 1 99 _ rfl w)
  generalize baseB a b = x at *
  generalize (decide (1 ≤ o) && decide (o ≤ 99)) = y at *
  cases x with
  | false =>
    go_enter Try.func88, Try.ntmps88
    go_wp2_with fail
    refine (D1.out _).mono ?_
    rintro e w' ⟨rfl, rfl⟩
    go_wp2
    go_ret
    exact ⟨rfl, by first | exact Below.refl _ _ | exact below_one _ _⟩
  | true =>
    go_enter Try.func88, Try.ntmps88
    go_wp2_with fail
    refine (D1.out _).mono ?_
    rintro e w' ⟨rfl, rfl⟩
    go_wp2_with fail
    refine (D2.out _).mono ?_
    rintro e w' ⟨rfl, rfl⟩
    go_wp2
    go_ret
    exact ⟨rfl, by first | exact Below.refl _ _ | exact below_one _ _⟩
set_option maxHeartbeats 800000 in
theorem specIsRaft_any (a b o : Int) (w : World) : Calls Try.prog 21 #[.agg #[.int .i64 a, .int .i64 b, .int .i64 o]] w fun e w' => e = .returned (.bool (raftB a b o)) ∧ Below w.heap.size w w' := by
  have D1 := Lib.hid (fun w => l10Raft_any a b o w)
  generalize raftB a b o = x at *
  go_enter Try.func21, Try.ntmps21
  go_wp2_with fail
  refine (D1.out _).mono ?_
  rintro e w' ⟨rfl, l⟩
  have LB := Lib.hid ((below_one w (.cells #[.int .i64 a, .int .i64 b, .int .i64 o] 25)).trans (l.mono (by simp)))
  clear l D1
  go_wp2
  go_ret
  exact ⟨rfl, by first | exact LB.out | exact (below_one _ _).trans (LB.out.mono (by simp))⟩
set_option maxHeartbeats 800000 in
theorem implIsRaft_any (a b o : Int) (w : World) : Calls Try.prog 23 #[.agg #[.int .i64 a, .int .i64 b, .int .i64 o]] w fun e w' => e = .returned (.bool (raftB a b o)) ∧ Below w.heap.size w w' := by
  unfold raftB
  have D1 := Lib.hid (fun w => isBase_is a b _ rfl w)
  generalize baseB a b = x at *
  cases x with
  | false =>
    go_enter Try.func23, Try.ntmps23
    go_wp2_with fail
    refine (D1.out _).mono ?_
    rintro e w' ⟨rfl, rfl⟩
    go_wp2
    go_ret
    exact ⟨rfl, by first | exact Below.refl _ _ | exact below_one _ _⟩
  | true =>
    by_cases h1 : 1 ≤ o
    · by_cases h2 : o ≤ 99
      all_goals go_enter Try.func23, Try.ntmps23
      all_goals go_wp2_with fail
      all_goals refine (D1.out _).mono ?_
      all_goals rintro e w' ⟨rfl, rfl⟩
      all_goals go_wp2
      all_goals go_ret
      all_goals exact ⟨by simp [h1, h2], by first | exact Below.refl _ _ | exact below_one _ _⟩
    · go_enter Try.func23, Try.ntmps23
      go_wp2_with fail
      refine (D1.out _).mono ?_
      rintro e w' ⟨rfl, rfl⟩
      go_wp2
      go_ret
      exact ⟨by simp; omega, by first | exact Below.refl _ _ | exact below_one _ _⟩
theorem cargo_no {a b o : Int} {row : List (Int × Int)} (h : raftB a b o = false) : cargoB a b o row = false := by unfold cargoB; rw [h]; rfl
theorem cargo_row {a b o : Int} {row : List (Int × Int)} (_ : raftB a b o = true) (h1 : rowB row = false) : cargoB a b o row = false := by
  rw [Bool.eq_false_iff]
  intro h2
  rw [(rowB_iff row).2 ((cargoB_iff _ _ _ _).1 h2).2.2] at h1
  cases h1
theorem cargo_len {a b o : Int} {row : List (Int × Int)} (h : ¬ row.length ≤ 8) : cargoB a b o row = false := by
  rw [Bool.eq_false_iff]
  intro h2
  exact h ((cargoB_iff _ _ _ _).1 h2).2.1
theorem cargo_yes {a b o : Int} {row : List (Int × Int)} (h : raftB a b o = true) (h1 : rowB row = true) (h2 : row.length ≤ 8) : cargoB a b o row = true := (cargoB_iff _ _ _ _).2 ⟨h, h2, (rowB_iff row).1 h1⟩
set_option maxHeartbeats 1600000 in
theorem l10Cargo_any (a b o : Int) (v : Value) (row : List (Int × Int)) (w : World) (hr : LoadRow w v row) : Calls Try.prog 98 #[.agg #[.int .i64 a, .int .i64 b, .int .i64 o], v] w fun e w' => e = .returned (.bool (cargoB a b o row)) ∧ Below w.heap.size w w' := by
  have D1 := Lib.hid (fun w => l10Raft_any a b o w)
  have D2 := Lib.hid (fun w1 (l : Below w.heap.size w w1) => l2Row_any v row w1 (hr.lo l))
  have C1 := Lib.hid (fun h => cargo_no (a := a) (b := b) (o := o) (row := row) h)
  have C2 := Lib.hid (fun h h1 => cargo_row (a := a) (b := b) (o := o) (row := row) h h1)
  have C3 := Lib.hid (fun h => cargo_len (a := a) (b := b) (o := o) (row := row) h)
  have C4 := Lib.hid (fun h h1 h2 => cargo_yes (a := a) (b := b) (o := o) (row := row) h h1 h2)
  generalize raftB a b o = x at *
  generalize rowB row = y at *
  generalize cargoB a b o row = z at *
  obtain ⟨ad, c, rfl, hr⟩ := hr
  clear hr
  cases x with
  | false =>
    obtain rfl := C1.out rfl
    go_enter Try.func98, Try.ntmps98
    go_wp2_with fail
    refine (D1.out _).mono ?_
    rintro e w' ⟨rfl, l⟩
    have LB := Lib.hid ((below_one w (.cells #[.int .i64 a, .int .i64 b, .int .i64 o] 25)).trans (l.mono (by simp)))
    clear l D1 D2
    go_wp2
    go_ret
    exact ⟨rfl, by first | exact LB.out | exact (below_one _ _).trans (LB.out.mono (by simp))⟩
  | true =>
    cases y with
    | false =>
      obtain rfl := C2.out rfl rfl
      go_enter Try.func98, Try.ntmps98
      go_wp2_with fail
      refine (D1.out _).mono ?_
      rintro e w' ⟨rfl, l⟩
      have LB := Lib.hid ((below_one w (.cells #[.int .i64 a, .int .i64 b, .int .i64 o] 25)).trans (l.mono (by simp)))
      clear l D1
      go_wp2_with fail
      refine (D2.out _ LB.out).mono ?_
      rintro e w'' ⟨rfl, rfl⟩
      clear D2
      go_wp2
      go_ret
      exact ⟨rfl, LB.out⟩
    | true =>
      by_cases h8 : row.length ≤ 8
      · obtain rfl := C4.out rfl rfl h8
        have h8' : (row.length : Int) ≤ 8 := by omega
        go_enter Try.func98, Try.ntmps98
        go_wp2_with fail
        refine (D1.out _).mono ?_
        rintro e w' ⟨rfl, l⟩
        have LB := Lib.hid ((below_one w (.cells #[.int .i64 a, .int .i64 b, .int .i64 o] 25)).trans (l.mono (by simp)))
        clear l D1
        go_wp2_with fail
        refine (D2.out _ LB.out).mono ?_
        rintro e w'' ⟨rfl, rfl⟩
        clear D2
        go_wp2
        go_ret
        exact ⟨by first | rfl | (simp; done) | (simp; omega), LB.out⟩
      · obtain rfl := C3.out h8
        have h8' : ¬ (row.length : Int) ≤ 8 := by omega
        go_enter Try.func98, Try.ntmps98
        go_wp2_with fail
        refine (D1.out _).mono ?_
        rintro e w' ⟨rfl, l⟩
        have LB := Lib.hid ((below_one w (.cells #[.int .i64 a, .int .i64 b, .int .i64 o] 25)).trans (l.mono (by simp)))
        clear l D1
        go_wp2_with fail
        refine (D2.out _ LB.out).mono ?_
        rintro e w'' ⟨rfl, rfl⟩
        clear D2
        go_wp2
        go_ret
        exact ⟨by first | rfl | (simp; done) | (simp; omega), LB.out⟩
set_option maxHeartbeats 1600000 in
theorem canTake_any (a b o : Int) (v : Value) (row : List (Int × Int)) (w : World) (hr : LoadRow w v row) : Calls Try.prog 94 #[.agg #[.int .i64 a, .int .i64 b, .int .i64 o], v] w fun e w' => e = .returned (.bool (cargoB a b o row)) ∧ Below w.heap.size w w' := by
  have D1 := Lib.hid (fun w => implIsRaft_any a b o w)
  have D2 := Lib.hid (fun w1 (l : Below w.heap.size w w1) => isRow_any v row w1 (hr.lo l))
  have C1 := Lib.hid (fun h => cargo_no (a := a) (b := b) (o := o) (row := row) h)
  have C2 := Lib.hid (fun h h1 => cargo_row (a := a) (b := b) (o := o) (row := row) h h1)
  have C3 := Lib.hid (fun h => cargo_len (a := a) (b := b) (o := o) (row := row) h)
  have C4 := Lib.hid (fun h h1 h2 => cargo_yes (a := a) (b := b) (o := o) (row := row) h h1 h2)
  generalize raftB a b o = x at *
  generalize rowB row = y at *
  generalize cargoB a b o row = z at *
  obtain ⟨ad, c, rfl, hr⟩ := hr
  clear hr
  cases x with
  | false =>
    obtain rfl := C1.out rfl
    go_enter Try.func94, Try.ntmps94
    go_wp2_with fail
    refine (D1.out _).mono ?_
    rintro e w' ⟨rfl, l⟩
    have LB := Lib.hid ((below_one w (.cells #[.int .i64 a, .int .i64 b, .int .i64 o] 25)).trans (l.mono (by simp)))
    clear l D1 D2
    go_wp2
    go_ret
    exact ⟨rfl, by first | exact LB.out | exact (below_one _ _).trans (LB.out.mono (by simp))⟩
  | true =>
    by_cases h8 : row.length ≤ 8
    · have h8' : (row.length : Int) ≤ 8 := by omega
      cases y with
      | false =>
        obtain rfl := C2.out rfl rfl
        go_enter Try.func94, Try.ntmps94
        go_wp2_with fail
        refine (D1.out _).mono ?_
        rintro e w' ⟨rfl, l⟩
        have LB := Lib.hid ((below_one w (.cells #[.int .i64 a, .int .i64 b, .int .i64 o] 25)).trans (l.mono (by simp)))
        clear l D1
        go_wp2_with fail
        refine (D2.out _ LB.out).mono ?_
        rintro e w2 ⟨rfl, l⟩
        have LC := Lib.hid (lo_on LB.out l)
        clear l D2
        go_wp2
        go_ret
        exact ⟨rfl, LC.out⟩
      | true =>
        obtain rfl := C4.out rfl rfl h8
        go_enter Try.func94, Try.ntmps94
        go_wp2_with fail
        refine (D1.out _).mono ?_
        rintro e w' ⟨rfl, l⟩
        have LB := Lib.hid ((below_one w (.cells #[.int .i64 a, .int .i64 b, .int .i64 o] 25)).trans (l.mono (by simp)))
        clear l D1
        go_wp2_with fail
        refine (D2.out _ LB.out).mono ?_
        rintro e w2 ⟨rfl, l⟩
        have LC := Lib.hid (lo_on LB.out l)
        clear l D2
        go_wp2
        go_ret
        exact ⟨rfl, LC.out⟩
    · obtain rfl := C3.out h8
      have h8' : ¬ (row.length : Int) ≤ 8 := by omega
      go_enter Try.func94, Try.ntmps94
      go_wp2_with fail
      refine (D1.out _).mono ?_
      rintro e w' ⟨rfl, l⟩
      have LB := Lib.hid ((below_one w (.cells #[.int .i64 a, .int .i64 b, .int .i64 o] 25)).trans (l.mono (by simp)))
      clear l D1
      go_wp2
      go_ret
      exact ⟨rfl, LB.out⟩
end Go.Proofs.Ytcfbnadefdcjaaa
