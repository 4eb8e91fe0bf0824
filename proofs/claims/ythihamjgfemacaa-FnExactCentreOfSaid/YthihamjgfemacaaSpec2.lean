/- The contracts of the model's centre, reactions and narrow base, and of the law's own comparison of two fractions. -/
import Derived.Test.YthihamjgfemacaaSpec1
namespace Go.Proofs.Ythihamjgfemacaa
open Go.RowKit
set_option maxHeartbeats 800000 in
theorem specCentre_no (v : Value) (xs : List (Int × Int)) (w : World) (hr : LoadRow w v xs) (hz : rowB xs = false ∨ xs = []) :
    Calls Try.prog 43 #[v] w fun e w' => e = .returned (.tuple #[.agg #[.int .i64 0, .int .i64 0], .bool false]) ∧ Below w.heap.size w w' := by
  have hl : Below w.heap.size w (w.alloc (.cells #[.int .i64 0, .int .i64 0] 43)) := (Below.refl _ _).alloc (Nat.le_refl _) _
  obtain ⟨b, hb⟩ : ∃ b, rowB xs = b := ⟨_, rfl⟩
  have D := Lib.hid (l2Row_is v xs b hb _ (hr.lo hl))
  have hbe : b = false ∨ xs.length = 0 := by
    rcases hz with h | h
    · exact .inl (hb.symm.trans h)
    · exact .inr (by rw [h]; rfl)
  obtain ⟨a, c, rfl, _⟩ := hr
  clear hz hb hl
  cases b
  case' true =>
    have h0 : xs.length = 0 := by simpa using hbe
    rw [h0] at D ⊢
  all_goals
    (clear hbe
     go_enter Try.func43, Try.ntmps43
     go_wp2_with fail
     refine D.out.mono ?_
     rintro e w1 ⟨rfl, rfl⟩
     obtain ⟨c1, c2, f1, f2, L1⟩ := res_cells (Below.refl _ (w.alloc (.cells #[.int .i64 0, .int .i64 0] 43)))
     have LL := Lib.hid L1
     clear L1 D
     go_wp2
     exact bodyPost_ret (v := .tuple #[.agg #[.int .i64 0, .int .i64 0], .bool false]) (by simp [results, Try.results43, go_sem]) rfl ⟨rfl, LL.out⟩)
set_option maxHeartbeats 800000 in
theorem specCentre_yes (v : Value) (xs : List (Int × Int)) (w : World) (hr : LoadRow w v xs) (hz : RowF xs) (hne : xs ≠ []) :
    Calls Try.prog 43 #[v] w fun e w' => e = .returned (.tuple #[.agg #[.int .i64 (cutA (momF 0 xs) (wtF xs)), .int .i64 (cutB (momF 0 xs) (wtF xs))], .bool true]) ∧ Below w.heap.size w w' := by
  have hl : Below w.heap.size w (w.alloc (.cells #[.int .i64 0, .int .i64 0] 43)) := (Below.refl _ _).alloc (Nat.le_refl _) _
  have hb := rowF_bounds hz
  have hpos := hb.2.2.1 hne
  have hm := hb.2.2.2 0 (by omega) (by omega)
  have h2 := hb.2.1
  have D := Lib.hid (l2Row_is v xs true ((rowB_iff xs).2 hz) _ (hr.lo hl))
  have M := Lib.hid (l2Moment_any v xs 0 _ (hr.lo hl) hz (by omega) (by omega))
  have M2 := Lib.hid (fun w1 (l : Below (w.alloc (.cells #[.int .i64 0, .int .i64 0] 43)).heap.size (w.alloc (.cells #[.int .i64 0, .int .i64 0] 43)) w1) => l2Weight_any v xs w1 ((hr.lo hl).lo l) hz)
  have M3 := Lib.hid (fun w => l2Cut_any (momF 0 xs) (wtF xs) w (by omega) (by omega) (by omega) (by omega))
  have hln : ¬ xs.length = 0 := fun h => hne (List.length_eq_zero_iff.1 h)
  have hlb : ((xs.length : Int) == 0) = false := by simpa using hne
  obtain ⟨a, c, rfl, _⟩ := hr
  clear hz hl hb hne
  generalize momF 0 xs = m at *
  generalize wtF xs = n at *
  generalize cutA m n = u at *
  generalize cutB m n = t at *
  go_enter Try.func43, Try.ntmps43
  go_wp2_with fail
  refine D.out.mono ?_
  rintro e w' ⟨rfl, rfl⟩
  go_wp2_with fail
  refine M.out.mono ?_
  rintro e w1 ⟨rfl, l1⟩
  have M4 := Lib.hid (M2.out w1 l1)
  go_wp2_with fail
  refine M4.out.mono ?_
  rintro e w' ⟨rfl, rfl⟩
  go_wp2_with fail
  refine (M3.out _).mono ?_
  rintro e w3 ⟨rfl, l4⟩
  have l5 := lo_on l1 l4
  clear l1 l4 M M2 M3 M4 D
  obtain ⟨c1, c2, f1, f2, L1⟩ := res_cells l5
  have TS := Lib.hid (two_set w3 w.heap.size 0 (.int .i64 u) (.int .i64 t) c1 c2)
  have LL := Lib.hid L1
  clear l5 L1
  go_wp2
  obtain ⟨q0, q1, _⟩ := TS.out
  rw [Nat.zero_add] at q0 q1
  exact bodyPost_ret (v := .tuple #[.agg #[.int .i64 u, .int .i64 t], .bool true]) (by simp [results, Try.results43, go_sem, q0, q1]) rfl ⟨rfl, two_below LL.out _ _⟩
set_option maxHeartbeats 1600000 in
theorem specReactions_no (v : Value) (xs : List (Int × Int)) (a b : Int) (w : World) (hr : LoadRow w v xs) (hz : (rowB xs && baseB a b) = false ∨ a = b) :
    Calls Try.prog 47 #[v, .int .i64 a, .int .i64 b] w fun e w' => e = .returned (.tuple #[.agg #[.int .i64 0, .int .i64 0], .agg #[.int .i64 0, .int .i64 0], .bool false]) ∧ Below w.heap.size w w' := by
  have hl : Below w.heap.size w ((w.alloc (.cells #[.int .i64 0, .int .i64 0] 43)).alloc (.cells #[.int .i64 0, .int .i64 0] 43)) := alloc_two _ _ _
  obtain ⟨r, hrb⟩ : ∃ r, (rowB xs && baseB a b) = r := ⟨_, rfl⟩
  have D := Lib.hid (l2On_is v xs a b r hrb _ (hr.lo hl))
  rw [hrb] at hz
  clear hr hl hrb
  cases r
  case' true =>
    obtain rfl : a = b := by simpa using hz
  all_goals
    (clear hz
     go_enter Try.func47, Try.ntmps47
     go_wp2_with fail
     refine D.out.mono ?_
     rintro e w1 ⟨rfl, rfl⟩
     obtain ⟨c1, c2, f1, f2, c3, c4, f3, f4, L1⟩ := res_cells2 (Below.refl _ ((w.alloc (.cells #[.int .i64 0, .int .i64 0] 43)).alloc (.cells #[.int .i64 0, .int .i64 0] 43)))
     have LL := Lib.hid L1
     clear L1 D
     go_wp2
     exact bodyPost_ret (v := .tuple #[.agg #[.int .i64 0, .int .i64 0], .agg #[.int .i64 0, .int .i64 0], .bool false]) (by simp [results, Try.results47, go_sem]) rfl ⟨rfl, LL.out⟩)
set_option maxHeartbeats 1600000 in
theorem specReactions_yes (v : Value) (xs : List (Int × Int)) (a b : Int) (w : World) (hr : LoadRow w v xs) (hz : RowF xs) (hbs : baseB a b = true) (hab : a ≠ b) :
    Calls Try.prog 47 #[v, .int .i64 a, .int .i64 b] w fun e w' => e = .returned (.tuple #[.agg #[.int .i64 (cutA (-momF b xs) (b - a)), .int .i64 (cutB (-momF b xs) (b - a))], .agg #[.int .i64 (cutA (momF a xs) (b - a)), .int .i64 (cutB (momF a xs) (b - a))], .bool true]) ∧ Below w.heap.size w w' := by
  have hl : Below w.heap.size w ((w.alloc (.cells #[.int .i64 0, .int .i64 0] 43)).alloc (.cells #[.int .i64 0, .int .i64 0] 43)) := alloc_two _ _ _
  have hb := rowF_bounds hz
  have hbb := (baseB_iff a b).1 hbs
  have m1 := hb.2.2.2 a (by omega) (by omega)
  have m2 := hb.2.2.2 b (by omega) (by omega)
  have D := Lib.hid (l2On_is v xs a b true (by rw [(rowB_iff xs).2 hz, hbs]; rfl) _ (hr.lo hl))
  have N1 := Lib.hid (l2Moment_any v xs b _ (hr.lo hl) hz (by omega) (by omega))
  have N2 := Lib.hid (fun w1 (l : Below ((w.alloc (.cells #[.int .i64 0, .int .i64 0] 43)).alloc (.cells #[.int .i64 0, .int .i64 0] 43)).heap.size ((w.alloc (.cells #[.int .i64 0, .int .i64 0] 43)).alloc (.cells #[.int .i64 0, .int .i64 0] 43)) w1) => l2Moment_any v xs a w1 ((hr.lo hl).lo l) hz (by omega) (by omega))
  have M3 := Lib.hid (fun w => l2Cut_any (-momF b xs) (b - a) w (by omega) (by omega) (by omega) (by omega))
  have M4 := Lib.hid (fun w => l2Cut_any (momF a xs) (b - a) w (by omega) (by omega) (by omega) (by omega))
  clear hr hz hl hb hbs
  generalize momF b xs = m at *
  generalize momF a xs = n at *
  generalize cutA (-m) (b - a) = u at *
  generalize cutB (-m) (b - a) = t at *
  generalize cutA n (b - a) = y at *
  generalize cutB n (b - a) = z at *
  have hnb : (a == b) = false := by simp [hab]
  have d0 : 0 ≤ b - a := by omega
  have d1 : b - a ≤ 60 := by omega
  go_enter Try.func47, Try.ntmps47
  go_wp2_with fail
  refine D.out.mono ?_
  rintro e w' ⟨rfl, rfl⟩
  go_wp2_with fail
  refine N1.out.mono ?_
  rintro e w1 ⟨rfl, l1⟩
  go_wp2_with fail
  refine (M3.out _).mono ?_
  rintro e w2 ⟨rfl, l2⟩
  have l3 := lo_on l1 l2
  have N3 := Lib.hid (N2.out w2 l3)
  go_wp2_with fail
  refine N3.out.mono ?_
  rintro e w4 ⟨rfl, l6⟩
  have l7 := lo_on l3 l6
  go_wp2_with fail
  refine (M4.out _).mono ?_
  rintro e w3 ⟨rfl, l4⟩
  have l5 := lo_on l7 l4
  clear l1 l2 l3 l4 l6 l7 M3 M4 N1 N2 N3 D
  obtain ⟨c1, c2, f1, f2, c3, c4, f3, f4, L1⟩ := res_cells2 l5
  have TS := Lib.hid (four_set w3 w.heap.size (w.heap.size + 1) (by omega) (.int .i64 u) (.int .i64 t) (.int .i64 y) (.int .i64 z) c1 c2 c3 c4)
  have LL := Lib.hid L1
  clear l5 L1
  go_wp2
  obtain ⟨q0, q1, q2, q3⟩ := TS.out
  exact bodyPost_ret (v := .tuple #[.agg #[.int .i64 u, .int .i64 t], .agg #[.int .i64 y, .int .i64 z], .bool true]) (by simp [results, Try.results47, go_sem, q0, q1, q2, q3]) rfl ⟨rfl, four_below LL.out _ _ _ _⟩
set_option maxHeartbeats 800000 in
theorem eqA2_same (p q : Int) (w : World) : Calls Try.prog 45 #[.agg #[.int .i64 p, .int .i64 q], .agg #[.int .i64 p, .int .i64 q]] w fun e w' => e = .returned (.bool true) ∧ Below w.heap.size w w' := by
  go_enter Try.func45, Try.ntmps45
  go_wp2
  refine wp_loop_rounds 3 ?_
  rw [rounds_succ]
  go_wp2
  go_quiet (fail)
  go_wp2
  rw [rounds_succ]
  go_wp2
  go_quiet (fail)
  go_wp2
  rw [rounds_succ]
  go_wp2
  go_ret
  exact ⟨rfl, (alloc_two _ _ _).trans ((drewN_below _ _).mono (by simp; omega))⟩
end Go.Proofs.Ythihamjgfemacaa
