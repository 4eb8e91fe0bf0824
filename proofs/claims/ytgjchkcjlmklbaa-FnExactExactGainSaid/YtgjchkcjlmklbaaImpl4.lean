/- The contracts of the program's own functions on one row and a base: centre, sides, reactions. -/
import Derived.Test.YtgjchkcjlmklbaaImpl3
namespace Go.Proofs.Ytgjchkcjlmklbaa
open Go.RowKit
def baseB (a b : Int) : Bool := decide (0 ≤ a) && decide (a ≤ 60) && (decide (0 ≤ b) && decide (b ≤ 60)) && decide (a ≤ b)
theorem baseB_iff (a b : Int) : baseB a b = true ↔ 0 ≤ a ∧ a ≤ b ∧ b ≤ 60 := by
  unfold baseB
  simp only [Bool.and_eq_true, decide_eq_true_eq]
  omega
theorem isBase_is (a b : Int) (r : Bool) (h : baseB a b = r) (w : World) : Calls Try.prog 271 #[.int .i64 a, .int .i64 b] w fun e w' => e = .returned (.bool r) ∧ w = w' := by
  subst h
  exact isBase_any a b w
theorem baseMoments_yes (v : Value) (xs : List (Int × Int)) (a b : Int) (w : World) (hr : LoadRow w v xs) (hz : RowF xs) (hb : baseB a b = true) :
    Calls Try.prog 255 #[v, .int .i64 a, .int .i64 b] w fun e w' => e = .returned (.tuple #[.int .i64 (momF a xs), .int .i64 (momF b xs), .bool true]) ∧ Below w.heap.size w w' := by
  have hb' := (baseB_iff a b).1 hb
  have B := Lib.hid (isBase_is a b true hb w)
  have M1 := Lib.hid (momentAbout_yes v xs a w hr hz (by omega) (by omega))
  have M2 := Lib.hid (fun w1 (l : Below w.heap.size w w1) => momentAbout_yes v xs b w1 (hr.lo l) hz (by omega) (by omega))
  clear hr hz hb
  go_enter Try.func255, Try.ntmps255
  go_wp2_with fail
  refine B.out.mono ?_
  rintro e w' ⟨rfl, rfl⟩
  go_wp2_with fail
  refine M1.out.mono ?_
  rintro e w1 ⟨rfl, l1⟩
  have M3 := Lib.hid (M2.out w1 l1)
  go_wp2_with fail
  refine M3.out.mono ?_
  rintro e w2 ⟨rfl, l2⟩
  go_wp2
  go_ret3
  exact ⟨rfl, lo_on l1 l2⟩
theorem baseMoments_no (v : Value) (xs : List (Int × Int)) (a b : Int) (w : World) (hr : LoadRow w v xs) (hz : (rowB xs && baseB a b) = false) :
    Calls Try.prog 255 #[v, .int .i64 a, .int .i64 b] w fun e w' => e = .returned (.tuple #[.int .i64 0, .int .i64 0, .bool false]) ∧ Below w.heap.size w w' := by
  cases hb : baseB a b with
  | false =>
    have B := Lib.hid (isBase_is a b false hb w)
    clear hr hz hb
    go_enter Try.func255, Try.ntmps255
    go_wp2_with fail
    refine B.out.mono ?_
    rintro e w' ⟨rfl, rfl⟩
    go_wp2
    go_ret3
    exact ⟨rfl, Below.refl _ _⟩
  | true =>
    have B := Lib.hid (isBase_is a b true hb w)
    rw [hb, Bool.and_true] at hz
    have M1 := Lib.hid (momentAbout_no v xs a w hr (by rw [hz]; rfl))
    have M2 := Lib.hid (fun w1 (l : Below w.heap.size w w1) => momentAbout_no v xs b w1 (hr.lo l) (by rw [hz]; rfl))
    clear hr hz hb
    go_enter Try.func255, Try.ntmps255
    go_wp2_with fail
    refine B.out.mono ?_
    rintro e w' ⟨rfl, rfl⟩
    go_wp2_with fail
    refine M1.out.mono ?_
    rintro e w1 ⟨rfl, l1⟩
    have M3 := Lib.hid (M2.out w1 l1)
    go_wp2_with fail
    refine M3.out.mono ?_
    rintro e w2 ⟨rfl, l2⟩
    go_wp2
    go_ret3
    exact ⟨rfl, lo_on l1 l2⟩
theorem tipSide_yes (v : Value) (xs : List (Int × Int)) (a b : Int) (w : World) (hr : LoadRow w v xs) (hz : RowF xs) (hb : baseB a b = true) :
    Calls Try.prog 225 #[v, .int .i64 a, .int .i64 b] w fun e w' => e = .returned (.tuple #[.int .i64 (sideF a b xs), .bool true]) ∧ Below w.heap.size w w' := by
  have M := Lib.hid (baseMoments_yes v xs a b w hr hz hb)
  clear hr hz hb
  unfold sideF
  by_cases h1 : momF a xs < 0
  · rw [if_pos h1]
    go_enter Try.func225, Try.ntmps225
    go_wp2_with fail
    refine M.out.mono ?_
    rintro e w1 ⟨rfl, l1⟩
    go_wp2
    go_ret2
    exact ⟨rfl, l1⟩
  · rw [if_neg h1]
    by_cases h2 : 0 < momF b xs
    · rw [if_pos h2]
      go_enter Try.func225, Try.ntmps225
      go_wp2_with fail
      refine M.out.mono ?_
      rintro e w1 ⟨rfl, l1⟩
      go_wp2
      go_ret2
      exact ⟨rfl, l1⟩
    · rw [if_neg h2]
      go_enter Try.func225, Try.ntmps225
      go_wp2_with fail
      refine M.out.mono ?_
      rintro e w1 ⟨rfl, l1⟩
      go_wp2
      go_ret2
      exact ⟨rfl, l1⟩
theorem tipSide_no (v : Value) (xs : List (Int × Int)) (a b : Int) (w : World) (hr : LoadRow w v xs) (hz : (rowB xs && baseB a b) = false) :
    Calls Try.prog 225 #[v, .int .i64 a, .int .i64 b] w fun e w' => e = .returned (.tuple #[.int .i64 0, .bool false]) ∧ Below w.heap.size w w' := by
  have M := Lib.hid (baseMoments_no v xs a b w hr hz)
  clear hr hz
  go_enter Try.func225, Try.ntmps225
  go_wp2_with fail
  refine M.out.mono ?_
  rintro e w1 ⟨rfl, l1⟩
  go_wp2
  go_ret2
  exact ⟨rfl, l1⟩
/-- What a result's own two cells hold behind calls. -/
theorem res_cells {w w1 : World} {T : TypeId} {x y : Value} (l : Below (w.alloc (.cells #[x, y] T)).heap.size (w.alloc (.cells #[x, y] T)) w1) :
    w1.cell? ⟨w.heap.size, 0, none⟩ = some x ∧ w1.cell? ⟨w.heap.size, 1, none⟩ = some y ∧ w1.frozen? ⟨w.heap.size, 0, none⟩ = false ∧ w1.frozen? ⟨w.heap.size, 1, none⟩ = false ∧ Below w.heap.size w w1 := by
  have hb0 : w.heap.size < (w.alloc (.cells #[x, y] T)).heap.size := by simp
  refine ⟨?_, ?_, ?_, ?_, ((Below.refl _ _).alloc (Nat.le_refl _) _).trans (l.mono (by simp))⟩
  · rw [l.cell (p := ⟨w.heap.size, 0, none⟩) hb0, World.cell?_alloc_at _ _ _ _ rfl]; rfl
  · rw [l.cell (p := ⟨w.heap.size, 1, none⟩) hb0, World.cell?_alloc_at _ _ _ _ rfl]; rfl
  · rw [l.frozen (p := ⟨w.heap.size, 0, none⟩) hb0]; exact World.frozen?_alloc_at _ _ _ _ rfl
  · rw [l.frozen (p := ⟨w.heap.size, 1, none⟩) hb0]; exact World.frozen?_alloc_at _ _ _ _ rfl
theorem two_below {w w1 : World} {g : Nat} (h : Below g w w1) (x y : Value) : Below g w ((w1.setCell ⟨g, 0, none⟩ x).setCell ⟨g, 1, none⟩ y) :=
  (h.setCell (p := ⟨g, 0, none⟩) (Nat.le_refl _) _).setCell (p := ⟨g, 1, none⟩) (Nat.le_refl _) _
set_option maxHeartbeats 800000 in
theorem centreOf_no (v : Value) (xs : List (Int × Int)) (w : World) (hr : LoadRow w v xs) (hz : rowB xs = false ∨ xs = []) :
    Calls Try.prog 95 #[v] w fun e w' => e = .returned (.tuple #[.agg #[.int .i64 0, .int .i64 0], .bool false]) ∧ Below w.heap.size w w' := by
  have hl : Below w.heap.size w (w.alloc (.cells #[.int .i64 0, .int .i64 0] 94)) := (Below.refl _ _).alloc (Nat.le_refl _) _
  have M : ∃ b, Calls Try.prog 83 #[v] (w.alloc (.cells #[.int .i64 0, .int .i64 0] 94)) fun e w' => e = .returned (.tuple #[.int .i64 0, .bool b]) ∧ Below (w.alloc (.cells #[.int .i64 0, .int .i64 0] 94)).heap.size (w.alloc (.cells #[.int .i64 0, .int .i64 0] 94)) w' := by
    rcases hz with hz | rfl
    · exact ⟨false, weightOf_no v xs _ (hr.lo hl) hz⟩
    · exact ⟨true, weightOf_yes v [] _ (hr.lo hl) ⟨by simp, by simp⟩⟩
  obtain ⟨b, M⟩ := M
  have MM := Lib.hid M
  clear hr hz M hl
  cases b
  all_goals
    (go_enter Try.func95, Try.ntmps95
     go_wp2_with fail
     refine MM.out.mono ?_
     rintro e w1 ⟨rfl, l1⟩
     obtain ⟨c1, c2, f1, f2, L1⟩ := res_cells l1
     have TS := Lib.hid (two_set w1 w.heap.size 0 (.int .i64 0) (.int .i64 0) c1 c2)
     have LL := Lib.hid L1
     clear l1 L1
     go_wp2
     obtain ⟨q0, q1, _⟩ := TS.out
     rw [Nat.zero_add] at q0 q1
     exact bodyPost_ret (v := .tuple #[.agg #[.int .i64 0, .int .i64 0], .bool false]) (by simp [results, Try.results95, go_sem, q0, q1]) rfl ⟨rfl, two_below LL.out _ _⟩)
set_option maxHeartbeats 800000 in
theorem centreOf_yes (v : Value) (xs : List (Int × Int)) (w : World) (hr : LoadRow w v xs) (hz : RowF xs) (hne : xs ≠ []) :
    Calls Try.prog 95 #[v] w fun e w' => e = .returned (.tuple #[.agg #[.int .i64 (cutA (momF 0 xs) (wtF xs)), .int .i64 (cutB (momF 0 xs) (wtF xs))], .bool true]) ∧ Below w.heap.size w w' := by
  have hl : Below w.heap.size w (w.alloc (.cells #[.int .i64 0, .int .i64 0] 94)) := (Below.refl _ _).alloc (Nat.le_refl _) _
  have hb := rowF_bounds hz
  have hpos := hb.2.2.1 hne
  have hm := hb.2.2.2 0 (by omega) (by omega)
  have h2 := hb.2.1
  have M := Lib.hid (weightOf_yes v xs _ (hr.lo hl) hz)
  have M2 := Lib.hid (fun w1 (l : Below (w.alloc (.cells #[.int .i64 0, .int .i64 0] 94)).heap.size (w.alloc (.cells #[.int .i64 0, .int .i64 0] 94)) w1) => momentAbout_yes v xs 0 w1 ((hr.lo hl).lo l) hz (by omega) (by omega))
  have M3 := Lib.hid (fun w => lowest_any (momF 0 xs) (wtF xs) w (by omega) (by omega) (by omega) (by omega))
  clear hr hz hl hb hm
  generalize momF 0 xs = m at *
  generalize wtF xs = n at *
  generalize cutA m n = u at *
  generalize cutB m n = t at *
  have hn0 : ¬ n = 0 := by omega
  have hnb : (n == 0) = false := by simp [hn0]
  go_enter Try.func95, Try.ntmps95
  go_wp2_with fail
  refine M.out.mono ?_
  rintro e w1 ⟨rfl, l1⟩
  have M4 := Lib.hid (M2.out w1 l1)
  go_wp2_with fail
  refine M4.out.mono ?_
  rintro e w2 ⟨rfl, l2⟩
  have l3 := lo_on l1 l2
  go_wp2_with fail
  refine (M3.out _).mono ?_
  rintro e w3 ⟨rfl, l4⟩
  have l5 := lo_on l3 l4
  clear l1 l2 l3 l4 M M2 M3 M4
  obtain ⟨c1, c2, f1, f2, L1⟩ := res_cells l5
  have TS := Lib.hid (two_set w3 w.heap.size 0 (.int .i64 u) (.int .i64 t) c1 c2)
  have LL := Lib.hid L1
  clear l5 L1
  go_wp2
  obtain ⟨q0, q1, _⟩ := TS.out
  rw [Nat.zero_add] at q0 q1
  exact bodyPost_ret (v := .tuple #[.agg #[.int .i64 u, .int .i64 t], .bool true]) (by simp [results, Try.results95, go_sem, q0, q1]) rfl ⟨rfl, two_below LL.out _ _⟩
end Go.Proofs.Ytgjchkcjlmklbaa
