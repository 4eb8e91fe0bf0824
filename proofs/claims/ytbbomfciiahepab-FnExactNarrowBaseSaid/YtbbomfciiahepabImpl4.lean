/- The contracts of the program's own functions on one row and a base: centre, sides, reactions. -/
import Derived.Test.YtbbomfciiahepabImpl3
namespace Go.Proofs.Ytbbomfciiahepab
open Go.RowKit
def baseB (a b : Int) : Bool := decide (0 ≤ a) && decide (a ≤ 60) && (decide (0 ≤ b) && decide (b ≤ 60)) && decide (a ≤ b)
theorem baseB_iff (a b : Int) : baseB a b = true ↔ 0 ≤ a ∧ a ≤ b ∧ b ≤ 60 := by
  unfold baseB
  simp only [Bool.and_eq_true, decide_eq_true_eq]
  omega
/-- What a result's own two cells hold behind calls. -/
theorem res_cells {w w1 : World} {T : TypeId} {x y : Value} (l : Below (w.alloc (.cells #[x, y] T)).heap.size (w.alloc (.cells #[x, y] T)) w1) :
    w1.cell? ⟨w.heap.size, 0, none⟩ = some x ∧ w1.cell? ⟨w.heap.size, 1, none⟩ = some y ∧ w1.frozen? ⟨w.heap.size, 0, none⟩ = false ∧ w1.frozen? ⟨w.heap.size, 1, none⟩ = false ∧ Below w.heap.size w w1 := by
  have hb0 : w.heap.size < (w.alloc (.cells #[x, y] T)).heap.size := by simp
  refine ⟨?_, ?_, ?_, ?_, ((Below.refl _ _).alloc (Nat.le_refl _) _).trans (l.mono (by simp))⟩
  · rw [l.cell (p := ⟨w.heap.size, 0, none⟩) hb0, World.cell?_alloc_at _ _ _ _ rfl]; rfl
  · rw [l.cell (p := ⟨w.heap.size, 1, none⟩) hb0, World.cell?_alloc_at _ _ _ _ rfl]; rfl
  · rw [l.frozen (p := ⟨w.heap.size, 0, none⟩) hb0]; exact World.frozen?_alloc_at _ _ _ _ rfl
  · rw [l.frozen (p := ⟨w.heap.size, 1, none⟩) hb0]; exact World.frozen?_alloc_at _ _ _ _ rfl
theorem two_below {w w1 : World} {g : Nat} (h : Below g w w1) (x y : Value) : Below g w ((w1.setCell ⟨g, 0, none⟩ x).setCell ⟨g, 1, none⟩ y) :=
  (h.setCell (p := ⟨g, 0, none⟩) (Nat.le_refl _) _).setCell (p := ⟨g, 1, none⟩) (Nat.le_refl _) _
set_option maxHeartbeats 800000 in
theorem centreOf_no (v : Value) (xs : List (Int × Int)) (w : World) (hr : LoadRow w v xs) (hz : rowB xs = false ∨ xs = []) :
    Calls Try.prog 13 #[v] w fun e w' => e = .returned (.tuple #[.agg #[.int .i64 0, .int .i64 0], .bool false]) ∧ Below w.heap.size w w' := by
  have hl : Below w.heap.size w (w.alloc (.cells #[.int .i64 0, .int .i64 0] 37)) := (Below.refl _ _).alloc (Nat.le_refl _) _
  have M : ∃ b, Calls Try.prog 17 #[v] (w.alloc (.cells #[.int .i64 0, .int .i64 0] 37)) fun e w' => e = .returned (.tuple #[.int .i64 0, .bool b]) ∧ Below (w.alloc (.cells #[.int .i64 0, .int .i64 0] 37)).heap.size (w.alloc (.cells #[.int .i64 0, .int .i64 0] 37)) w' := by
    rcases hz with hz | rfl
    · exact ⟨false, weightOf_no v xs _ (hr.lo hl) hz⟩
    · exact ⟨true, weightOf_yes v [] _ (hr.lo hl) ⟨by simp, by simp⟩⟩
  obtain ⟨b, M⟩ := M
  have MM := Lib.hid M
  clear hr hz M hl
  cases b
  all_goals
    (go_enter Try.func13, Try.ntmps13
     go_wp2_with fail
     refine MM.out.mono ?_
     rintro e w1 ⟨rfl, l1⟩
     obtain ⟨c1, c2, f1, f2, L1⟩ := res_cells l1
     have TS := Lib.hid (two_set w1 w.heap.size 0 (.int .i64 0) (.int .i64 0) c1 c2)
     have LL := Lib.hid L1
     clear l1 L1
     go_wp2
     obtain ⟨q0, q1, _⟩ := TS.out
     rw [Nat.zero_add] at q0 q1
     exact bodyPost_ret (v := .tuple #[.agg #[.int .i64 0, .int .i64 0], .bool false]) (by simp [results, Try.results13, go_sem, q0, q1]) rfl ⟨rfl, two_below LL.out _ _⟩)
set_option maxHeartbeats 800000 in
theorem centreOf_yes (v : Value) (xs : List (Int × Int)) (w : World) (hr : LoadRow w v xs) (hz : RowF xs) (hne : xs ≠ []) :
    Calls Try.prog 13 #[v] w fun e w' => e = .returned (.tuple #[.agg #[.int .i64 (cutA (momF 0 xs) (wtF xs)), .int .i64 (cutB (momF 0 xs) (wtF xs))], .bool true]) ∧ Below w.heap.size w w' := by
  have hl : Below w.heap.size w (w.alloc (.cells #[.int .i64 0, .int .i64 0] 37)) := (Below.refl _ _).alloc (Nat.le_refl _) _
  have hb := rowF_bounds hz
  have hpos := hb.2.2.1 hne
  have hm := hb.2.2.2 0 (by omega) (by omega)
  have h2 := hb.2.1
  have M := Lib.hid (weightOf_yes v xs _ (hr.lo hl) hz)
  have M2 := Lib.hid (fun w1 (l : Below (w.alloc (.cells #[.int .i64 0, .int .i64 0] 37)).heap.size (w.alloc (.cells #[.int .i64 0, .int .i64 0] 37)) w1) => momentAbout_yes v xs 0 w1 ((hr.lo hl).lo l) hz (by omega) (by omega))
  have M3 := Lib.hid (fun w => lowest_any (momF 0 xs) (wtF xs) w (by omega) (by omega) (by omega) (by omega))
  clear hr hz hl hb hm
  generalize momF 0 xs = m at *
  generalize wtF xs = n at *
  generalize cutA m n = u at *
  generalize cutB m n = t at *
  have hn0 : ¬ n = 0 := by omega
  have hnb : (n == 0) = false := by simp [hn0]
  go_enter Try.func13, Try.ntmps13
  go_wp2_with fail
  refine M.out.mono ?_
  rintro e w1 ⟨rfl, l1⟩
  have M4 := Lib.hid (M2.out w1 l1)
  go_wp2_with fail
  refine M4.out.mono ?_
  rintro e w2 ⟨rfl, l2⟩
  have l3 := lo_on l1 l2
  go_wp2_with fail
  refine (M3.out _).mono ?_
  rintro e w3 ⟨rfl, l4⟩
  have l5 := lo_on l3 l4
  clear l1 l2 l3 l4 M M2 M3 M4
  obtain ⟨c1, c2, f1, f2, L1⟩ := res_cells l5
  have TS := Lib.hid (two_set w3 w.heap.size 0 (.int .i64 u) (.int .i64 t) c1 c2)
  have LL := Lib.hid L1
  clear l5 L1
  go_wp2
  obtain ⟨q0, q1, _⟩ := TS.out
  rw [Nat.zero_add] at q0 q1
  exact bodyPost_ret (v := .tuple #[.agg #[.int .i64 u, .int .i64 t], .bool true]) (by simp [results, Try.results13, go_sem, q0, q1]) rfl ⟨rfl, two_below LL.out _ _⟩
end Go.Proofs.Ytbbomfciiahepab
