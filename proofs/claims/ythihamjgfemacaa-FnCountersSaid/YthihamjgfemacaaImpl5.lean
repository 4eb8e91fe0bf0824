/- The contracts of the program's own ReactionsOf and NarrowBase. -/
import Derived.Test.YthihamjgfemacaaImpl4
namespace Go.Proofs.Ythihamjgfemacaa
open Go.RowKit
/-- What two results' own cells hold behind calls. -/
theorem res_cells2 {w w1 : World} {T : TypeId} {x y z u : Value} (l : Below ((w.alloc (.cells #[x, y] T)).alloc (.cells #[z, u] T)).heap.size ((w.alloc (.cells #[x, y] T)).alloc (.cells #[z, u] T)) w1) :
    w1.cell? ⟨w.heap.size, 0, none⟩ = some x ∧ w1.cell? ⟨w.heap.size, 1, none⟩ = some y ∧ w1.frozen? ⟨w.heap.size, 0, none⟩ = false ∧ w1.frozen? ⟨w.heap.size, 1, none⟩ = false ∧
    w1.cell? ⟨w.heap.size + 1, 0, none⟩ = some z ∧ w1.cell? ⟨w.heap.size + 1, 1, none⟩ = some u ∧ w1.frozen? ⟨w.heap.size + 1, 0, none⟩ = false ∧ w1.frozen? ⟨w.heap.size + 1, 1, none⟩ = false ∧ Below w.heap.size w w1 := by
  have hs : (w.alloc (.cells #[x, y] T)).heap.size = w.heap.size + 1 := by simp
  have r := res_cells (w := w.alloc (.cells #[x, y] T)) l
  rw [hs] at r
  have l2 : Below (w.alloc (.cells #[x, y] T)).heap.size (w.alloc (.cells #[x, y] T)) w1 := ((Below.refl _ _).alloc (Nat.le_refl _) _).trans (l.mono (by simp))
  have r2 := res_cells l2
  exact ⟨r2.1, r2.2.1, r2.2.2.1, r2.2.2.2.1, r.1, r.2.1, r.2.2.1, r.2.2.2.1, r2.2.2.2.2⟩
theorem four_set (w : World) (b c : Nat) (hbc : b ≠ c) (u v y z : Value) {x0 x1 x2 x3 : Value} (h1 : w.cell? ⟨b, 0, none⟩ = some x0) (h2 : w.cell? ⟨b, 1, none⟩ = some x1) (h3 : w.cell? ⟨c, 0, none⟩ = some x2) (h4 : w.cell? ⟨c, 1, none⟩ = some x3) :
    ((((w.setCell ⟨b, 0, none⟩ u).setCell ⟨b, 1, none⟩ v).setCell ⟨c, 0, none⟩ y).setCell ⟨c, 1, none⟩ z).cell? ⟨b, 0, none⟩ = some u ∧
    ((((w.setCell ⟨b, 0, none⟩ u).setCell ⟨b, 1, none⟩ v).setCell ⟨c, 0, none⟩ y).setCell ⟨c, 1, none⟩ z).cell? ⟨b, 1, none⟩ = some v ∧
    ((((w.setCell ⟨b, 0, none⟩ u).setCell ⟨b, 1, none⟩ v).setCell ⟨c, 0, none⟩ y).setCell ⟨c, 1, none⟩ z).cell? ⟨c, 0, none⟩ = some y ∧
    ((((w.setCell ⟨b, 0, none⟩ u).setCell ⟨b, 1, none⟩ v).setCell ⟨c, 0, none⟩ y).setCell ⟨c, 1, none⟩ z).cell? ⟨c, 1, none⟩ = some z := by
  have t := two_set w b 0 u v h1 h2
  rw [Nat.zero_add] at t
  have h3' : ((w.setCell ⟨b, 0, none⟩ u).setCell ⟨b, 1, none⟩ v).cell? ⟨c, 0, none⟩ = some x2 := by
    rw [World.cell?_setCell_other _ _ _ _ (fun hh => hbc (congrArg Addr.block hh)), World.cell?_setCell_other _ _ _ _ (fun hh => hbc (congrArg Addr.block hh)), h3]
  have h4' : ((w.setCell ⟨b, 0, none⟩ u).setCell ⟨b, 1, none⟩ v).cell? ⟨c, 1, none⟩ = some x3 := by
    rw [World.cell?_setCell_other _ _ _ _ (fun hh => hbc (congrArg Addr.block hh)), World.cell?_setCell_other _ _ _ _ (fun hh => hbc (congrArg Addr.block hh)), h4]
  have t2 := two_set _ c 0 y z h3' h4'
  rw [Nat.zero_add] at t2
  refine ⟨?_, ?_, t2.1, t2.2.1⟩
  · rw [World.cell?_setCell_other _ _ _ _ (fun hh => hbc (congrArg Addr.block hh).symm), World.cell?_setCell_other _ _ _ _ (fun hh => hbc (congrArg Addr.block hh).symm)]
    exact t.1
  · rw [World.cell?_setCell_other _ _ _ _ (fun hh => hbc (congrArg Addr.block hh).symm), World.cell?_setCell_other _ _ _ _ (fun hh => hbc (congrArg Addr.block hh).symm)]
    exact t.2.1
theorem four_below {w w1 : World} {g : Nat} (h : Below g w w1) (x y z u : Value) : Below g w ((((w1.setCell ⟨g, 0, none⟩ x).setCell ⟨g, 1, none⟩ y).setCell ⟨g + 1, 0, none⟩ z).setCell ⟨g + 1, 1, none⟩ u) :=
  (((two_below h x y).setCell (p := ⟨g + 1, 0, none⟩) (Nat.le_succ _) _)).setCell (p := ⟨g + 1, 1, none⟩) (Nat.le_succ _) _
set_option maxHeartbeats 1600000 in
theorem reactions_no (v : Value) (xs : List (Int × Int)) (a b : Int) (w : World) (hr : LoadRow w v xs) (hz : (rowB xs && baseB a b) = false ∨ a = b) :
    Calls Try.prog 48 #[v, .int .i64 a, .int .i64 b] w fun e w' => e = .returned (.tuple #[.agg #[.int .i64 0, .int .i64 0], .agg #[.int .i64 0, .int .i64 0], .bool false]) ∧ Below w.heap.size w w' := by
  have hl : Below w.heap.size w ((w.alloc (.cells #[.int .i64 0, .int .i64 0] 43)).alloc (.cells #[.int .i64 0, .int .i64 0] 43)) := alloc_two _ _ _
  have M : ∃ x y c, (c = false ∨ a = b) ∧ Calls Try.prog 89 #[v, .int .i64 a, .int .i64 b] ((w.alloc (.cells #[.int .i64 0, .int .i64 0] 43)).alloc (.cells #[.int .i64 0, .int .i64 0] 43)) fun e w' => e = .returned (.tuple #[.int .i64 x, .int .i64 y, .bool c]) ∧ Below ((w.alloc (.cells #[.int .i64 0, .int .i64 0] 43)).alloc (.cells #[.int .i64 0, .int .i64 0] 43)).heap.size ((w.alloc (.cells #[.int .i64 0, .int .i64 0] 43)).alloc (.cells #[.int .i64 0, .int .i64 0] 43)) w' := by
    cases hb : (rowB xs && baseB a b) with
    | false => exact ⟨0, 0, false, .inl rfl, baseMoments_no v xs a b _ (hr.lo hl) hb⟩
    | true =>
      rw [Bool.and_eq_true] at hb
      refine ⟨_, _, true, .inr ?_, baseMoments_yes v xs a b _ (hr.lo hl) ((rowB_iff xs).1 hb.1) hb.2⟩
      rcases hz with h | h
      · rw [hb.1, hb.2] at h; cases h
      · exact h
  obtain ⟨x, y, c, hc, M⟩ := M
  have MM := Lib.hid M
  clear hr hz M hl
  cases c
  case' true =>
    obtain rfl : a = b := by simpa using hc
  all_goals
    (clear hc
     go_enter Try.func48, Try.ntmps48
     go_wp2_with fail
     refine MM.out.mono ?_
     rintro e w1 ⟨rfl, l1⟩
     obtain ⟨c1, c2, f1, f2, c3, c4, f3, f4, L1⟩ := res_cells2 l1
     have TS := Lib.hid (four_set w1 w.heap.size (w.heap.size + 1) (by omega) (.int .i64 0) (.int .i64 0) (.int .i64 0) (.int .i64 0) c1 c2 c3 c4)
     have LL := Lib.hid L1
     clear l1 L1 MM
     go_wp2
     obtain ⟨q0, q1, q2, q3⟩ := TS.out
     exact bodyPost_ret (v := .tuple #[.agg #[.int .i64 0, .int .i64 0], .agg #[.int .i64 0, .int .i64 0], .bool false]) (by simp [results, Try.results48, go_sem, q0, q1, q2, q3]) rfl ⟨rfl, four_below LL.out _ _ _ _⟩)
set_option maxHeartbeats 1600000 in
theorem reactions_yes (v : Value) (xs : List (Int × Int)) (a b : Int) (w : World) (hr : LoadRow w v xs) (hz : RowF xs) (hbs : baseB a b = true) (hab : a ≠ b) :
    Calls Try.prog 48 #[v, .int .i64 a, .int .i64 b] w fun e w' => e = .returned (.tuple #[.agg #[.int .i64 (cutA (-momF b xs) (b - a)), .int .i64 (cutB (-momF b xs) (b - a))], .agg #[.int .i64 (cutA (momF a xs) (b - a)), .int .i64 (cutB (momF a xs) (b - a))], .bool true]) ∧ Below w.heap.size w w' := by
  have hl : Below w.heap.size w ((w.alloc (.cells #[.int .i64 0, .int .i64 0] 43)).alloc (.cells #[.int .i64 0, .int .i64 0] 43)) := alloc_two _ _ _
  have hb := rowF_bounds hz
  have hbb := (baseB_iff a b).1 hbs
  have m1 := hb.2.2.2 a (by omega) (by omega)
  have m2 := hb.2.2.2 b (by omega) (by omega)
  have M := Lib.hid (baseMoments_yes v xs a b _ (hr.lo hl) hz hbs)
  have M3 := Lib.hid (fun w => lowest_any (-momF b xs) (b - a) w (by omega) (by omega) (by omega) (by omega))
  have M4 := Lib.hid (fun w => lowest_any (momF a xs) (b - a) w (by omega) (by omega) (by omega) (by omega))
  clear hr hz hl hb hbs
  generalize momF b xs = m at *
  generalize momF a xs = n at *
  generalize cutA (-m) (b - a) = u at *
  generalize cutB (-m) (b - a) = t at *
  generalize cutA n (b - a) = y at *
  generalize cutB n (b - a) = z at *
  obtain ⟨d, hd⟩ : ∃ d, b - a = d := ⟨_, rfl⟩
  have hnb : (a == b) = false := by simp [hab]
  have d0 : 0 ≤ b - a := by omega
  have d1 : b - a ≤ 60 := by omega
  clear hd
  go_enter Try.func48, Try.ntmps48
  go_wp2_with fail
  refine M.out.mono ?_
  rintro e w1 ⟨rfl, l1⟩
  go_wp2_with fail
  refine (M3.out _).mono ?_
  rintro e w2 ⟨rfl, l2⟩
  have l3 := lo_on l1 l2
  go_wp2_with fail
  refine (M4.out _).mono ?_
  rintro e w3 ⟨rfl, l4⟩
  have l5 := lo_on l3 l4
  clear l1 l2 l3 l4 M M3 M4
  obtain ⟨c1, c2, f1, f2, c3, c4, f3, f4, L1⟩ := res_cells2 l5
  have TS := Lib.hid (four_set w3 w.heap.size (w.heap.size + 1) (by omega) (.int .i64 u) (.int .i64 t) (.int .i64 y) (.int .i64 z) c1 c2 c3 c4)
  have LL := Lib.hid L1
  clear l5 L1
  go_wp2
  obtain ⟨q0, q1, q2, q3⟩ := TS.out
  exact bodyPost_ret (v := .tuple #[.agg #[.int .i64 u, .int .i64 t], .agg #[.int .i64 y, .int .i64 z], .bool true]) (by simp [results, Try.results48, go_sem, q0, q1, q2, q3]) rfl ⟨rfl, four_below LL.out _ _ _ _⟩
end Go.Proofs.Ythihamjgfemacaa
