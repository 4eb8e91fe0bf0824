/- The contracts of the program's own functions on one row and a base: centre, sides, reactions. -/
import Derived.Test.YtcfbnadefdcjaaaImpl3
namespace Go.Proofs.Ytcfbnadefdcjaaa
open Go.RowKit
def baseB (a b : Int) : Bool := decide (0 ≤ a) && decide (a ≤ 60) && (decide (0 ≤ b) && decide (b ≤ 60)) && decide (a ≤ b)
theorem baseB_iff (a b : Int) : baseB a b = true ↔ 0 ≤ a ∧ a ≤ b ∧ b ≤ 60 := by
  unfold baseB
  simp only [Bool.and_eq_true, decide_eq_true_eq]
  omega
theorem isBase_is (a b : Int) (r : Bool) (h : baseB a b = r) (w : World) : Calls Try.prog 89 #[.int .i64 a, .int .i64 b] w fun e w' => e = .returned (.bool r) ∧ w = w' := by
  subst h
  exact isBase_any a b w
theorem baseMoments_yes (v : Value) (xs : List (Int × Int)) (a b : Int) (w : World) (hr : LoadRow w v xs) (hz : RowF xs) (hb : baseB a b = true) :
    Calls Try.prog 165 #[v, .int .i64 a, .int .i64 b] w fun e w' => e = .returned (.tuple #[.int .i64 (momF a xs), .int .i64 (momF b xs), .bool true]) ∧ Below w.heap.size w w' := by
  have hb' := (baseB_iff a b).1 hb
  have B := Lib.hid (isBase_is a b true hb w)
  have M1 := Lib.hid (momentAbout_yes v xs a w hr hz (by omega) (by omega))
  have M2 := Lib.hid (fun w1 (l : Below w.heap.size w w1) => momentAbout_yes v xs b w1 (hr.lo l) hz (by omega) (by omega))
  clear hr hz hb
  go_enter Try.func165, Try.ntmps165
  go_wp2_with fail
  refine B.out.mono ?_
  rintro e w' ⟨rfl, rfl⟩
  go_wp2_with fail
  refine M1.out.mono ?_
  rintro e w1 ⟨rfl, l1⟩
  have M3 := Lib.hid (M2.out w1 l1)
  go_wp2_with fail
  refine M3.out.mono ?_
  rintro e w2 ⟨rfl, l2⟩
  go_wp2
  go_ret3
  exact ⟨rfl, lo_on l1 l2⟩
theorem baseMoments_no (v : Value) (xs : List (Int × Int)) (a b : Int) (w : World) (hr : LoadRow w v xs) (hz : (rowB xs && baseB a b) = false) :
    Calls Try.prog 165 #[v, .int .i64 a, .int .i64 b] w fun e w' => e = .returned (.tuple #[.int .i64 0, .int .i64 0, .bool false]) ∧ Below w.heap.size w w' := by
  cases hb : baseB a b with
  | false =>
    have B := Lib.hid (isBase_is a b false hb w)
    clear hr hz hb
    go_enter Try.func165, Try.ntmps165
    go_wp2_with fail
    refine B.out.mono ?_
    rintro e w' ⟨rfl, rfl⟩
    go_wp2
    go_ret3
    exact ⟨rfl, Below.refl _ _⟩
  | true =>
    have B := Lib.hid (isBase_is a b true hb w)
    rw [hb, Bool.and_true] at hz
    have M1 := Lib.hid (momentAbout_no v xs a w hr (by rw [hz]; rfl))
    have M2 := Lib.hid (fun w1 (l : Below w.heap.size w w1) => momentAbout_no v xs b w1 (hr.lo l) (by rw [hz]; rfl))
    clear hr hz hb
    go_enter Try.func165, Try.ntmps165
    go_wp2_with fail
    refine B.out.mono ?_
    rintro e w' ⟨rfl, rfl⟩
    go_wp2_with fail
    refine M1.out.mono ?_
    rintro e w1 ⟨rfl, l1⟩
    have M3 := Lib.hid (M2.out w1 l1)
    go_wp2_with fail
    refine M3.out.mono ?_
    rintro e w2 ⟨rfl, l2⟩
    go_wp2
    go_ret3
    exact ⟨rfl, lo_on l1 l2⟩
theorem tipSide_yes (v : Value) (xs : List (Int × Int)) (a b : Int) (w : World) (hr : LoadRow w v xs) (hz : RowF xs) (hb : baseB a b = true) :
    Calls Try.prog 199 #[v, .int .i64 a, .int .i64 b] w fun e w' => e = .returned (.tuple #[.int .i64 (sideF a b xs), .bool true]) ∧ Below w.heap.size w w' := by
  have M := Lib.hid (baseMoments_yes v xs a b w hr hz hb)
  clear hr hz hb
  unfold sideF
  by_cases h1 : momF a xs < 0
  · rw [if_pos h1]
    go_enter Try.func199, Try.ntmps199
    go_wp2_with fail
    refine M.out.mono ?_
    rintro e w1 ⟨rfl, l1⟩
    go_wp2
    go_ret2
    exact ⟨rfl, l1⟩
  · rw [if_neg h1]
    by_cases h2 : 0 < momF b xs
    · rw [if_pos h2]
      go_enter Try.func199, Try.ntmps199
      go_wp2_with fail
      refine M.out.mono ?_
      rintro e w1 ⟨rfl, l1⟩
      go_wp2
      go_ret2
      exact ⟨rfl, l1⟩
    · rw [if_neg h2]
      go_enter Try.func199, Try.ntmps199
      go_wp2_with fail
      refine M.out.mono ?_
      rintro e w1 ⟨rfl, l1⟩
      go_wp2
      go_ret2
      exact ⟨rfl, l1⟩
theorem tipSide_no (v : Value) (xs : List (Int × Int)) (a b : Int) (w : World) (hr : LoadRow w v xs) (hz : (rowB xs && baseB a b) = false) :
    Calls Try.prog 199 #[v, .int .i64 a, .int .i64 b] w fun e w' => e = .returned (.tuple #[.int .i64 0, .bool false]) ∧ Below w.heap.size w w' := by
  have M := Lib.hid (baseMoments_no v xs a b w hr hz)
  clear hr hz
  go_enter Try.func199, Try.ntmps199
  go_wp2_with fail
  refine M.out.mono ?_
  rintro e w1 ⟨rfl, l1⟩
  go_wp2
  go_ret2
  exact ⟨rfl, l1⟩
/-- What a result's own two cells hold behind calls. -/
theorem res_cells {w w1 : World} {T : TypeId} {x y : Value} (l : Below (w.alloc (.cells #[x, y] T)).heap.size (w.alloc (.cells #[x, y] T)) w1) :
    w1.cell? ⟨w.heap.size, 0, none⟩ = some x ∧ w1.cell? ⟨w.heap.size, 1, none⟩ = some y ∧ w1.frozen? ⟨w.heap.size, 0, none⟩ = false ∧ w1.frozen? ⟨w.heap.size, 1, none⟩ = false ∧ Below w.heap.size w w1 := by
  have hb0 : w.heap.size < (w.alloc (.cells #[x, y] T)).heap.size := by simp
  refine ⟨?_, ?_, ?_, ?_, ((Below.refl _ _).alloc (Nat.le_refl _) _).trans (l.mono (by simp))⟩
  · rw [l.cell (p := ⟨w.heap.size, 0, none⟩) hb0, World.cell?_alloc_at _ _ _ _ rfl]; rfl
  · rw [l.cell (p := ⟨w.heap.size, 1, none⟩) hb0, World.cell?_alloc_at _ _ _ _ rfl]; rfl
  · rw [l.frozen (p := ⟨w.heap.size, 0, none⟩) hb0]; exact World.frozen?_alloc_at _ _ _ _ rfl
  · rw [l.frozen (p := ⟨w.heap.size, 1, none⟩) hb0]; exact World.frozen?_alloc_at _ _ _ _ rfl
theorem two_below {w w1 : World} {g : Nat} (h : Below g w w1) (x y : Value) : Below g w ((w1.setCell ⟨g, 0, none⟩ x).setCell ⟨g, 1, none⟩ y) :=
  (h.setCell (p := ⟨g, 0, none⟩) (Nat.le_refl _) _).setCell (p := ⟨g, 1, none⟩) (Nat.le_refl _) _
end Go.Proofs.Ytcfbnadefdcjaaa
