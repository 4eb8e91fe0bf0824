/- The contracts of the program's and the model's MergeRow, JoinRows, ShiftRow and MirrorRow. -/
import Derived.Test.YtjchmjbgboeolaaForms5
namespace Go.Proofs.Ytjchmjbgboeolaa
open Go.RowKit
def mkF (b : Bool) (made : List (Int × Int)) : List (Int × Int) := if b = true then KeptF made else []
/-- What a call that makes a row answers: a row of its own, and whether it is one. -/
def Made (w : World) (b : Bool) (made : List (Int × Int)) (e : Ending) (w' : World) : Prop := ∃ v', e = .returned (.tuple #[v', .bool (b && rowB made)]) ∧ OwnL w' w.heap.size v' (mkF b made) ∧ Below w.heap.size w w'
def MadeS (w : World) (b : Bool) (made : List (Int × Int)) (e : Ending) (w' : World) : Prop := ∃ v', e = .returned (.tuple #[v', .bool (b && rowB made)]) ∧ LoadRow w' v' (mkF b made) ∧ Below w.heap.size w w'
theorem made_no {w w' : World} {b : Bool} {made : List (Int × Int)} (hb : b = false) (l : Below w.heap.size w w') : Made w b made (.returned (.tuple #[.slice none 0 0, .bool false])) w' := by
  subst hb
  exact ⟨_, rfl, World.ownsRow_nil _ _ _ _, l⟩
theorem made_yes {w w' : World} {b : Bool} {made : List (Int × Int)} {v : Value} (hb : b = true) (o : OwnL w' w.heap.size v (KeptF made)) (l : Below w.heap.size w w') : Made w b made (.returned (.tuple #[v, .bool (rowB made)])) w' := by
  subst hb
  exact ⟨v, by simp, by unfold mkF; simpa using o, l⟩
theorem madeS_no {w w' : World} {b : Bool} {made : List (Int × Int)} {a : Option Addr} (hb : b = false) (l : Below w.heap.size w w') : MadeS w b made (.returned (.tuple #[.slice a 0 0, .bool false])) w' := by
  subst hb
  exact ⟨_, rfl, ⟨_, _, rfl, .inl rfl⟩, l⟩
theorem madeS_yes {w w' : World} {b : Bool} {made : List (Int × Int)} {v : Value} (hb : b = true) (o : LoadRow w' v (KeptF made)) (l : Below w.heap.size w w') : MadeS w b made (.returned (.tuple #[v, .bool (rowB made)])) w' := by
  subst hb
  exact ⟨v, by simp, by unfold mkF; simpa using o, l⟩
theorem srow_slice {w : World} {v : Value} {xs : List (Int × Int)} (h : SRow w v xs) : ∃ x n c, v = .slice x n c := by obtain ⟨g, off, c, rfl, _⟩ := h; exact ⟨_, _, _, rfl⟩
theorem nil_row (w : World) : LoadRow w (.slice none 0 0) [] := ⟨none, 0, rfl, .inl rfl⟩
theorem MergeRow_is (v : Value) (xs : List (Int × Int)) (w : World) (h : SRow w v xs) : Calls Try.prog 14 #[v] w (Made w (rowB xs) (mergedF xs 61)) := by
  obtain ⟨x0, n0, c0, rfl⟩ := srow_slice h
  cases hb : rowB xs with
  | false =>
    have MM := Lib.hid (make_no 0 x0 none n0 c0 0 0 0 xs [] w h.load (nil_row w) (by rw [hb]; rfl))
    clear h hb
    go_enter Try.func14, Try.ntmps14
    go_wp2_with fail
    refine MM.out.mono ?_
    rintro e w1 ⟨rfl, l1⟩
    go_wp2
    go_ret2
    exact made_no rfl l1
  | true =>
    have hz := (rowB_iff xs).1 hb
    have MM := Lib.hid (make_merged x0 none n0 c0 0 0 0 xs [] (mergedF xs 61) w h.load (nil_row w) hb rfl (fun w1 l => merged_any _ _ 0 xs w1 (h.lo l) hz))
    clear h hb hz
    go_enter Try.func14, Try.ntmps14
    go_wp2_with fail
    refine MM.out.mono ?_
    rintro e w1 ⟨v1, rfl, o1, l1⟩
    have OO := Lib.hid o1
    clear o1
    go_wp2
    go_ret2
    exact made_yes rfl OO.out l1
theorem MirrorRow_is (v : Value) (xs : List (Int × Int)) (w : World) (h : SRow w v xs) : Calls Try.prog 23 #[v] w (Made w (rowB xs) (moved (-1) 60 xs)) := by
  obtain ⟨x0, n0, c0, rfl⟩ := srow_slice h
  cases hb : rowB xs with
  | false =>
    have MM := Lib.hid (make_no 3 x0 none n0 c0 0 0 0 xs [] w h.load (nil_row w) (by rw [hb]; rfl))
    clear h hb
    go_enter Try.func23, Try.ntmps23
    go_wp2_with fail
    refine MM.out.mono ?_
    rintro e w1 ⟨rfl, l1⟩
    go_wp2
    go_ret2
    exact made_no rfl l1
  | true =>
    have hz := (rowB_iff xs).1 hb
    have MM := Lib.hid (make_mirrored x0 none n0 c0 0 0 0 xs [] (moved (-1) 60 xs) w h.load (nil_row w) hb rfl (fun w1 l => mirrored_any _ _ 0 xs w1 (h.lo l) hz))
    clear h hb hz
    go_enter Try.func23, Try.ntmps23
    go_wp2_with fail
    refine MM.out.mono ?_
    rintro e w1 ⟨v1, rfl, o1, l1⟩
    have OO := Lib.hid o1
    clear o1
    go_wp2
    go_ret2
    exact made_yes rfl OO.out l1
theorem JoinRows_is (v u : Value) (xs ys : List (Int × Int)) (w : World) (h : SRow w v xs) (k : SRow w u ys) : Calls Try.prog 19 #[v, u] w (Made w (rowB xs && rowB ys) (xs ++ ys)) := by
  obtain ⟨x0, n0, c0, rfl⟩ := srow_slice h
  obtain ⟨x1, n1, c1, rfl⟩ := srow_slice k
  cases hb : (rowB xs && rowB ys) with
  | false =>
    have MM := Lib.hid (make_no 1 x0 x1 n0 c0 n1 c1 0 xs ys w h.load k.load hb)
    clear h k hb
    go_enter Try.func19, Try.ntmps19
    go_wp2_with fail
    refine MM.out.mono ?_
    rintro e w1 ⟨rfl, l1⟩
    go_wp2
    go_ret2
    exact made_no rfl l1
  | true =>
    rw [Bool.and_eq_true] at hb
    have hx := ((rowB_iff xs).1 hb.1).short
    have hy := ((rowB_iff ys).1 hb.2).short
    have MM := Lib.hid (make_joined x0 x1 n0 c0 n1 c1 0 xs ys (xs ++ ys) w h.load k.load hb.1 hb.2 (fun w1 l => joined_any _ _ 0 xs ys w1 (h.lo l) (k.lo l) hx hy))
    clear h k hb hx hy
    go_enter Try.func19, Try.ntmps19
    go_wp2_with fail
    refine MM.out.mono ?_
    rintro e w1 ⟨v1, rfl, o1, l1⟩
    have OO := Lib.hid o1
    clear o1
    go_wp2
    go_ret2
    exact made_yes rfl OO.out l1
theorem ShiftRow_is (v : Value) (xs : List (Int × Int)) (m : Int) (w : World) (h : SRow w v xs) : Calls Try.prog 21 #[v, .int .i64 m] w (Made w (rowB xs && (decide (-60 ≤ m) && decide (m ≤ 60))) (moved 1 m xs)) := by
  obtain ⟨x0, n0, c0, rfl⟩ := srow_slice h
  by_cases h1 : m < -60
  · have hb : (rowB xs && (decide (-60 ≤ m) && decide (m ≤ 60))) = false := by
      rw [show decide (-60 ≤ m) = false by simp; omega]; simp
    rw [hb]
    clear h hb
    go_enter Try.func21, Try.ntmps21
    go_wp2
    go_ret2
    exact made_no rfl (Below.refl _ _)
  · by_cases h2 : 60 < m
    · have hb : (rowB xs && (decide (-60 ≤ m) && decide (m ≤ 60))) = false := by
        rw [show decide (m ≤ 60) = false by simp; omega]; simp
      rw [hb]
      clear h hb
      go_enter Try.func21, Try.ntmps21
      go_wp2
      go_ret2
      exact made_no rfl (Below.refl _ _)
    · rw [show (decide (-60 ≤ m) && decide (m ≤ 60)) = true by simp; omega, Bool.and_true]
      cases hb : rowB xs with
      | false =>
        have MM := Lib.hid (make_no 2 x0 none n0 c0 0 0 m xs [] w h.load (nil_row w) (by rw [hb]; rfl))
        clear h hb
        go_enter Try.func21, Try.ntmps21
        go_wp2_with fail
        refine MM.out.mono ?_
        rintro e w1 ⟨rfl, l1⟩
        go_wp2
        go_ret2
        exact made_no rfl l1
      | true =>
        have hz := (rowB_iff xs).1 hb
        have MM := Lib.hid (make_shifted x0 none n0 c0 0 0 m xs [] (moved 1 m xs) w h.load (nil_row w) hb rfl (fun w1 l => shifted_any _ _ m xs w1 (h.lo l) hz (by omega) (by omega)))
        clear h hb hz
        go_enter Try.func21, Try.ntmps21
        go_wp2_with fail
        refine MM.out.mono ?_
        rintro e w1 ⟨v1, rfl, o1, l1⟩
        have OO := Lib.hid o1
        clear o1
        go_wp2
        go_ret2
        exact made_yes rfl OO.out l1
theorem kept_any (v : Value) (made : List (Int × Int)) (w : World) (o : LoadRow w v made) : Calls Try.prog 35 #[v] w fun e w' => ∃ v', e = .returned (.tuple #[v', .bool (rowB made)]) ∧ LoadRow w' v' (KeptF made) ∧ Below w.heap.size w w' := l2Kept_any v made w o
theorem specMerge_is (v : Value) (xs : List (Int × Int)) (w : World) (h : LoadRow w v xs) : Calls Try.prog 12 #[v] w (MadeS w (rowB xs) (mergedF xs 61)) := by
  cases hb : rowB xs with
  | false =>
    have D := Lib.hid (l2Row_is v xs false hb w h)
    clear h hb
    go_enter Try.func12, Try.ntmps12
    go_wp2_with fail
    refine D.out.mono ?_
    rintro e w' ⟨rfl, rfl⟩
    go_wp2
    go_ret2
    exact madeS_no rfl ((Below.refl _ _).alloc (Nat.le_refl _) _)
  | true =>
    have D := Lib.hid (l2Row_is v xs true hb w h)
    have MM := Lib.hid (l2Merged_any v xs w h ((rowB_iff xs).1 hb))
    clear h hb
    go_enter Try.func12, Try.ntmps12
    go_wp2_with fail
    refine D.out.mono ?_
    rintro e w' ⟨rfl, rfl⟩
    go_wp2_with fail
    refine MM.out.mono ?_
    rintro e w1 ⟨v1, rfl, o1, _, l1⟩
    have KK := Lib.hid (kept_any v1 _ w1 (loadRow_own o1))
    clear o1
    go_wp2_with fail
    refine KK.out.mono ?_
    rintro e w2 ⟨v2, rfl, o2, l2⟩
    have OO := Lib.hid o2
    clear o2
    go_wp2
    go_ret2
    exact madeS_yes rfl OO.out (lo_on l1 l2)
theorem specMirror_is (v : Value) (xs : List (Int × Int)) (w : World) (h : LoadRow w v xs) : Calls Try.prog 22 #[v] w (MadeS w (rowB xs) (moved (-1) 60 xs)) := by
  cases hb : rowB xs with
  | false =>
    have D := Lib.hid (l2Row_is v xs false hb w h)
    clear h hb
    go_enter Try.func22, Try.ntmps22
    go_wp2_with fail
    refine D.out.mono ?_
    rintro e w' ⟨rfl, rfl⟩
    go_wp2
    go_ret2
    exact madeS_no rfl ((Below.refl _ _).alloc (Nat.le_refl _) _)
  | true =>
    have D := Lib.hid (l2Row_is v xs true hb w h)
    have hz := (rowB_iff xs).1 hb
    have MM := Lib.hid (l2Moved_any v xs (-1) 60 w h hz (.inr rfl) (by omega) (by omega))
    have hm : rowB (moved (-1) 60 xs) = true := (rowB_iff _).2 (rowF_mirror hz)
    clear h hb hz
    go_enter Try.func22, Try.ntmps22
    go_wp2_with fail
    refine D.out.mono ?_
    rintro e w' ⟨rfl, rfl⟩
    go_wp2_with fail
    refine MM.out.mono ?_
    rintro e w1 ⟨v1, rfl, o1, _, l1⟩
    have OO := Lib.hid (loadRow_own o1)
    have HM := Lib.hid hm
    clear o1 hm
    go_wp2
    go_ret2
    have := madeS_yes (made := moved (-1) 60 xs) (b := true) rfl (by unfold KeptF; rw [if_pos HM.out]; exact OO.out) l1
    rw [HM.out] at this
    exact this
theorem specJoin_is (v u : Value) (xs ys : List (Int × Int)) (w : World) (h : SRow w v xs) (k : SRow w u ys) : Calls Try.prog 18 #[v, u] w (MadeS w (rowB xs && rowB ys) (xs ++ ys)) := by
  cases hx : rowB xs with
  | false =>
    have D := Lib.hid (l2Row_is v xs false hx w h.load)
    clear h k hx
    go_enter Try.func18, Try.ntmps18
    go_wp2_with fail
    refine D.out.mono ?_
    rintro e w' ⟨rfl, rfl⟩
    go_wp2
    go_ret2
    exact madeS_no rfl ((Below.refl _ _).alloc (Nat.le_refl _) _)
  | true =>
    cases hy : rowB ys with
    | false =>
      have D := Lib.hid (l2Row_is v xs true hx w h.load)
      have D2 := Lib.hid (l2Row_is u ys false hy w k.load)
      clear h k hx hy
      go_enter Try.func18, Try.ntmps18
      go_wp2_with fail
      refine D.out.mono ?_
      rintro e w' ⟨rfl, rfl⟩
      go_wp2_with fail
      refine D2.out.mono ?_
      rintro e w' ⟨rfl, rfl⟩
      go_wp2
      go_ret2
      exact madeS_no rfl ((Below.refl _ _).alloc (Nat.le_refl _) _)
    | true =>
      have D := Lib.hid (l2Row_is v xs true hx w h.load)
      have D2 := Lib.hid (l2Row_is u ys true hy w k.load)
      have MM := Lib.hid (l2Joined_any v u xs ys w h k ((rowB_iff xs).1 hx).short ((rowB_iff ys).1 hy).short)
      clear h k hx hy
      go_enter Try.func18, Try.ntmps18
      go_wp2_with fail
      refine D.out.mono ?_
      rintro e w' ⟨rfl, rfl⟩
      go_wp2_with fail
      refine D2.out.mono ?_
      rintro e w' ⟨rfl, rfl⟩
      go_wp2_with fail
      refine MM.out.mono ?_
      rintro e w1 ⟨v1, rfl, o1, _, l1⟩
      have KK := Lib.hid (kept_any v1 _ w1 (loadRow_own o1))
      clear o1
      go_wp2_with fail
      refine KK.out.mono ?_
      rintro e w2 ⟨v2, rfl, o2, l2⟩
      have OO := Lib.hid o2
      clear o2
      go_wp2
      go_ret2
      exact madeS_yes rfl OO.out (lo_on l1 l2)
theorem specShift_is (v : Value) (xs : List (Int × Int)) (m : Int) (w : World) (h : LoadRow w v xs) : Calls Try.prog 20 #[v, .int .i64 m] w (MadeS w (rowB xs && (decide (-60 ≤ m) && decide (m ≤ 60))) (moved 1 m xs)) := by
  cases hx : rowB xs with
  | false =>
    have D := Lib.hid (l2Row_is v xs false hx w h)
    clear h hx
    go_enter Try.func20, Try.ntmps20
    go_wp2_with fail
    refine D.out.mono ?_
    rintro e w' ⟨rfl, rfl⟩
    go_wp2
    go_ret2
    exact madeS_no rfl ((Below.refl _ _).alloc (Nat.le_refl _) _)
  | true =>
    have D := Lib.hid (l2Row_is v xs true hx w h)
    have I := l1In_any m (-60) 60 w
    rw [Bool.true_and]
    cases hb : (decide (-60 ≤ m) && decide (m ≤ 60)) with
    | false =>
      rw [hb] at I
      have II := Lib.hid I
      clear h hx hb I
      go_enter Try.func20, Try.ntmps20
      go_wp2_with fail
      refine D.out.mono ?_
      rintro e w' ⟨rfl, rfl⟩
      go_wp2_with fail
      refine II.out.mono ?_
      rintro e w' ⟨rfl, rfl⟩
      go_wp2
      go_ret2
      exact madeS_no rfl ((Below.refl _ _).alloc (Nat.le_refl _) _)
    | true =>
      rw [hb] at I
      have II := Lib.hid I
      simp only [Bool.and_eq_true, decide_eq_true_eq] at hb
      have MM := Lib.hid (l2Moved_any v xs 1 m w h ((rowB_iff xs).1 hx) (.inl rfl) hb.1 hb.2)
      clear h hx hb I
      go_enter Try.func20, Try.ntmps20
      go_wp2_with fail
      refine D.out.mono ?_
      rintro e w' ⟨rfl, rfl⟩
      go_wp2_with fail
      refine II.out.mono ?_
      rintro e w' ⟨rfl, rfl⟩
      go_wp2_with fail
      refine MM.out.mono ?_
      rintro e w1 ⟨v1, rfl, o1, _, l1⟩
      have KK := Lib.hid (kept_any v1 _ w1 (loadRow_own o1))
      clear o1
      go_wp2_with fail
      refine KK.out.mono ?_
      rintro e w2 ⟨v2, rfl, o2, l2⟩
      have OO := Lib.hid o2
      clear o2
      go_wp2
      go_ret2
      exact madeS_yes rfl OO.out (lo_on l1 l2)
end Go.Proofs.Ytjchmjbgboeolaa
