/- The contracts of the model's and of the program's tests of beams, and the mirrored beam. -/
import Derived.Test.YthncgcdnljoakaaBms
namespace Go.Proofs.Ythncgcdnljoakaa
open Go.RowKit
theorem below_new (w : World) (o : Obj) : Below w.heap.size w (w.alloc o) := (Below.refl _ _).alloc (Nat.le_refl _) o
set_option maxHeartbeats 800000 in
theorem l6Beam_any (p : BeamV) (w : World) : Calls Try.prog 77 #[.agg #[.int .i64 p.l, .int .i64 p.a, .int .i64 p.b]] w fun e w' => e = .returned (.bool (beamB p)) ∧ Below w.heap.size w w' := by
  obtain ⟨l, a, b⟩ := p
  unfold beamB
  simp only
  have I1 := Lib.hid (fun w => l1In_is l 1 60 _ rfl w)
  by_cases h1 : 1 ≤ l ∧ l ≤ 60
  · have e1 : (decide (1 ≤ l) && decide (l ≤ 60)) = true := by simp; omega
    rw [e1] at I1 ⊢
    obtain ⟨h10, h11⟩ := h1
    have I2 := Lib.hid (fun w => l1In_is a 0 (l - 1) _ rfl w)
    by_cases h2 : 0 ≤ a ∧ a ≤ l - 1
    · have e2 : (decide (0 ≤ a) && decide (a ≤ l - 1)) = true := by simp; omega
      rw [e2] at I2 ⊢
      obtain ⟨h20, h21⟩ := h2
      have I3 := Lib.hid (fun w => l1In_is b (a + 1) l _ rfl w)
      obtain ⟨r, hr⟩ : ∃ r, (decide (a + 1 ≤ b) && decide (b ≤ l)) = r := ⟨_, rfl⟩
      rw [hr] at I3 ⊢
      clear hr e1 e2
      cases r
      all_goals
        (go_enter Try.func77, Try.ntmps77
         go_wp2_with fail
         refine (I1.out _).mono ?_
         rintro e w' ⟨rfl, rfl⟩
         go_wp2_with fail
         refine (I2.out _).mono ?_
         rintro e w' ⟨rfl, rfl⟩
         go_wp2_with fail
         refine (I3.out _).mono ?_
         rintro e w' ⟨rfl, rfl⟩
         go_wp2
         go_ret
         exact ⟨rfl, below_new _ _⟩)
    · have e2 : (decide (0 ≤ a) && decide (a ≤ l - 1)) = false := by simp; omega
      rw [e2] at I2 ⊢
      clear e1 e2 h2
      go_enter Try.func77, Try.ntmps77
      go_wp2_with fail
      refine (I1.out _).mono ?_
      rintro e w' ⟨rfl, rfl⟩
      go_wp2_with fail
      refine (I2.out _).mono ?_
      rintro e w' ⟨rfl, rfl⟩
      go_wp2
      go_ret
      exact ⟨rfl, below_new _ _⟩
  · have e1 : (decide (1 ≤ l) && decide (l ≤ 60)) = false := by simp; omega
    rw [e1] at I1 ⊢
    clear e1 h1
    go_enter Try.func77, Try.ntmps77
    go_wp2_with fail
    refine (I1.out _).mono ?_
    rintro e w' ⟨rfl, rfl⟩
    go_wp2
    go_ret
    exact ⟨rfl, below_new _ _⟩
theorem l6Beam_is (p : BeamV) (r : Bool) (h : beamB p = r) (w : World) : Calls Try.prog 77 #[.agg #[.int .i64 p.l, .int .i64 p.a, .int .i64 p.b]] w fun e w' => e = .returned (.bool r) ∧ Below w.heap.size w w' := by
  subst h
  exact l6Beam_any p w
theorem specIsBeam_any (p : BeamV) (w : World) : Calls Try.prog 20 #[.agg #[.int .i64 p.l, .int .i64 p.a, .int .i64 p.b]] w fun e w' => e = .returned (.bool (beamB p)) ∧ Below w.heap.size w w' := by
  have C := Lib.hid (fun w => l6Beam_any p w)
  generalize beamB p = r at *
  go_enter Try.func20, Try.ntmps20
  go_wp2_with fail
  refine (C.out _).mono ?_
  rintro e w1 ⟨rfl, l1⟩
  go_wp2
  go_ret
  exact ⟨rfl, lo_on (below_new _ _) l1⟩
set_option maxHeartbeats 800000 in
theorem isBeam_any (p : BeamV) (w : World) : Calls Try.prog 22 #[.agg #[.int .i64 p.l, .int .i64 p.a, .int .i64 p.b]] w fun e w' => e = .returned (.bool (beamB p)) ∧ Below w.heap.size w w' := by
  have HB := Lib.hid (beamB_iff p)
  obtain ⟨l, a, b⟩ := p
  simp only at HB ⊢
  by_cases h1 : 1 ≤ l
  case neg =>
    have HF := Lib.hid (show beamB ⟨l, a, b⟩ = false by cases h : beamB ⟨l, a, b⟩ with | false => rfl | true => have := HB.out.1 h; omega)
    go_enter Try.func22, Try.ntmps22
    go_wp2
    go_ret
    exact ⟨by rw [HF.out]; rfl, below_new _ _⟩
  by_cases h2 : l ≤ 60
  case neg =>
    have HF := Lib.hid (show beamB ⟨l, a, b⟩ = false by cases h : beamB ⟨l, a, b⟩ with | false => rfl | true => have := HB.out.1 h; omega)
    go_enter Try.func22, Try.ntmps22
    go_wp2
    go_ret
    exact ⟨by rw [HF.out]; rfl, below_new _ _⟩
  by_cases h3 : 0 ≤ a
  case neg =>
    have HF := Lib.hid (show beamB ⟨l, a, b⟩ = false by cases h : beamB ⟨l, a, b⟩ with | false => rfl | true => have := HB.out.1 h; omega)
    go_enter Try.func22, Try.ntmps22
    go_wp2
    go_ret
    exact ⟨by rw [HF.out]; rfl, below_new _ _⟩
  by_cases h4 : a < b
  case neg =>
    have HF := Lib.hid (show beamB ⟨l, a, b⟩ = false by cases h : beamB ⟨l, a, b⟩ with | false => rfl | true => have := HB.out.1 h; omega)
    go_enter Try.func22, Try.ntmps22
    go_wp2
    go_ret
    exact ⟨by rw [HF.out]; rfl, below_new _ _⟩
  by_cases h5 : b ≤ l
  case neg =>
    have HF := Lib.hid (show beamB ⟨l, a, b⟩ = false by cases h : beamB ⟨l, a, b⟩ with | false => rfl | true => have := HB.out.1 h; omega)
    go_enter Try.func22, Try.ntmps22
    go_wp2
    go_ret
    exact ⟨by rw [HF.out]; rfl, below_new _ _⟩
  have HF := Lib.hid (show beamB ⟨l, a, b⟩ = true from HB.out.2 ⟨h1, h2, h3, h4, h5⟩)
  go_enter Try.func22, Try.ntmps22
  go_wp2
  go_ret
  exact ⟨by rw [HF.out]; rfl, below_new _ _⟩
theorem isBeam_is (p : BeamV) (r : Bool) (h : beamB p = r) (w : World) : Calls Try.prog 22 #[.agg #[.int .i64 p.l, .int .i64 p.a, .int .i64 p.b]] w fun e w' => e = .returned (.bool r) ∧ Below w.heap.size w w' := by
  subst h
  exact isBeam_any p w
def mirB (p : BeamV) : BeamV := if beamB p = true then ⟨p.l, p.l - p.b, p.l - p.a⟩ else ⟨0, 0, 0⟩
theorem cel3_set (w : World) (g : Nat) {x y z : Value} (h : Cel3 w g x y z) (u v t : Value) : Cel3 (((w.setCell ⟨g, 0, none⟩ u).setCell ⟨g, 1, none⟩ v).setCell ⟨g, 2, none⟩ t) g u v t := by
  obtain ⟨h0, h1, h2, h3⟩ := h
  have ne01 : (⟨g, 0, none⟩ : Addr) ≠ ⟨g, 1, none⟩ := fun h => by cases h
  have ne02 : (⟨g, 0, none⟩ : Addr) ≠ ⟨g, 2, none⟩ := fun h => by cases h
  have ne12 : (⟨g, 1, none⟩ : Addr) ≠ ⟨g, 2, none⟩ := fun h => by cases h
  refine ⟨by simpa using h0, ?_, ?_, ?_⟩
  · rw [World.cell?_setCell_other _ _ _ _ ne02.symm, World.cell?_setCell_other _ _ _ _ ne01.symm, World.cell?_setCell_same' _ _ _ (by rw [h1]; rfl)]
  · rw [World.cell?_setCell_other _ _ _ _ ne12.symm, World.cell?_setCell_same' _ _ _ (by rw [World.cell?_setCell_other _ _ _ _ ne01, h2]; rfl)]
  · rw [World.cell?_setCell_same' _ _ _ (by rw [World.cell?_setCell_other _ _ _ _ ne12, World.cell?_setCell_other _ _ _ _ ne02, h3]; rfl)]
/-- Both blocks of a function on a beam whose result is one, behind a call. -/
theorem mir_cells (w w1 : World) (x y z u v t : Value) (T : TypeId) (l : Below ((w.alloc (.cells #[x, y, z] T)).alloc (.cells #[u, v, t] T)).heap.size ((w.alloc (.cells #[x, y, z] T)).alloc (.cells #[u, v, t] T)) w1) :
    Cel3 w1 w.heap.size x y z ∧ Cel3 w1 (w.heap.size + 1) u v t ∧ (∀ j, w1.frozen? ⟨w.heap.size + 1, j, none⟩ = false) ∧ Below w.heap.size w w1 := by
  have b := cel3_new (w.alloc (.cells #[x, y, z] T)) u v t T
  rw [World.size_alloc] at b
  refine ⟨((cel3_new w x y z T).lo (below_new _ _)).lo l, b.lo l, fun j => ?_, lo_on (lo_on (below_new _ _) (below_new _ _)) l⟩
  rw [l.frozen (p := ⟨w.heap.size + 1, j, none⟩) (by simp)]
  exact World.frozen?_alloc_at _ _ _ _ (by simp)
theorem three_below {w w1 : World} {g : Nat} (h : Below g w w1) (x y z : Value) : Below g w (((w1.setCell ⟨g + 1, 0, none⟩ x).setCell ⟨g + 1, 1, none⟩ y).setCell ⟨g + 1, 2, none⟩ z) :=
  ((h.setCell (p := ⟨g + 1, 0, none⟩) (by simp only; omega) _).setCell (p := ⟨g + 1, 1, none⟩) (by simp only; omega) _).setCell (p := ⟨g + 1, 2, none⟩) (by simp only; omega) _
set_option maxHeartbeats 1600000 in
theorem specMirBeam_any (p : BeamV) (w : World) : Calls Try.prog 55 #[.agg #[.int .i64 p.l, .int .i64 p.a, .int .i64 p.b]] w fun e w' => e = .returned (.tuple #[.agg #[.int .i64 (mirB p).l, .int .i64 (mirB p).a, .int .i64 (mirB p).b], .bool (beamB p)]) ∧ Below w.heap.size w w' := by
  unfold mirB
  have HB := Lib.hid (beamB_iff p)
  have C := Lib.hid (fun w => l6Beam_any p w)
  obtain ⟨l, a, b⟩ := p
  generalize beamB ⟨l, a, b⟩ = r at *
  simp only at HB C ⊢
  cases r with
  | false =>
    simp only [Bool.false_eq_true, if_false]
    go_enter Try.func55, Try.ntmps55
    go_wp2_with fail
    refine (C.out _).mono ?_
    rintro e w1 ⟨rfl, l1⟩
    have MC := Lib.hid (mir_cells w w1 _ _ _ _ _ _ _ l1)
    obtain ⟨_, BY, FZ, LL⟩ := MC.out
    have TS := Lib.hid (cel3_set w1 _ BY (.int .i64 0) (.int .i64 0) (.int .i64 0))
    have LW := Lib.hid LL
    obtain ⟨_, y0, y1, y2⟩ := BY
    have f0 := FZ 0
    have f1 := FZ 1
    have f2 := FZ 2
    clear MC FZ LL l1 C HB
    go_wp2
    obtain ⟨_, q0, q1, q2⟩ := TS.out
    exact bodyPost_ret (v := .tuple #[.agg #[.int .i64 0, .int .i64 0, .int .i64 0], .bool false]) (by simp [results, Try.results55, go_sem, q0, q1, q2]) rfl ⟨rfl, three_below LW.out _ _ _⟩
  | true =>
    obtain ⟨b1, b2, b3, b4, b5⟩ := HB.out.1 rfl
    simp only [if_true]
    go_enter Try.func55, Try.ntmps55
    go_wp2_with fail
    refine (C.out _).mono ?_
    rintro e w1 ⟨rfl, l1⟩
    have MC := Lib.hid (mir_cells w w1 _ _ _ _ _ _ _ l1)
    obtain ⟨BX, BY, FZ, LL⟩ := MC.out
    have TS := Lib.hid (cel3_set w1 _ BY (.int .i64 l) (.int .i64 (l - b)) (.int .i64 (l - a)))
    have LW := Lib.hid LL
    obtain ⟨_, y0, y1, y2⟩ := BY
    obtain ⟨_, x0, x1, x2⟩ := BX
    have f0 := FZ 0
    have f1 := FZ 1
    have f2 := FZ 2
    clear MC FZ LL l1 C HB
    go_wp2
    obtain ⟨_, q0, q1, q2⟩ := TS.out
    exact bodyPost_ret (v := .tuple #[.agg #[.int .i64 l, .int .i64 (l - b), .int .i64 (l - a)], .bool true]) (by simp [results, Try.results55, go_sem, q0, q1, q2]) rfl ⟨rfl, three_below LW.out _ _ _⟩
set_option maxHeartbeats 1600000 in
theorem mirBeam_any (p : BeamV) (w : World) : Calls Try.prog 56 #[.agg #[.int .i64 p.l, .int .i64 p.a, .int .i64 p.b]] w fun e w' => e = .returned (.tuple #[.agg #[.int .i64 (mirB p).l, .int .i64 (mirB p).a, .int .i64 (mirB p).b], .bool (beamB p)]) ∧ Below w.heap.size w w' := by
  unfold mirB
  have HB := Lib.hid (beamB_iff p)
  have C := Lib.hid (fun w => isBeam_any p w)
  obtain ⟨l, a, b⟩ := p
  generalize beamB ⟨l, a, b⟩ = r at *
  simp only at HB C ⊢
  cases r with
  | false =>
    simp only [Bool.false_eq_true, if_false]
    go_enter Try.func56, Try.ntmps56
    go_wp2_with fail
    refine (C.out _).mono ?_
    rintro e w1 ⟨rfl, l1⟩
    have MC := Lib.hid (mir_cells w w1 _ _ _ _ _ _ _ l1)
    obtain ⟨_, BY, FZ, LL⟩ := MC.out
    have TS := Lib.hid (cel3_set w1 _ BY (.int .i64 0) (.int .i64 0) (.int .i64 0))
    have LW := Lib.hid LL
    obtain ⟨_, y0, y1, y2⟩ := BY
    have f0 := FZ 0
    have f1 := FZ 1
    have f2 := FZ 2
    clear MC FZ LL l1 C HB
    go_wp2
    obtain ⟨_, q0, q1, q2⟩ := TS.out
    exact bodyPost_ret (v := .tuple #[.agg #[.int .i64 0, .int .i64 0, .int .i64 0], .bool false]) (by simp [results, Try.results56, go_sem, q0, q1, q2]) rfl ⟨rfl, three_below LW.out _ _ _⟩
  | true =>
    obtain ⟨b1, b2, b3, b4, b5⟩ := HB.out.1 rfl
    simp only [if_true]
    go_enter Try.func56, Try.ntmps56
    go_wp2_with fail
    refine (C.out _).mono ?_
    rintro e w1 ⟨rfl, l1⟩
    have MC := Lib.hid (mir_cells w w1 _ _ _ _ _ _ _ l1)
    obtain ⟨BX, BY, FZ, LL⟩ := MC.out
    have TS := Lib.hid (cel3_set w1 _ BY (.int .i64 l) (.int .i64 (l - b)) (.int .i64 (l - a)))
    have LW := Lib.hid LL
    obtain ⟨_, y0, y1, y2⟩ := BY
    obtain ⟨_, x0, x1, x2⟩ := BX
    have f0 := FZ 0
    have f1 := FZ 1
    have f2 := FZ 2
    clear MC FZ LL l1 C HB
    go_wp2
    obtain ⟨_, q0, q1, q2⟩ := TS.out
    exact bodyPost_ret (v := .tuple #[.agg #[.int .i64 l, .int .i64 (l - b), .int .i64 (l - a)], .bool true]) (by simp [results, Try.results56, go_sem, q0, q1, q2]) rfl ⟨rfl, three_below LW.out _ _ _⟩
end Go.Proofs.Ythncgcdnljoakaa
