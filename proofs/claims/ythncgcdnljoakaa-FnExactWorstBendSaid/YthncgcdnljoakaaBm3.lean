/- The contracts of the model's and of the program's functions on what a beam rests on. -/
import Derived.Test.YthncgcdnljoakaaBm2
import Derived.Test.YthncgcdnljoakaaImpl4
namespace Go.Proofs.Ythncgcdnljoakaa
open Go.RowKit
theorem onB_base {p : BeamV} {xs : List (Int × Int)} (h : OnF p xs) : baseB p.a p.b = true := (baseB_iff _ _).2 ⟨h.a0, by have := h.ab; omega, by have := h.b1; have := h.l1; omega⟩
theorem tip_some (v : Value) (xs : List (Int × Int)) (a b : Int) (w : World) (hr : LoadRow w v xs) :
    ∃ (s : Int) (r : Bool), (rowB xs && baseB a b) = r ∧ (r = true → s = sideF a b xs) ∧ Calls Try.prog 82 #[v, .int .i64 a, .int .i64 b] w fun e w' => e = .returned (.tuple #[.int .i64 s, .bool r]) ∧ Below w.heap.size w w' := by
  cases h : rowB xs && baseB a b with
  | true =>
    have h' := h
    rw [Bool.and_eq_true] at h'
    exact ⟨_, true, rfl, fun _ => rfl, tipSide_yes v xs a b w hr ((rowB_iff xs).1 h'.1) h'.2⟩
  | false => exact ⟨_, false, rfl, fun h => by simp at h, tipSide_no v xs a b w hr h⟩
def restB (p : BeamV) (xs : List (Int × Int)) : Bool := decide (sideF p.a p.b xs = 0)
set_option maxHeartbeats 1600000 in
theorem specRests_any (p : BeamV) (v : Value) (xs : List (Int × Int)) (w : World) (hr : LoadRow w v xs) :
    Calls Try.prog 24 #[.agg #[.int .i64 p.l, .int .i64 p.a, .int .i64 p.b], v] w fun e w' => e = .returned (.tuple #[.bool (onB p xs && restB p xs), .bool (onB p xs)]) ∧ Below w.heap.size w w' := by
  unfold restB
  have C := Lib.hid (fun w1 (l : Below w.heap.size w w1) => l6On_any p v xs w1 (hr.lo l))
  have S := Lib.hid (fun (h : onB p xs = true) w1 (l : Below w.heap.size w w1) => by
    have hf := (onB_iff p xs).1 h
    have h0 := hf.a0; have h1 := hf.ab; have h2 := hf.b1; have h3 := hf.l1
    exact l2Side_any v xs p.a p.b w1 (hr.lo l) hf.row (by omega) (by omega) (by omega) (by omega))
  generalize onB p xs = r at *
  generalize sideF p.a p.b xs = s at *
  obtain ⟨l, a, b⟩ := p
  simp only at C S ⊢
  clear hr
  obtain ⟨W, hW⟩ : ∃ W, w.alloc (.cells #[.int .i64 l, .int .i64 a, .int .i64 b] 25) = W := ⟨_, rfl⟩
  have LW := Lib.hid (show Below w.heap.size w W by rw [← hW]; exact below_new _ _)
  have BX := Lib.hid (show Cel3 W w.heap.size (.int .i64 l) (.int .i64 a) (.int .i64 b) by rw [← hW]; exact cel3_new _ _ _ _ _)
  obtain ⟨_, u0, u1, u2⟩ := BX.out
  cases r with
  | false =>
    go_enter Try.func24, Try.ntmps24
    go_wp2_with fail
    clear hW
    refine (C.out W LW.out).mono ?_
    rintro e w1 ⟨rfl, l1⟩
    go_wp2
    go_ret2
    exact ⟨rfl, lo_on LW.out l1⟩
  | true =>
    go_enter Try.func24, Try.ntmps24
    go_wp2_with fail
    clear hW
    refine (C.out W LW.out).mono ?_
    rintro e w1 ⟨rfl, l1⟩
    have L1 := Lib.hid (lo_on LW.out l1)
    have SS := Lib.hid (S.out trivial w1 L1.out)
    obtain ⟨_, x0, x1, x2⟩ := BX.out.lo l1
    clear l1 u0 u1 u2 BX S C
    go_wp2_with fail
    refine SS.out.mono ?_
    rintro e w2 ⟨rfl, l2⟩
    have L2 := Lib.hid (lo_on L1.out l2)
    clear l2 SS x0 x1 x2
    go_wp2
    go_ret2
    exact ⟨by rfl, L2.out⟩
set_option maxHeartbeats 1600000 in
theorem rests_any (p : BeamV) (v : Value) (xs : List (Int × Int)) (w : World) (hr : LoadRow w v xs) :
    Calls Try.prog 26 #[.agg #[.int .i64 p.l, .int .i64 p.a, .int .i64 p.b], v] w fun e w' => e = .returned (.tuple #[.bool (onB p xs && restB p xs), .bool (onB p xs)]) ∧ Below w.heap.size w w' := by
  unfold restB
  have C := Lib.hid (fun w1 (l : Below w.heap.size w w1) => isOn_any p v xs w1 (hr.lo l))
  have S := Lib.hid (fun w1 (l : Below w.heap.size w w1) => tip_some v xs p.a p.b w1 (hr.lo l))
  have HO := Lib.hid (fun h : onB p xs = true => show (rowB xs && baseB p.a p.b) = true by
    have hf := (onB_iff p xs).1 h
    rw [(rowB_iff xs).2 hf.row, onB_base hf]; rfl)
  generalize onB p xs = r at *
  generalize sideF p.a p.b xs = s at *
  generalize (rowB xs && baseB p.a p.b) = rb at *
  obtain ⟨l, a, b⟩ := p
  simp only at C S HO ⊢
  clear hr
  obtain ⟨W, hW⟩ : ∃ W, w.alloc (.cells #[.int .i64 l, .int .i64 a, .int .i64 b] 25) = W := ⟨_, rfl⟩
  have LW := Lib.hid (show Below w.heap.size w W by rw [← hW]; exact below_new _ _)
  have BX := Lib.hid (show Cel3 W w.heap.size (.int .i64 l) (.int .i64 a) (.int .i64 b) by rw [← hW]; exact cel3_new _ _ _ _ _)
  obtain ⟨_, u0, u1, u2⟩ := BX.out
  cases r with
  | false =>
    go_enter Try.func26, Try.ntmps26
    go_wp2_with fail
    clear hW
    refine (C.out W LW.out).mono ?_
    rintro e w1 ⟨rfl, l1⟩
    have L1 := Lib.hid (lo_on LW.out l1)
    obtain ⟨t, q, _, _, T⟩ := S.out w1 L1.out
    have TT := Lib.hid T
    obtain ⟨_, x0, x1, x2⟩ := BX.out.lo l1
    clear l1 u0 u1 u2 BX S C T
    go_wp2_with fail
    refine TT.out.mono ?_
    rintro e w2 ⟨rfl, l2⟩
    have L2 := Lib.hid (lo_on L1.out l2)
    clear l2 TT x0 x1 x2
    go_wp2
    go_ret2
    exact ⟨rfl, L2.out⟩
  | true =>
    have hrb := HO.out rfl
    subst hrb
    go_enter Try.func26, Try.ntmps26
    go_wp2_with fail
    clear hW
    refine (C.out W LW.out).mono ?_
    rintro e w1 ⟨rfl, l1⟩
    have L1 := Lib.hid (lo_on LW.out l1)
    obtain ⟨t, q, hq, ht, T⟩ := S.out w1 L1.out
    subst hq
    have ht := ht rfl
    subst ht
    have TT := Lib.hid T
    obtain ⟨_, x0, x1, x2⟩ := BX.out.lo l1
    clear l1 u0 u1 u2 BX S C T
    go_wp2_with fail
    refine TT.out.mono ?_
    rintro e w2 ⟨rfl, l2⟩
    have L2 := Lib.hid (lo_on L1.out l2)
    clear l2 TT x0 x1 x2
    go_wp2
    go_ret2
    exact ⟨by rfl, L2.out⟩
/-- A block of four cells. -/
def Cel4 (w : World) (b : Nat) (x y z t : Value) : Prop := b < w.heap.size ∧ w.cell? ⟨b, 0, none⟩ = some x ∧ w.cell? ⟨b, 1, none⟩ = some y ∧ w.cell? ⟨b, 2, none⟩ = some z ∧ w.cell? ⟨b, 3, none⟩ = some t
theorem Cel4.lo {w w' : World} {b : Nat} {x y z t : Value} (h : Cel4 w b x y z t) (l : Below w.heap.size w w') : Cel4 w' b x y z t := by
  obtain ⟨h0, h1, h2, h3, h4⟩ := h
  exact ⟨Nat.lt_of_lt_of_le h0 l.size, by rw [l.cell (p := ⟨b, 0, none⟩) h0]; exact h1, by rw [l.cell (p := ⟨b, 1, none⟩) h0]; exact h2, by rw [l.cell (p := ⟨b, 2, none⟩) h0]; exact h3, by rw [l.cell (p := ⟨b, 3, none⟩) h0]; exact h4⟩
theorem cel4_new (w : World) (x y z t : Value) (T : TypeId) : Cel4 (w.alloc (.cells #[x, y, z, t] T)) w.heap.size x y z t :=
  ⟨by simp, by rw [World.cell?_alloc_at _ _ _ _ rfl]; rfl, by rw [World.cell?_alloc_at _ _ _ _ rfl]; rfl, by rw [World.cell?_alloc_at _ _ _ _ rfl]; rfl, by rw [World.cell?_alloc_at _ _ _ _ rfl]; rfl⟩
theorem cel4_set (w : World) (g : Nat) {x y z t : Value} (h : Cel4 w g x y z t) (a b c d : Value) : Cel4 ((((w.setCell ⟨g, 0, none⟩ a).setCell ⟨g, 1, none⟩ b).setCell ⟨g, 2, none⟩ c).setCell ⟨g, 3, none⟩ d) g a b c d := by
  obtain ⟨h0, h1, h2, h3, h4⟩ := h
  have ne : ∀ i j : Nat, i ≠ j → (⟨g, i, none⟩ : Addr) ≠ ⟨g, j, none⟩ := fun i j hij h => hij (congrArg Addr.off h)
  refine ⟨by simpa using h0, ?_, ?_, ?_, ?_⟩
  · rw [World.cell?_setCell_other _ _ _ _ (ne 3 0 (by decide)), World.cell?_setCell_other _ _ _ _ (ne 2 0 (by decide)), World.cell?_setCell_other _ _ _ _ (ne 1 0 (by decide)), World.cell?_setCell_same' _ _ _ (by rw [h1]; rfl)]
  · rw [World.cell?_setCell_other _ _ _ _ (ne 3 1 (by decide)), World.cell?_setCell_other _ _ _ _ (ne 2 1 (by decide)), World.cell?_setCell_same' _ _ _ (by rw [World.cell?_setCell_other _ _ _ _ (ne 0 1 (by decide)), h2]; rfl)]
  · rw [World.cell?_setCell_other _ _ _ _ (ne 3 2 (by decide)), World.cell?_setCell_same' _ _ _ (by rw [World.cell?_setCell_other _ _ _ _ (ne 1 2 (by decide)), World.cell?_setCell_other _ _ _ _ (ne 0 2 (by decide)), h3]; rfl)]
  · rw [World.cell?_setCell_same' _ _ _ (by rw [World.cell?_setCell_other _ _ _ _ (ne 2 3 (by decide)), World.cell?_setCell_other _ _ _ _ (ne 1 3 (by decide)), World.cell?_setCell_other _ _ _ _ (ne 0 3 (by decide)), h4]; rfl)]
theorem below_four {w w1 : World} {B g : Nat} (h : Below B w w1) (hg : B ≤ g) (x y z t : Value) : Below B w ((((w1.setCell ⟨g, 0, none⟩ x).setCell ⟨g, 1, none⟩ y).setCell ⟨g, 2, none⟩ z).setCell ⟨g, 3, none⟩ t) :=
  (((h.setCell (p := ⟨g, 0, none⟩) hg _).setCell (p := ⟨g, 1, none⟩) hg _).setCell (p := ⟨g, 2, none⟩) hg _).setCell (p := ⟨g, 3, none⟩) hg _
set_option maxRecDepth 100000 in
set_option maxHeartbeats 1600000 in
theorem supF_any (p : BeamV) (v : Value) (xs : List (Int × Int)) (w : World) (hr : LoadRow w v xs) (hf : OnF p xs) :
    Calls Try.prog 85 #[.agg #[.int .i64 p.l, .int .i64 p.a, .int .i64 p.b], v] w fun e w' => e = .returned (.agg #[.int .i64 p.a, .int .i64 (-momF p.b xs), .int .i64 p.b, .int .i64 (momF p.a xs)]) ∧ Below w.heap.size w w' := by
  have C := Lib.hid (fun w1 (l : Below w.heap.size w w1) => baseMoments_yes v xs p.a p.b w1 (hr.lo l) hf.row (onB_base hf))
  have hb := rowF_bounds hf.row
  have h0 := hf.a0; have h1 := hf.ab; have h2 := hf.b1; have h3 := hf.l1
  have m1 := hb.2.2.2 p.a (by omega) (by omega)
  have m2 := hb.2.2.2 p.b (by omega) (by omega)
  clear hr hf hb
  generalize momF p.b xs = m at *
  generalize momF p.a xs = n at *
  obtain ⟨l, a, b⟩ := p
  simp only at *
  obtain ⟨W, hW⟩ : ∃ W, (w.alloc (.cells #[.int .i64 l, .int .i64 a, .int .i64 b] 25)).alloc (.cells #[.int .i64 0, .int .i64 0, .int .i64 0, .int .i64 0] 88) = W := ⟨_, rfl⟩
  have LW := Lib.hid (show Below w.heap.size w W by rw [← hW]; exact lo_on (below_new _ _) (below_new _ _))
  have BX := Lib.hid (show Cel3 W w.heap.size (.int .i64 l) (.int .i64 a) (.int .i64 b) by rw [← hW]; exact (cel3_new _ _ _ _ _).lo (below_new _ _))
  have BY := Lib.hid (show Cel4 W (w.heap.size + 1) (.int .i64 0) (.int .i64 0) (.int .i64 0) (.int .i64 0) by rw [← hW]; have := cel4_new (w.alloc (.cells #[.int .i64 l, .int .i64 a, .int .i64 b] 25)) (.int .i64 0) (.int .i64 0) (.int .i64 0) (.int .i64 0) 88; simpa using this)
  have FY := Lib.hid (show ∀ j, W.frozen? ⟨w.heap.size + 1, j, none⟩ = false by rw [← hW]; exact fun j => World.frozen?_alloc_at _ _ _ _ (by simp))
  obtain ⟨_, u0, u1, u2⟩ := BX.out
  go_enter Try.func85, Try.ntmps85
  go_wp2_with fail
  clear hW
  refine (C.out W LW.out).mono ?_
  rintro e w1 ⟨rfl, l1⟩
  have fz : ∀ j, w1.frozen? ⟨w.heap.size + 1, j, none⟩ = false := fun j => by rw [l1.frozen (p := ⟨w.heap.size + 1, j, none⟩) BY.out.1]; exact FY.out j
  have f0 := fz 0
  have f1 := fz 1
  have f2 := fz 2
  have f3 := fz 3
  have TS := Lib.hid (cel4_set w1 _ (BY.out.lo l1) (.int .i64 a) (.int .i64 (-m)) (.int .i64 b) (.int .i64 n))
  have L1 := Lib.hid (lo_on LW.out l1)
  obtain ⟨_, x0, x1, x2⟩ := BX.out.lo l1
  obtain ⟨_, y0, y1, y2, y3⟩ := BY.out.lo l1
  clear l1 u0 u1 u2 BX BY FY C fz
  go_wp2
  obtain ⟨_, q0, q1, q2, q3⟩ := TS.out
  exact bodyPost_ret (v := .agg #[.int .i64 a, .int .i64 (-m), .int .i64 b, .int .i64 n]) (by simp [results, Try.results85, go_sem, q0, q1, q2, q3]) rfl ⟨rfl, below_four L1.out (by omega) _ _ _ _⟩
end Go.Proofs.Ythncgcdnljoakaa
