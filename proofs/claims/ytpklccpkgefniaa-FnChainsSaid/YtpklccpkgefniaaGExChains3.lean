/- Cg5, Cg6, as one text. -/
import Derived.Test.YtpklccpkgefniaaCg4
import Derived.Test.YtpklccpkgefniaaLoadOwn
namespace Go.Proofs.Ytpklccpkgefniaa
open Go.RowKit
theorem cut_size (a b : Int) (ha : 0 ≤ a) (hb : 0 < b) : (0 ≤ cutA a b ∧ cutA a b ≤ a) ∧ 1 ≤ cutB a b ∧ cutB a b ≤ b := by
  have h0 := (cut_sign a b hb).2 ha
  have h1 := tdiv_abs a (gcF a b)
  have h2 := cut_pos a b hb
  have h3 := tdiv_abs b (gcF a b)
  unfold cutA cutB at *
  omega
set_option maxRecDepth 100000 in
set_option maxHeartbeats 1600000 in
theorem implLeastPull_any (v : Value) (xs : List StageV) (n : Int) (w : World) (hr : StgRow w v xs) (hn : xs.length ≤ 2000000) :
    Calls Try.prog 35 #[v, .int .i64 n] w fun e w' => e = .returned (.tuple #[.int .i64 (leastF xs n), .bool (askB xs n)]) ∧ Below w.heap.size w w' := by
  have C := Lib.hid (implPullFor_any v xs n w hr hn)
  unfold leastF
  cases hb : askB xs n with
  | false =>
    rw [hb] at C
    unfold pullF at C
    rw [hb] at C
    simp only [zz, Bool.false_eq_true, if_false] at C ⊢
    clear hb hr hn
    go_enter Try.func35, Try.ntmps35
    go_wp2_with fail
    refine C.out.mono ?_
    rintro e w1 ⟨rfl, l⟩
    go_wp2
    go_ret2
    exact ⟨rfl, lo_on l (below_one _ _)⟩
  | true =>
    rw [hb] at C
    unfold pullF at C
    rw [hb] at C
    simp only [zz, if_true] at C ⊢
    have hx := (askB_iff xs n).1 hb
    have BD := ch_bound hx.1.1 hx.1.2
    obtain ⟨_, n0, n1⟩ := hx
    clear hb hr hn
    generalize chF xs = g at *
    obtain ⟨g1, g2⟩ := g
    unfold divF at C
    simp only at C BD ⊢
    have MB := muln_bound n g2 n0 n1 (by omega) (by omega)
    have CS := cut_size (n * g2) g1 MB.1 (by omega)
    have UP := up_cut (n * g2) g1 MB.1 (by omega)
    generalize cutA (n * g2) g1 = x at *
    generalize cutB (n * g2) g1 = y at *
    rw [← UP]
    obtain ⟨⟨c0, c1⟩, c2, c3⟩ := CS
    have yz : (y : Int) ≠ 0 := by omega
    have a2 : -9223372036854775808 ≤ x + y := by omega
    have a3 : x + y ≤ 9223372036854775807 := by omega
    have a4 : -9223372036854775808 ≤ x + y - 1 := by omega
    have a5 : x + y - 1 ≤ 9223372036854775807 := by omega
    have TD := tdiv_abs (x + y - 1) y
    obtain ⟨q, hq⟩ : ∃ q, Int.tdiv (x + y - 1) y = q := ⟨_, rfl⟩
    rw [hq] at TD
    have hw1 : IntKind.i64.wrap q = q := by rw [IntKind.wrap_i64]; omega
    have hw2 : RowKit.wrap64 q = q := Go.IntWalk.wrap64_in q (by omega)
    rw [hq]
    clear n0 n1 BD MB UP TD c0 c1 c2 c3
    go_enter Try.func35, Try.ntmps35
    go_wp2_with fail
    refine C.out.mono ?_
    rintro e w1 ⟨rfl, l⟩
    have G1 := Lib.hid (cel2_new w1 x y 28)
    have L := Lib.hid (lo_on l (below_one w1 (.cells #[.int .i64 x, .int .i64 y] 28)))
    obtain ⟨_, k1, k2, _, _⟩ := G1.out
    clear l C G1
    go_wp2
    go_ret2
    exact ⟨rfl, L.out⟩
set_option maxRecDepth 100000 in
set_option maxHeartbeats 1600000 in
theorem implMostLoad_any (v : Value) (xs : List StageV) (n : Int) (w : World) (hr : StgRow w v xs) (hn : xs.length ≤ 2000000) :
    Calls Try.prog 37 #[v, .int .i64 n] w fun e w' => e = .returned (.tuple #[.int .i64 (mostF xs n), .bool (askB xs n)]) ∧ Below w.heap.size w w' := by
  have C := Lib.hid (bymultiply_any v xs n w hr hn)
  unfold mostF
  cases hb : askB xs n with
  | false =>
    rw [hb] at C
    unfold haulF at C
    rw [hb] at C
    simp only [zz, Bool.false_eq_true, if_false] at C ⊢
    clear hb hr hn
    go_enter Try.func37, Try.ntmps37
    go_wp2_with fail
    refine C.out.mono ?_
    rintro e w1 ⟨rfl, l⟩
    go_wp2
    go_ret2
    exact ⟨rfl, lo_on l (below_one _ _)⟩
  | true =>
    rw [hb] at C
    unfold haulF at C
    rw [hb] at C
    simp only [zz, if_true] at C ⊢
    have hx := (askB_iff xs n).1 hb
    have BD := ch_bound hx.1.1 hx.1.2
    obtain ⟨_, n0, n1⟩ := hx
    clear hb hr hn
    generalize chF xs = g at *
    obtain ⟨g1, g2⟩ := g
    unfold mltF at C
    simp only at C BD ⊢
    have MB := muln_bound n g1 n0 n1 (by omega) (by omega)
    have CS := cut_size (n * g1) g2 MB.1 (by omega)
    have UP := down_cut (n * g1) g2 MB.1 (by omega)
    generalize cutA (n * g1) g2 = x at *
    generalize cutB (n * g1) g2 = y at *
    rw [← UP]
    obtain ⟨⟨c0, c1⟩, c2, c3⟩ := CS
    have yz : (y : Int) ≠ 0 := by omega
    have TD := tdiv_abs (x) y
    obtain ⟨q, hq⟩ : ∃ q, Int.tdiv (x) y = q := ⟨_, rfl⟩
    rw [hq] at TD
    have hw1 : IntKind.i64.wrap q = q := by rw [IntKind.wrap_i64]; omega
    have hw2 : RowKit.wrap64 q = q := Go.IntWalk.wrap64_in q (by omega)
    rw [hq]
    clear n0 n1 BD MB UP TD c0 c1 c2 c3
    go_enter Try.func37, Try.ntmps37
    go_wp2_with fail
    refine C.out.mono ?_
    rintro e w1 ⟨rfl, l⟩
    have G1 := Lib.hid (cel2_new w1 x y 28)
    have L := Lib.hid (lo_on l (below_one w1 (.cells #[.int .i64 x, .int .i64 y] 28)))
    obtain ⟨_, k1, k2, _, _⟩ := G1.out
    clear l C G1
    go_wp2
    go_ret2
    exact ⟨rfl, L.out⟩
def tnB (p : StageV) : Bool := stgB p && decide (p.k = 1 ∨ p.k = 3)
def tnF (p : StageV) : StageV := if tnB p = true then ⟨p.k, p.b, p.a⟩ else stZ
theorem tn_cells {w w1 : World} {x y z u v t : Value} {T : TypeId} (l : Below ((w.alloc (.cells #[x, y, z] T)).alloc (.cells #[u, v, t] T)).heap.size ((w.alloc (.cells #[x, y, z] T)).alloc (.cells #[u, v, t] T)) w1) :
    Cel3 w1 w.heap.size x y z ∧ Cel3 w1 (w.heap.size + 1) u v t ∧ (∀ j, w1.frozen? ⟨w.heap.size + 1, j, none⟩ = false) ∧ Below w.heap.size w w1 := by
  have b := cel3_new (w.alloc (.cells #[x, y, z] T)) u v t T
  rw [World.size_alloc] at b
  refine ⟨((cel3_new w x y z T).lo (below_one _ _)).lo l, b.lo l, fun j => ?_, lo_on (below_pair _ _ _) l⟩
  rw [l.frozen (p := ⟨w.heap.size + 1, j, none⟩) (by simp)]
  exact World.frozen?_alloc_at _ _ _ _ (by simp)
theorem cel3_put (w : World) (g : Nat) {x y z : Value} (h : Cel3 w g x y z) (u v t : Value) : Cel3 (((w.setCell ⟨g, 0, none⟩ u).setCell ⟨g, 1, none⟩ v).setCell ⟨g, 2, none⟩ t) g u v t := by
  obtain ⟨h0, h1, h2, h3⟩ := h
  obtain ⟨q0, q1, q2, _⟩ := three_set w g 0 u v t h1 h2 h3
  rw [Nat.zero_add] at q0 q1 q2
  exact ⟨by simpa using h0, q0, q1, q2⟩
theorem three_up {w w1 : World} {g : Nat} (h : Below g w w1) (x y z : Value) : Below g w (((w1.setCell ⟨g + 1, 0, none⟩ x).setCell ⟨g + 1, 1, none⟩ y).setCell ⟨g + 1, 2, none⟩ z) :=
  ((h.setCell (p := ⟨g + 1, 0, none⟩) (by simp only; omega) _).setCell (p := ⟨g + 1, 1, none⟩) (by simp only; omega) _).setCell (p := ⟨g + 1, 2, none⟩) (by simp only; omega) _
end Go.Proofs.Ytpklccpkgefniaa
namespace Go.Proofs.Ytpklccpkgefniaa
open Go.RowKit
set_option maxRecDepth 100000 in
set_option maxHeartbeats 1600000 in
theorem specTurn_1t (a b : Int) (h : stgB ⟨1, a, b⟩ = true) (w : World) : Calls Try.prog 45 #[.agg #[.int .i64 1, .int .i64 a, .int .i64 b]] w fun e w' => e = .returned (.tuple #[.agg #[.int .i64 1, .int .i64 b, .int .i64 a], .bool true]) ∧ Below w.heap.size w w' := by
  have C := Lib.hid (fun w => l7Stage_is ⟨1, a, b⟩ true h w)
  clear h
  go_enter Try.func45, Try.ntmps45
  go_wp2_with fail
  refine (C.out _).mono ?_
  rintro e w1 ⟨rfl, l1⟩
  have MC := Lib.hid (tn_cells l1)
  obtain ⟨BX, BY, FZ, LL⟩ := MC.out
  have TS := Lib.hid (cel3_put w1 _ BY (.int .i64 1) (.int .i64 b) (.int .i64 a))
  have LW := Lib.hid LL
  obtain ⟨_, y0, y1, y2⟩ := BY
  obtain ⟨_, x0, x1, x2⟩ := BX
  have f0 := FZ 0
  have f1 := FZ 1
  have f2 := FZ 2
  clear MC FZ LL l1 C
  go_wp2
  obtain ⟨_, q0, q1, q2⟩ := TS.out
  exact bodyPost_ret (v := .tuple #[.agg #[.int .i64 1, .int .i64 b, .int .i64 a], .bool true]) (by simp [results, Try.results45, go_sem, q0, q1, q2]) rfl ⟨rfl, three_up LW.out _ _ _⟩
set_option maxRecDepth 100000 in
set_option maxHeartbeats 1600000 in
theorem specTurn_1f (a b : Int) (h : stgB ⟨1, a, b⟩ = false) (w : World) : Calls Try.prog 45 #[.agg #[.int .i64 1, .int .i64 a, .int .i64 b]] w fun e w' => e = .returned (.tuple #[.agg #[.int .i64 0, .int .i64 0, .int .i64 0], .bool false]) ∧ Below w.heap.size w w' := by
  have C := Lib.hid (fun w => l7Stage_is ⟨1, a, b⟩ false h w)
  clear h
  go_enter Try.func45, Try.ntmps45
  go_wp2_with fail
  refine (C.out _).mono ?_
  rintro e w1 ⟨rfl, l1⟩
  have MC := Lib.hid (tn_cells l1)
  obtain ⟨BX, BY, FZ, LL⟩ := MC.out
  have TS := Lib.hid (cel3_put w1 _ BY (.int .i64 0) (.int .i64 0) (.int .i64 0))
  have LW := Lib.hid LL
  obtain ⟨_, y0, y1, y2⟩ := BY
  obtain ⟨_, x0, x1, x2⟩ := BX
  have f0 := FZ 0
  have f1 := FZ 1
  have f2 := FZ 2
  clear MC FZ LL l1 C
  go_wp2
  obtain ⟨_, q0, q1, q2⟩ := TS.out
  exact bodyPost_ret (v := .tuple #[.agg #[.int .i64 0, .int .i64 0, .int .i64 0], .bool false]) (by simp [results, Try.results45, go_sem, q0, q1, q2]) rfl ⟨rfl, three_up LW.out _ _ _⟩
set_option maxRecDepth 100000 in
set_option maxHeartbeats 1600000 in
theorem implTurn_1t (a b : Int) (h : stgB ⟨1, a, b⟩ = true) (w : World) : Calls Try.prog 46 #[.agg #[.int .i64 1, .int .i64 a, .int .i64 b]] w fun e w' => e = .returned (.tuple #[.agg #[.int .i64 1, .int .i64 b, .int .i64 a], .bool true]) ∧ Below w.heap.size w w' := by
  have C := Lib.hid (fun w => isStage_is ⟨1, a, b⟩ true h w)
  clear h
  go_enter Try.func46, Try.ntmps46
  go_wp2_with fail
  refine (C.out _).mono ?_
  rintro e w1 ⟨rfl, l1⟩
  have MC := Lib.hid (tn_cells l1)
  obtain ⟨BX, BY, FZ, LL⟩ := MC.out
  have TS := Lib.hid (cel3_put w1 _ BY (.int .i64 1) (.int .i64 b) (.int .i64 a))
  have LW := Lib.hid LL
  obtain ⟨_, y0, y1, y2⟩ := BY
  obtain ⟨_, x0, x1, x2⟩ := BX
  have f0 := FZ 0
  have f1 := FZ 1
  have f2 := FZ 2
  clear MC FZ LL l1 C
  go_wp2
  obtain ⟨_, q0, q1, q2⟩ := TS.out
  exact bodyPost_ret (v := .tuple #[.agg #[.int .i64 1, .int .i64 b, .int .i64 a], .bool true]) (by simp [results, Try.results46, go_sem, q0, q1, q2]) rfl ⟨rfl, three_up LW.out _ _ _⟩
set_option maxRecDepth 100000 in
set_option maxHeartbeats 1600000 in
theorem implTurn_1f (a b : Int) (h : stgB ⟨1, a, b⟩ = false) (w : World) : Calls Try.prog 46 #[.agg #[.int .i64 1, .int .i64 a, .int .i64 b]] w fun e w' => e = .returned (.tuple #[.agg #[.int .i64 0, .int .i64 0, .int .i64 0], .bool false]) ∧ Below w.heap.size w w' := by
  have C := Lib.hid (fun w => isStage_is ⟨1, a, b⟩ false h w)
  clear h
  go_enter Try.func46, Try.ntmps46
  go_wp2_with fail
  refine (C.out _).mono ?_
  rintro e w1 ⟨rfl, l1⟩
  have MC := Lib.hid (tn_cells l1)
  obtain ⟨BX, BY, FZ, LL⟩ := MC.out
  have TS := Lib.hid (cel3_put w1 _ BY (.int .i64 0) (.int .i64 0) (.int .i64 0))
  have LW := Lib.hid LL
  obtain ⟨_, y0, y1, y2⟩ := BY
  obtain ⟨_, x0, x1, x2⟩ := BX
  have f0 := FZ 0
  have f1 := FZ 1
  have f2 := FZ 2
  clear MC FZ LL l1 C
  go_wp2
  obtain ⟨_, q0, q1, q2⟩ := TS.out
  exact bodyPost_ret (v := .tuple #[.agg #[.int .i64 0, .int .i64 0, .int .i64 0], .bool false]) (by simp [results, Try.results46, go_sem, q0, q1, q2]) rfl ⟨rfl, three_up LW.out _ _ _⟩
set_option maxRecDepth 100000 in
set_option maxHeartbeats 1600000 in
theorem specTurn_3t (a b : Int) (h : stgB ⟨3, a, b⟩ = true) (w : World) : Calls Try.prog 45 #[.agg #[.int .i64 3, .int .i64 a, .int .i64 b]] w fun e w' => e = .returned (.tuple #[.agg #[.int .i64 3, .int .i64 b, .int .i64 a], .bool true]) ∧ Below w.heap.size w w' := by
  have C := Lib.hid (fun w => l7Stage_is ⟨3, a, b⟩ true h w)
  clear h
  go_enter Try.func45, Try.ntmps45
  go_wp2_with fail
  refine (C.out _).mono ?_
  rintro e w1 ⟨rfl, l1⟩
  have MC := Lib.hid (tn_cells l1)
  obtain ⟨BX, BY, FZ, LL⟩ := MC.out
  have TS := Lib.hid (cel3_put w1 _ BY (.int .i64 3) (.int .i64 b) (.int .i64 a))
  have LW := Lib.hid LL
  obtain ⟨_, y0, y1, y2⟩ := BY
  obtain ⟨_, x0, x1, x2⟩ := BX
  have f0 := FZ 0
  have f1 := FZ 1
  have f2 := FZ 2
  clear MC FZ LL l1 C
  go_wp2
  obtain ⟨_, q0, q1, q2⟩ := TS.out
  exact bodyPost_ret (v := .tuple #[.agg #[.int .i64 3, .int .i64 b, .int .i64 a], .bool true]) (by simp [results, Try.results45, go_sem, q0, q1, q2]) rfl ⟨rfl, three_up LW.out _ _ _⟩
set_option maxRecDepth 100000 in
set_option maxHeartbeats 1600000 in
theorem specTurn_3f (a b : Int) (h : stgB ⟨3, a, b⟩ = false) (w : World) : Calls Try.prog 45 #[.agg #[.int .i64 3, .int .i64 a, .int .i64 b]] w fun e w' => e = .returned (.tuple #[.agg #[.int .i64 0, .int .i64 0, .int .i64 0], .bool false]) ∧ Below w.heap.size w w' := by
  have C := Lib.hid (fun w => l7Stage_is ⟨3, a, b⟩ false h w)
  clear h
  go_enter Try.func45, Try.ntmps45
  go_wp2_with fail
  refine (C.out _).mono ?_
  rintro e w1 ⟨rfl, l1⟩
  have MC := Lib.hid (tn_cells l1)
  obtain ⟨BX, BY, FZ, LL⟩ := MC.out
  have TS := Lib.hid (cel3_put w1 _ BY (.int .i64 0) (.int .i64 0) (.int .i64 0))
  have LW := Lib.hid LL
  obtain ⟨_, y0, y1, y2⟩ := BY
  obtain ⟨_, x0, x1, x2⟩ := BX
  have f0 := FZ 0
  have f1 := FZ 1
  have f2 := FZ 2
  clear MC FZ LL l1 C
  go_wp2
  obtain ⟨_, q0, q1, q2⟩ := TS.out
  exact bodyPost_ret (v := .tuple #[.agg #[.int .i64 0, .int .i64 0, .int .i64 0], .bool false]) (by simp [results, Try.results45, go_sem, q0, q1, q2]) rfl ⟨rfl, three_up LW.out _ _ _⟩
set_option maxRecDepth 100000 in
set_option maxHeartbeats 1600000 in
theorem implTurn_3t (a b : Int) (h : stgB ⟨3, a, b⟩ = true) (w : World) : Calls Try.prog 46 #[.agg #[.int .i64 3, .int .i64 a, .int .i64 b]] w fun e w' => e = .returned (.tuple #[.agg #[.int .i64 3, .int .i64 b, .int .i64 a], .bool true]) ∧ Below w.heap.size w w' := by
  have C := Lib.hid (fun w => isStage_is ⟨3, a, b⟩ true h w)
  clear h
  go_enter Try.func46, Try.ntmps46
  go_wp2_with fail
  refine (C.out _).mono ?_
  rintro e w1 ⟨rfl, l1⟩
  have MC := Lib.hid (tn_cells l1)
  obtain ⟨BX, BY, FZ, LL⟩ := MC.out
  have TS := Lib.hid (cel3_put w1 _ BY (.int .i64 3) (.int .i64 b) (.int .i64 a))
  have LW := Lib.hid LL
  obtain ⟨_, y0, y1, y2⟩ := BY
  obtain ⟨_, x0, x1, x2⟩ := BX
  have f0 := FZ 0
  have f1 := FZ 1
  have f2 := FZ 2
  clear MC FZ LL l1 C
  go_wp2
  obtain ⟨_, q0, q1, q2⟩ := TS.out
  exact bodyPost_ret (v := .tuple #[.agg #[.int .i64 3, .int .i64 b, .int .i64 a], .bool true]) (by simp [results, Try.results46, go_sem, q0, q1, q2]) rfl ⟨rfl, three_up LW.out _ _ _⟩
set_option maxRecDepth 100000 in
set_option maxHeartbeats 1600000 in
theorem implTurn_3f (a b : Int) (h : stgB ⟨3, a, b⟩ = false) (w : World) : Calls Try.prog 46 #[.agg #[.int .i64 3, .int .i64 a, .int .i64 b]] w fun e w' => e = .returned (.tuple #[.agg #[.int .i64 0, .int .i64 0, .int .i64 0], .bool false]) ∧ Below w.heap.size w w' := by
  have C := Lib.hid (fun w => isStage_is ⟨3, a, b⟩ false h w)
  clear h
  go_enter Try.func46, Try.ntmps46
  go_wp2_with fail
  refine (C.out _).mono ?_
  rintro e w1 ⟨rfl, l1⟩
  have MC := Lib.hid (tn_cells l1)
  obtain ⟨BX, BY, FZ, LL⟩ := MC.out
  have TS := Lib.hid (cel3_put w1 _ BY (.int .i64 0) (.int .i64 0) (.int .i64 0))
  have LW := Lib.hid LL
  obtain ⟨_, y0, y1, y2⟩ := BY
  obtain ⟨_, x0, x1, x2⟩ := BX
  have f0 := FZ 0
  have f1 := FZ 1
  have f2 := FZ 2
  clear MC FZ LL l1 C
  go_wp2
  obtain ⟨_, q0, q1, q2⟩ := TS.out
  exact bodyPost_ret (v := .tuple #[.agg #[.int .i64 0, .int .i64 0, .int .i64 0], .bool false]) (by simp [results, Try.results46, go_sem, q0, q1, q2]) rfl ⟨rfl, three_up LW.out _ _ _⟩
set_option maxRecDepth 100000 in
set_option maxHeartbeats 1600000 in
theorem specTurn_kf (k a b : Int) (h : stgB ⟨k, a, b⟩ = false) (w : World) : Calls Try.prog 45 #[.agg #[.int .i64 k, .int .i64 a, .int .i64 b]] w fun e w' => e = .returned (.tuple #[.agg #[.int .i64 0, .int .i64 0, .int .i64 0], .bool false]) ∧ Below w.heap.size w w' := by
  have C := Lib.hid (fun w => l7Stage_is ⟨k, a, b⟩ false h w)
  clear h
  go_enter Try.func45, Try.ntmps45
  go_wp2_with fail
  refine (C.out _).mono ?_
  rintro e w1 ⟨rfl, l1⟩
  have MC := Lib.hid (tn_cells l1)
  obtain ⟨BX, BY, FZ, LL⟩ := MC.out
  have TS := Lib.hid (cel3_put w1 _ BY (.int .i64 0) (.int .i64 0) (.int .i64 0))
  have LW := Lib.hid LL
  obtain ⟨_, y0, y1, y2⟩ := BY
  obtain ⟨_, x0, x1, x2⟩ := BX
  have f0 := FZ 0
  have f1 := FZ 1
  have f2 := FZ 2
  clear MC FZ LL l1 C
  go_wp2
  obtain ⟨_, q0, q1, q2⟩ := TS.out
  exact bodyPost_ret (v := .tuple #[.agg #[.int .i64 0, .int .i64 0, .int .i64 0], .bool false]) (by simp [results, Try.results45, go_sem, q0, q1, q2]) rfl ⟨rfl, three_up LW.out _ _ _⟩
set_option maxRecDepth 100000 in
set_option maxHeartbeats 1600000 in
theorem specTurn_kt (k a b : Int) (hk : k ≠ 1 ∧ k ≠ 3) (h : stgB ⟨k, a, b⟩ = true) (w : World) : Calls Try.prog 45 #[.agg #[.int .i64 k, .int .i64 a, .int .i64 b]] w fun e w' => e = .returned (.tuple #[.agg #[.int .i64 0, .int .i64 0, .int .i64 0], .bool false]) ∧ Below w.heap.size w w' := by
  have k1 : (k != 1) = true := by simpa using hk.1
  have k3 : (k != 3) = true := by simpa using hk.2
  clear hk
  have C := Lib.hid (fun w => l7Stage_is ⟨k, a, b⟩ true h w)
  clear h
  go_enter Try.func45, Try.ntmps45
  go_wp2_with fail
  refine (C.out _).mono ?_
  rintro e w1 ⟨rfl, l1⟩
  have MC := Lib.hid (tn_cells l1)
  obtain ⟨BX, BY, FZ, LL⟩ := MC.out
  have TS := Lib.hid (cel3_put w1 _ BY (.int .i64 0) (.int .i64 0) (.int .i64 0))
  have LW := Lib.hid LL
  obtain ⟨_, y0, y1, y2⟩ := BY
  obtain ⟨_, x0, x1, x2⟩ := BX
  have f0 := FZ 0
  have f1 := FZ 1
  have f2 := FZ 2
  clear MC FZ LL l1 C
  go_wp2
  obtain ⟨_, q0, q1, q2⟩ := TS.out
  exact bodyPost_ret (v := .tuple #[.agg #[.int .i64 0, .int .i64 0, .int .i64 0], .bool false]) (by simp [results, Try.results45, go_sem, q0, q1, q2]) rfl ⟨rfl, three_up LW.out _ _ _⟩
set_option maxRecDepth 100000 in
set_option maxHeartbeats 1600000 in
theorem implTurn_k (k a b : Int) (hk : k ≠ 1 ∧ k ≠ 3) (w : World) : Calls Try.prog 46 #[.agg #[.int .i64 k, .int .i64 a, .int .i64 b]] w fun e w' => e = .returned (.tuple #[.agg #[.int .i64 0, .int .i64 0, .int .i64 0], .bool false]) ∧ Below w.heap.size w w' := by
  have k1 : (k != 1) = true := by simpa using hk.1
  have k3 : (k != 3) = true := by simpa using hk.2
  clear hk
  go_enter Try.func46, Try.ntmps46
  go_wp2
  exact bodyPost_ret (v := .tuple #[.agg #[.int .i64 0, .int .i64 0, .int .i64 0], .bool false]) (by simp [results, Try.results46, go_sem]) rfl ⟨rfl, below_pair _ _ _⟩
theorem specTurn_any (p : StageV) (w : World) : Calls Try.prog 45 #[.agg #[.int .i64 p.k, .int .i64 p.a, .int .i64 p.b]] w fun e w' => e = .returned (.tuple #[.agg #[.int .i64 (tnF p).k, .int .i64 (tnF p).a, .int .i64 (tnF p).b], .bool (tnB p)]) ∧ Below w.heap.size w w' := by
  obtain ⟨k, a, b⟩ := p
  unfold tnF
  by_cases h1 : k = 1
  · subst h1
    cases hb : stgB ⟨1, a, b⟩ with
    | false =>
      have ht : tnB ⟨1, a, b⟩ = false := by unfold tnB; rw [hb]; rfl
      rw [ht]
      exact specTurn_1f a b hb w
    | true =>
      have ht : tnB ⟨1, a, b⟩ = true := by unfold tnB; rw [hb]; rfl
      rw [ht]
      exact specTurn_1t a b hb w
  · by_cases h3 : k = 3
    · subst h3
      cases hb : stgB ⟨3, a, b⟩ with
      | false =>
        have ht : tnB ⟨3, a, b⟩ = false := by unfold tnB; rw [hb]; rfl
        rw [ht]
        exact specTurn_3f a b hb w
      | true =>
        have ht : tnB ⟨3, a, b⟩ = true := by unfold tnB; rw [hb]; rfl
        rw [ht]
        exact specTurn_3t a b hb w
    have ht : tnB ⟨k, a, b⟩ = false := by unfold tnB; simp only; rw [show decide (k = 1 ∨ k = 3) = false by simp; omega, Bool.and_false]
    rw [ht]
    cases hb : stgB ⟨k, a, b⟩ with
    | false => exact specTurn_kf k a b hb w
    | true => exact specTurn_kt k a b (by omega) hb w
theorem implTurn_any (p : StageV) (w : World) : Calls Try.prog 46 #[.agg #[.int .i64 p.k, .int .i64 p.a, .int .i64 p.b]] w fun e w' => e = .returned (.tuple #[.agg #[.int .i64 (tnF p).k, .int .i64 (tnF p).a, .int .i64 (tnF p).b], .bool (tnB p)]) ∧ Below w.heap.size w w' := by
  obtain ⟨k, a, b⟩ := p
  unfold tnF
  by_cases h1 : k = 1
  · subst h1
    cases hb : stgB ⟨1, a, b⟩ with
    | false =>
      have ht : tnB ⟨1, a, b⟩ = false := by unfold tnB; rw [hb]; rfl
      rw [ht]
      exact implTurn_1f a b hb w
    | true =>
      have ht : tnB ⟨1, a, b⟩ = true := by unfold tnB; rw [hb]; rfl
      rw [ht]
      exact implTurn_1t a b hb w
  · by_cases h3 : k = 3
    · subst h3
      cases hb : stgB ⟨3, a, b⟩ with
      | false =>
        have ht : tnB ⟨3, a, b⟩ = false := by unfold tnB; rw [hb]; rfl
        rw [ht]
        exact implTurn_3f a b hb w
      | true =>
        have ht : tnB ⟨3, a, b⟩ = true := by unfold tnB; rw [hb]; rfl
        rw [ht]
        exact implTurn_3t a b hb w
    have ht : tnB ⟨k, a, b⟩ = false := by unfold tnB; simp only; rw [show decide (k = 1 ∨ k = 3) = false by simp; omega, Bool.and_false]
    rw [ht]
    exact implTurn_k k a b (by omega) w
/-- The row of a lever. -/
def lvB (p : StageV) (n m : Int) : Bool := stgB p && decide (p.k = 1) && (decide (1 ≤ n) && decide (n ≤ 99)) && (decide (1 ≤ m) && decide (m ≤ 99))
def lvF (p : StageV) (n m : Int) : List (Int × Int) := if lvB p n m = true then [(30 - p.b, n), (30 + p.a, m)] else []
theorem lvF_len (p : StageV) (n m : Int) : (lvF p n m).length ≤ 2000000 := by unfold lvF; split <;> simp
theorem lv_mine (w : World) (B : Nat) (hB : B ≤ w.heap.size) (x y z t : Int) (T : TypeId) : MineL (w.alloc (.cells #[.int .i64 x, .int .i64 y, .int .i64 z, .int .i64 t] T)) B (w.alloc (.cells #[.int .i64 x, .int .i64 y, .int .i64 z, .int .i64 t] T)).heap.size (.slice (some ⟨w.heap.size, 0, none⟩) 2 2) [(x, y), (z, t)] := by
  refine .inr ⟨w.heap.size, 2, rfl, hB, by simp, Nat.le_refl _, fun j hj => ?_, fun j => World.frozen?_alloc_at _ _ _ _ rfl⟩
  have : j = 0 ∨ j = 1 := by simp at hj; omega
  rcases this with rfl | rfl
  · exact ⟨by rw [World.cell?_alloc_at _ _ _ _ rfl]; rfl, by rw [World.cell?_alloc_at _ _ _ _ rfl]; rfl⟩
  · exact ⟨by rw [World.cell?_alloc_at _ _ _ _ rfl]; rfl, by rw [World.cell?_alloc_at _ _ _ _ rfl]; rfl⟩
theorem lv_small (a b : Int) (h : stgB ⟨1, a, b⟩ = true) : (1 ≤ a ∧ a ≤ 24) ∧ 1 ≤ b ∧ b ≤ 24 := by
  unfold stgB at h
  rw [if_pos (.inl rfl)] at h
  exact (twoB_iff a b).1 h
set_option maxRecDepth 100000 in
set_option maxHeartbeats 1600000 in
theorem specLever_f (a b n m : Int) (h : stgB ⟨1, a, b⟩ = false) (w : World) : Calls Try.prog 40 #[.agg #[.int .i64 1, .int .i64 a, .int .i64 b], .int .i64 n, .int .i64 m] w fun e w' => ∃ u, e = .returned (.tuple #[u, .bool false]) ∧ MineL w' w.heap.size w'.heap.size u [] ∧ Below w.heap.size w w' := by
  have C := Lib.hid (fun w => l7Stage_is ⟨1, a, b⟩ _ h w)
  clear h
  go_enter Try.func40, Try.ntmps40
  go_wp2_with fail
  refine (C.out _).mono ?_
  rintro e w1 ⟨rfl, l1⟩
  have BX := Lib.hid ((cel3_new w _ _ _ _).lo l1)
  have LW := Lib.hid (lo_on (below_one _ _) l1)
  obtain ⟨_, x0, x1, x2⟩ := BX.out
  clear C l1
  go_wp2
  go_ret2
  exact ⟨_, rfl, .inl ⟨rfl, _, _, rfl⟩, by first | exact LW.out | exact lo_on (LW.out) (below_one _ _)⟩
set_option maxRecDepth 100000 in
set_option maxHeartbeats 1600000 in
theorem specLever_n (a b n m : Int) (h : stgB ⟨1, a, b⟩ = true) (hn : (decide (1 ≤ n) && decide (n ≤ 99)) = false) (w : World) : Calls Try.prog 40 #[.agg #[.int .i64 1, .int .i64 a, .int .i64 b], .int .i64 n, .int .i64 m] w fun e w' => ∃ u, e = .returned (.tuple #[u, .bool false]) ∧ MineL w' w.heap.size w'.heap.size u [] ∧ Below w.heap.size w w' := by
  have C := Lib.hid (fun w => l7Stage_is ⟨1, a, b⟩ _ h w)
  have I1 := Lib.hid (fun w => l1In_is n 1 99 _ hn w)
  clear h hn
  go_enter Try.func40, Try.ntmps40
  go_wp2_with fail
  refine (C.out _).mono ?_
  rintro e w1 ⟨rfl, l1⟩
  have BX := Lib.hid ((cel3_new w _ _ _ _).lo l1)
  have LW := Lib.hid (lo_on (below_one _ _) l1)
  obtain ⟨_, x0, x1, x2⟩ := BX.out
  clear C l1
  go_wp2_with fail
  refine (I1.out _).mono ?_
  rintro e w' ⟨rfl, rfl⟩
  go_wp2
  go_ret2
  exact ⟨_, rfl, .inl ⟨rfl, _, _, rfl⟩, by first | exact LW.out | exact lo_on (LW.out) (below_one _ _)⟩
set_option maxRecDepth 100000 in
set_option maxHeartbeats 1600000 in
theorem specLever_m (a b n m : Int) (h : stgB ⟨1, a, b⟩ = true) (hn : (decide (1 ≤ n) && decide (n ≤ 99)) = true) (hm : (decide (1 ≤ m) && decide (m ≤ 99)) = false) (w : World) : Calls Try.prog 40 #[.agg #[.int .i64 1, .int .i64 a, .int .i64 b], .int .i64 n, .int .i64 m] w fun e w' => ∃ u, e = .returned (.tuple #[u, .bool false]) ∧ MineL w' w.heap.size w'.heap.size u [] ∧ Below w.heap.size w w' := by
  have C := Lib.hid (fun w => l7Stage_is ⟨1, a, b⟩ _ h w)
  have I1 := Lib.hid (fun w => l1In_is n 1 99 _ hn w)
  have I2 := Lib.hid (fun w => l1In_is m 1 99 _ hm w)
  clear h hn hm
  go_enter Try.func40, Try.ntmps40
  go_wp2_with fail
  refine (C.out _).mono ?_
  rintro e w1 ⟨rfl, l1⟩
  have BX := Lib.hid ((cel3_new w _ _ _ _).lo l1)
  have LW := Lib.hid (lo_on (below_one _ _) l1)
  obtain ⟨_, x0, x1, x2⟩ := BX.out
  clear C l1
  go_wp2_with fail
  refine (I1.out _).mono ?_
  rintro e w' ⟨rfl, rfl⟩
  go_wp2_with fail
  refine (I2.out _).mono ?_
  rintro e w' ⟨rfl, rfl⟩
  go_wp2
  go_ret2
  exact ⟨_, rfl, .inl ⟨rfl, _, _, rfl⟩, by first | exact LW.out | exact lo_on (LW.out) (below_one _ _)⟩
set_option maxRecDepth 100000 in
set_option maxHeartbeats 1600000 in
theorem specLever_y (a b n m : Int) (h : stgB ⟨1, a, b⟩ = true) (hn : (decide (1 ≤ n) && decide (n ≤ 99)) = true) (hm : (decide (1 ≤ m) && decide (m ≤ 99)) = true) (w : World) : Calls Try.prog 40 #[.agg #[.int .i64 1, .int .i64 a, .int .i64 b], .int .i64 n, .int .i64 m] w fun e w' => ∃ u, e = .returned (.tuple #[u, .bool true]) ∧ MineL w' w.heap.size w'.heap.size u [(30 - b, n), (30 + a, m)] ∧ Below w.heap.size w w' := by
  have C := Lib.hid (fun w => l7Stage_is ⟨1, a, b⟩ _ h w)
  have I1 := Lib.hid (fun w => l1In_is n 1 99 _ hn w)
  have I2 := Lib.hid (fun w => l1In_is m 1 99 _ hm w)
  have hb := lv_small a b h
  obtain ⟨⟨a0, a1⟩, b0, b1⟩ := hb
  clear h hn hm
  go_enter Try.func40, Try.ntmps40
  go_wp2_with fail
  refine (C.out _).mono ?_
  rintro e w1 ⟨rfl, l1⟩
  have BX := Lib.hid ((cel3_new w _ _ _ _).lo l1)
  have LW := Lib.hid (lo_on (below_one _ _) l1)
  obtain ⟨_, x0, x1, x2⟩ := BX.out
  clear C l1
  go_wp2_with fail
  refine (I1.out _).mono ?_
  rintro e w' ⟨rfl, rfl⟩
  go_wp2_with fail
  refine (I2.out _).mono ?_
  rintro e w' ⟨rfl, rfl⟩
  go_wp2
  go_ret2
  exact ⟨_, rfl, lv_mine _ _ LW.out.size _ _ _ _ _, LW.out.alloc LW.out.size _⟩
set_option maxRecDepth 100000 in
set_option maxHeartbeats 1600000 in
theorem implLever_f (a b n m : Int) (h : stgB ⟨1, a, b⟩ = false) (w : World) : Calls Try.prog 41 #[.agg #[.int .i64 1, .int .i64 a, .int .i64 b], .int .i64 n, .int .i64 m] w fun e w' => ∃ u, e = .returned (.tuple #[u, .bool false]) ∧ MineL w' w.heap.size w'.heap.size u [] ∧ Below w.heap.size w w' := by
  have C := Lib.hid (fun w => isStage_is ⟨1, a, b⟩ _ h w)
  clear h
  go_enter Try.func41, Try.ntmps41
  go_wp2_with fail
  refine (C.out _).mono ?_
  rintro e w1 ⟨rfl, l1⟩
  have BX := Lib.hid ((cel3_new w _ _ _ _).lo l1)
  have LW := Lib.hid (lo_on (below_one _ _) l1)
  obtain ⟨_, x0, x1, x2⟩ := BX.out
  clear C l1
  go_wp2
  go_ret2
  exact ⟨_, rfl, .inl ⟨rfl, _, _, rfl⟩, LW.out⟩
set_option maxRecDepth 100000 in
set_option maxHeartbeats 1600000 in
theorem implLever_n (a b n m : Int) (h : stgB ⟨1, a, b⟩ = true) (hn : (decide (1 ≤ n) && decide (n ≤ 99)) = false) (w : World) : Calls Try.prog 41 #[.agg #[.int .i64 1, .int .i64 a, .int .i64 b], .int .i64 n, .int .i64 m] w fun e w' => ∃ u, e = .returned (.tuple #[u, .bool false]) ∧ MineL w' w.heap.size w'.heap.size u [] ∧ Below w.heap.size w w' := by
  have C := Lib.hid (fun w => isStage_is ⟨1, a, b⟩ _ h w)
  have I1 := Lib.hid (fun w => isWeight_is n _ hn w)
  clear h hn
  go_enter Try.func41, Try.ntmps41
  go_wp2_with fail
  refine (C.out _).mono ?_
  rintro e w1 ⟨rfl, l1⟩
  have BX := Lib.hid ((cel3_new w _ _ _ _).lo l1)
  have LW := Lib.hid (lo_on (below_one _ _) l1)
  obtain ⟨_, x0, x1, x2⟩ := BX.out
  clear C l1
  go_wp2_with fail
  refine (I1.out _).mono ?_
  rintro e w' ⟨rfl, rfl⟩
  go_wp2
  go_ret2
  exact ⟨_, rfl, .inl ⟨rfl, _, _, rfl⟩, LW.out⟩
set_option maxRecDepth 100000 in
set_option maxHeartbeats 1600000 in
theorem implLever_m (a b n m : Int) (h : stgB ⟨1, a, b⟩ = true) (hn : (decide (1 ≤ n) && decide (n ≤ 99)) = true) (hm : (decide (1 ≤ m) && decide (m ≤ 99)) = false) (w : World) : Calls Try.prog 41 #[.agg #[.int .i64 1, .int .i64 a, .int .i64 b], .int .i64 n, .int .i64 m] w fun e w' => ∃ u, e = .returned (.tuple #[u, .bool false]) ∧ MineL w' w.heap.size w'.heap.size u [] ∧ Below w.heap.size w w' := by
  have C := Lib.hid (fun w => isStage_is ⟨1, a, b⟩ _ h w)
  have I1 := Lib.hid (fun w => isWeight_is n _ hn w)
  have I2 := Lib.hid (fun w => isWeight_is m _ hm w)
  clear h hn hm
  go_enter Try.func41, Try.ntmps41
  go_wp2_with fail
  refine (C.out _).mono ?_
  rintro e w1 ⟨rfl, l1⟩
  have BX := Lib.hid ((cel3_new w _ _ _ _).lo l1)
  have LW := Lib.hid (lo_on (below_one _ _) l1)
  obtain ⟨_, x0, x1, x2⟩ := BX.out
  clear C l1
  go_wp2_with fail
  refine (I1.out _).mono ?_
  rintro e w' ⟨rfl, rfl⟩
  go_wp2_with fail
  refine (I2.out _).mono ?_
  rintro e w' ⟨rfl, rfl⟩
  go_wp2
  go_ret2
  exact ⟨_, rfl, .inl ⟨rfl, _, _, rfl⟩, LW.out⟩
set_option maxRecDepth 100000 in
set_option maxHeartbeats 1600000 in
theorem implLever_y (a b n m : Int) (h : stgB ⟨1, a, b⟩ = true) (hn : (decide (1 ≤ n) && decide (n ≤ 99)) = true) (hm : (decide (1 ≤ m) && decide (m ≤ 99)) = true) (w : World) : Calls Try.prog 41 #[.agg #[.int .i64 1, .int .i64 a, .int .i64 b], .int .i64 n, .int .i64 m] w fun e w' => ∃ u, e = .returned (.tuple #[u, .bool true]) ∧ MineL w' w.heap.size w'.heap.size u [(30 - b, n), (30 + a, m)] ∧ Below w.heap.size w w' := by
  have C := Lib.hid (fun w => isStage_is ⟨1, a, b⟩ _ h w)
  have I1 := Lib.hid (fun w => isWeight_is n _ hn w)
  have I2 := Lib.hid (fun w => isWeight_is m _ hm w)
  have hb := lv_small a b h
  obtain ⟨⟨a0, a1⟩, b0, b1⟩ := hb
  clear h hn hm
  go_enter Try.func41, Try.ntmps41
  go_wp2_with fail
  refine (C.out _).mono ?_
  rintro e w1 ⟨rfl, l1⟩
  have BX := Lib.hid ((cel3_new w _ _ _ _).lo l1)
  have LW := Lib.hid (lo_on (below_one _ _) l1)
  obtain ⟨_, x0, x1, x2⟩ := BX.out
  clear C l1
  go_wp2_with fail
  refine (I1.out _).mono ?_
  rintro e w' ⟨rfl, rfl⟩
  go_wp2_with fail
  refine (I2.out _).mono ?_
  rintro e w' ⟨rfl, rfl⟩
  go_wp2
  go_ret2
  exact ⟨_, rfl, lv_mine _ _ LW.out.size _ _ _ _ _, LW.out.alloc LW.out.size _⟩
set_option maxRecDepth 100000 in
set_option maxHeartbeats 1600000 in
theorem specLever_kf (k a b n m : Int) (h : stgB ⟨k, a, b⟩ = false) (w : World) : Calls Try.prog 40 #[.agg #[.int .i64 k, .int .i64 a, .int .i64 b], .int .i64 n, .int .i64 m] w fun e w' => ∃ u, e = .returned (.tuple #[u, .bool false]) ∧ MineL w' w.heap.size w'.heap.size u [] ∧ Below w.heap.size w w' := by
  have C := Lib.hid (fun w => l7Stage_is ⟨k, a, b⟩ _ h w)
  clear h
  go_enter Try.func40, Try.ntmps40
  go_wp2_with fail
  refine (C.out _).mono ?_
  rintro e w1 ⟨rfl, l1⟩
  have BX := Lib.hid ((cel3_new w _ _ _ _).lo l1)
  have LW := Lib.hid (lo_on (below_one _ _) l1)
  obtain ⟨_, x0, x1, x2⟩ := BX.out
  clear C l1
  go_wp2
  go_ret2
  exact ⟨_, rfl, .inl ⟨rfl, _, _, rfl⟩, by first | exact LW.out | exact lo_on (LW.out) (below_one _ _)⟩
set_option maxRecDepth 100000 in
set_option maxHeartbeats 1600000 in
theorem specLever_kt (k a b n m : Int) (hk : k ≠ 1) (h : stgB ⟨k, a, b⟩ = true) (w : World) : Calls Try.prog 40 #[.agg #[.int .i64 k, .int .i64 a, .int .i64 b], .int .i64 n, .int .i64 m] w fun e w' => ∃ u, e = .returned (.tuple #[u, .bool false]) ∧ MineL w' w.heap.size w'.heap.size u [] ∧ Below w.heap.size w w' := by
  have k1 : (k != 1) = true := by simpa using hk
  clear hk
  have C := Lib.hid (fun w => l7Stage_is ⟨k, a, b⟩ _ h w)
  clear h
  go_enter Try.func40, Try.ntmps40
  go_wp2_with fail
  refine (C.out _).mono ?_
  rintro e w1 ⟨rfl, l1⟩
  have BX := Lib.hid ((cel3_new w _ _ _ _).lo l1)
  have LW := Lib.hid (lo_on (below_one _ _) l1)
  obtain ⟨_, x0, x1, x2⟩ := BX.out
  clear C l1
  go_wp2
  go_ret2
  exact ⟨_, rfl, .inl ⟨rfl, _, _, rfl⟩, by first | exact LW.out | exact lo_on (LW.out) (below_one _ _)⟩
set_option maxRecDepth 100000 in
set_option maxHeartbeats 1600000 in
theorem implLever_k (k a b n m : Int) (hk : k ≠ 1) (w : World) : Calls Try.prog 41 #[.agg #[.int .i64 k, .int .i64 a, .int .i64 b], .int .i64 n, .int .i64 m] w fun e w' => ∃ u, e = .returned (.tuple #[u, .bool false]) ∧ MineL w' w.heap.size w'.heap.size u [] ∧ Below w.heap.size w w' := by
  have k1 : (k != 1) = true := by simpa using hk
  clear hk
  go_enter Try.func41, Try.ntmps41
  go_wp2
  go_ret2
  exact ⟨_, rfl, .inl ⟨rfl, _, _, rfl⟩, below_one _ _⟩
theorem specLever_any (p : StageV) (n m : Int) (w : World) : Calls Try.prog 40 #[.agg #[.int .i64 p.k, .int .i64 p.a, .int .i64 p.b], .int .i64 n, .int .i64 m] w fun e w' => ∃ u, e = .returned (.tuple #[u, .bool (lvB p n m)]) ∧ MineL w' w.heap.size w'.heap.size u (lvF p n m) ∧ Below w.heap.size w w' := by
  obtain ⟨k, a, b⟩ := p
  unfold lvF
  by_cases h1 : k = 1
  · subst h1
    cases hb : stgB ⟨1, a, b⟩ with
    | false =>
      have ht : lvB ⟨1, a, b⟩ n m = false := by unfold lvB; rw [hb]; rfl
      rw [ht]
      exact specLever_f a b n m hb w
    | true =>
      cases hn : (decide (1 ≤ n) && decide (n ≤ 99)) with
      | false =>
        have ht : lvB ⟨1, a, b⟩ n m = false := by unfold lvB; rw [hb, hn]; rfl
        rw [ht]
        exact specLever_n a b n m hb hn w
      | true =>
        cases hm : (decide (1 ≤ m) && decide (m ≤ 99)) with
        | false =>
          have ht : lvB ⟨1, a, b⟩ n m = false := by unfold lvB; rw [hb, hn, hm]; rfl
          rw [ht]
          exact specLever_m a b n m hb hn hm w
        | true =>
          have ht : lvB ⟨1, a, b⟩ n m = true := by unfold lvB; rw [hb, hn, hm]; rfl
          rw [ht]
          exact specLever_y a b n m hb hn hm w
  · have ht : lvB ⟨k, a, b⟩ n m = false := by unfold lvB; simp only; rw [show decide (k = 1) = false by simpa using h1, Bool.and_false]; rfl
    rw [ht]
    cases hb : stgB ⟨k, a, b⟩ with
    | false => exact specLever_kf k a b n m hb w
    | true => exact specLever_kt k a b n m h1 hb w
theorem implLever_any (p : StageV) (n m : Int) (w : World) : Calls Try.prog 41 #[.agg #[.int .i64 p.k, .int .i64 p.a, .int .i64 p.b], .int .i64 n, .int .i64 m] w fun e w' => ∃ u, e = .returned (.tuple #[u, .bool (lvB p n m)]) ∧ MineL w' w.heap.size w'.heap.size u (lvF p n m) ∧ Below w.heap.size w w' := by
  obtain ⟨k, a, b⟩ := p
  unfold lvF
  by_cases h1 : k = 1
  · subst h1
    cases hb : stgB ⟨1, a, b⟩ with
    | false =>
      have ht : lvB ⟨1, a, b⟩ n m = false := by unfold lvB; rw [hb]; rfl
      rw [ht]
      exact implLever_f a b n m hb w
    | true =>
      cases hn : (decide (1 ≤ n) && decide (n ≤ 99)) with
      | false =>
        have ht : lvB ⟨1, a, b⟩ n m = false := by unfold lvB; rw [hb, hn]; rfl
        rw [ht]
        exact implLever_n a b n m hb hn w
      | true =>
        cases hm : (decide (1 ≤ m) && decide (m ≤ 99)) with
        | false =>
          have ht : lvB ⟨1, a, b⟩ n m = false := by unfold lvB; rw [hb, hn, hm]; rfl
          rw [ht]
          exact implLever_m a b n m hb hn hm w
        | true =>
          have ht : lvB ⟨1, a, b⟩ n m = true := by unfold lvB; rw [hb, hn, hm]; rfl
          rw [ht]
          exact implLever_y a b n m hb hn hm w
  · have ht : lvB ⟨k, a, b⟩ n m = false := by unfold lvB; simp only; rw [show decide (k = 1) = false by simpa using h1, Bool.and_false]; rfl
    rw [ht]
    exact implLever_k k a b n m h1 w
end Go.Proofs.Ytpklccpkgefniaa
