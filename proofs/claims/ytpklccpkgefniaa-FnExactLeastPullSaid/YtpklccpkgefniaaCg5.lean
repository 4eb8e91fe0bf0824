/- The contracts of the program's LeastPull and MostLoad, and of both sides' TurnStage and LeverRow. -/
import Derived.Test.YtpklccpkgefniaaCg4
import Derived.Test.YtpklccpkgefniaaLoadOwn
namespace Go.Proofs.Ytpklccpkgefniaa
open Go.RowKit
theorem cut_size (a b : Int) (ha : 0 ≤ a) (hb : 0 < b) : (0 ≤ cutA a b ∧ cutA a b ≤ a) ∧ 1 ≤ cutB a b ∧ cutB a b ≤ b := by
  have h0 := (cut_sign a b hb).2 ha
  have h1 := tdiv_abs a (gcF a b)
  have h2 := cut_pos a b hb
  have h3 := tdiv_abs b (gcF a b)
  unfold cutA cutB at *
  omega
set_option maxRecDepth 100000 in
set_option maxHeartbeats 1600000 in
theorem implLeastPull_any (v : Value) (xs : List StageV) (n : Int) (w : World) (hr : StgRow w v xs) (hn : xs.length ≤ 2000000) :
    Calls Try.prog 35 #[v, .int .i64 n] w fun e w' => e = .returned (.tuple #[.int .i64 (leastF xs n), .bool (askB xs n)]) ∧ Below w.heap.size w w' := by
  have C := Lib.hid (implPullFor_any v xs n w hr hn)
  unfold leastF
  cases hb : askB xs n with
  | false =>
    rw [hb] at C
    unfold pullF at C
    rw [hb] at C
    simp only [zz, Bool.false_eq_true, if_false] at C ⊢
    clear hb hr hn
    go_enter Try.func35, Try.ntmps35
    go_wp2_with fail
    refine C.out.mono ?_
    rintro e w1 ⟨rfl, l⟩
    go_wp2
    go_ret2
    exact ⟨rfl, lo_on l (below_one _ _)⟩
  | true =>
    rw [hb] at C
    unfold pullF at C
    rw [hb] at C
    simp only [zz, if_true] at C ⊢
    have hx := (askB_iff xs n).1 hb
    have BD := ch_bound hx.1.1 hx.1.2
    obtain ⟨_, n0, n1⟩ := hx
    clear hb hr hn
    generalize chF xs = g at *
    obtain ⟨g1, g2⟩ := g
    unfold divF at C
    simp only at C BD ⊢
    have MB := muln_bound n g2 n0 n1 (by omega) (by omega)
    have CS := cut_size (n * g2) g1 MB.1 (by omega)
    have UP := up_cut (n * g2) g1 MB.1 (by omega)
    generalize cutA (n * g2) g1 = x at *
    generalize cutB (n * g2) g1 = y at *
    rw [← UP]
    obtain ⟨⟨c0, c1⟩, c2, c3⟩ := CS
    have yz : (y : Int) ≠ 0 := by omega
    have a2 : -9223372036854775808 ≤ x + y := by omega
    have a3 : x + y ≤ 9223372036854775807 := by omega
    have a4 : -9223372036854775808 ≤ x + y - 1 := by omega
    have a5 : x + y - 1 ≤ 9223372036854775807 := by omega
    have TD := tdiv_abs (x + y - 1) y
    obtain ⟨q, hq⟩ : ∃ q, Int.tdiv (x + y - 1) y = q := ⟨_, rfl⟩
    rw [hq] at TD
    have hw1 : IntKind.i64.wrap q = q := by rw [IntKind.wrap_i64]; omega
    have hw2 : RowKit.wrap64 q = q := Go.IntWalk.wrap64_in q (by omega)
    rw [hq]
    clear n0 n1 BD MB UP TD c0 c1 c2 c3
    go_enter Try.func35, Try.ntmps35
    go_wp2_with fail
    refine C.out.mono ?_
    rintro e w1 ⟨rfl, l⟩
    have G1 := Lib.hid (cel2_new w1 x y 28)
    have L := Lib.hid (lo_on l (below_one w1 (.cells #[.int .i64 x, .int .i64 y] 28)))
    obtain ⟨_, k1, k2, _, _⟩ := G1.out
    clear l C G1
    go_wp2
    go_ret2
    exact ⟨rfl, L.out⟩
set_option maxRecDepth 100000 in
set_option maxHeartbeats 1600000 in
theorem implMostLoad_any (v : Value) (xs : List StageV) (n : Int) (w : World) (hr : StgRow w v xs) (hn : xs.length ≤ 2000000) :
    Calls Try.prog 37 #[v, .int .i64 n] w fun e w' => e = .returned (.tuple #[.int .i64 (mostF xs n), .bool (askB xs n)]) ∧ Below w.heap.size w w' := by
  have C := Lib.hid (bymultiply_any v xs n w hr hn)
  unfold mostF
  cases hb : askB xs n with
  | false =>
    rw [hb] at C
    unfold haulF at C
    rw [hb] at C
    simp only [zz, Bool.false_eq_true, if_false] at C ⊢
    clear hb hr hn
    go_enter Try.func37, Try.ntmps37
    go_wp2_with fail
    refine C.out.mono ?_
    rintro e w1 ⟨rfl, l⟩
    go_wp2
    go_ret2
    exact ⟨rfl, lo_on l (below_one _ _)⟩
  | true =>
    rw [hb] at C
    unfold haulF at C
    rw [hb] at C
    simp only [zz, if_true] at C ⊢
    have hx := (askB_iff xs n).1 hb
    have BD := ch_bound hx.1.1 hx.1.2
    obtain ⟨_, n0, n1⟩ := hx
    clear hb hr hn
    generalize chF xs = g at *
    obtain ⟨g1, g2⟩ := g
    unfold mltF at C
    simp only at C BD ⊢
    have MB := muln_bound n g1 n0 n1 (by omega) (by omega)
    have CS := cut_size (n * g1) g2 MB.1 (by omega)
    have UP := down_cut (n * g1) g2 MB.1 (by omega)
    generalize cutA (n * g1) g2 = x at *
    generalize cutB (n * g1) g2 = y at *
    rw [← UP]
    obtain ⟨⟨c0, c1⟩, c2, c3⟩ := CS
    have yz : (y : Int) ≠ 0 := by omega
    have TD := tdiv_abs (x) y
    obtain ⟨q, hq⟩ : ∃ q, Int.tdiv (x) y = q := ⟨_, rfl⟩
    rw [hq] at TD
    have hw1 : IntKind.i64.wrap q = q := by rw [IntKind.wrap_i64]; omega
    have hw2 : RowKit.wrap64 q = q := Go.IntWalk.wrap64_in q (by omega)
    rw [hq]
    clear n0 n1 BD MB UP TD c0 c1 c2 c3
    go_enter Try.func37, Try.ntmps37
    go_wp2_with fail
    refine C.out.mono ?_
    rintro e w1 ⟨rfl, l⟩
    have G1 := Lib.hid (cel2_new w1 x y 28)
    have L := Lib.hid (lo_on l (below_one w1 (.cells #[.int .i64 x, .int .i64 y] 28)))
    obtain ⟨_, k1, k2, _, _⟩ := G1.out
    clear l C G1
    go_wp2
    go_ret2
    exact ⟨rfl, L.out⟩
def tnB (p : StageV) : Bool := stgB p && decide (p.k = 1 ∨ p.k = 3)
def tnF (p : StageV) : StageV := if tnB p = true then ⟨p.k, p.b, p.a⟩ else stZ
theorem tn_cells {w w1 : World} {x y z u v t : Value} {T : TypeId} (l : Below ((w.alloc (.cells #[x, y, z] T)).alloc (.cells #[u, v, t] T)).heap.size ((w.alloc (.cells #[x, y, z] T)).alloc (.cells #[u, v, t] T)) w1) :
    Cel3 w1 w.heap.size x y z ∧ Cel3 w1 (w.heap.size + 1) u v t ∧ (∀ j, w1.frozen? ⟨w.heap.size + 1, j, none⟩ = false) ∧ Below w.heap.size w w1 := by
  have b := cel3_new (w.alloc (.cells #[x, y, z] T)) u v t T
  rw [World.size_alloc] at b
  refine ⟨((cel3_new w x y z T).lo (below_one _ _)).lo l, b.lo l, fun j => ?_, lo_on (below_pair _ _ _) l⟩
  rw [l.frozen (p := ⟨w.heap.size + 1, j, none⟩) (by simp)]
  exact World.frozen?_alloc_at _ _ _ _ (by simp)
theorem cel3_put (w : World) (g : Nat) {x y z : Value} (h : Cel3 w g x y z) (u v t : Value) : Cel3 (((w.setCell ⟨g, 0, none⟩ u).setCell ⟨g, 1, none⟩ v).setCell ⟨g, 2, none⟩ t) g u v t := by
  obtain ⟨h0, h1, h2, h3⟩ := h
  obtain ⟨q0, q1, q2, _⟩ := three_set w g 0 u v t h1 h2 h3
  rw [Nat.zero_add] at q0 q1 q2
  exact ⟨by simpa using h0, q0, q1, q2⟩
theorem three_up {w w1 : World} {g : Nat} (h : Below g w w1) (x y z : Value) : Below g w (((w1.setCell ⟨g + 1, 0, none⟩ x).setCell ⟨g + 1, 1, none⟩ y).setCell ⟨g + 1, 2, none⟩ z) :=
  ((h.setCell (p := ⟨g + 1, 0, none⟩) (by simp only; omega) _).setCell (p := ⟨g + 1, 1, none⟩) (by simp only; omega) _).setCell (p := ⟨g + 1, 2, none⟩) (by simp only; omega) _
end Go.Proofs.Ytpklccpkgefniaa
