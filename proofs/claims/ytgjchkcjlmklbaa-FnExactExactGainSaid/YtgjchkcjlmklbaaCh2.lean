/- The contracts of the model's gains. -/
import Derived.Test.YtgjchkcjlmklbaaCh1
import Derived.Test.YtgjchkcjlmklbaaImpl4
namespace Go.Proofs.Ytgjchkcjlmklbaa
open Go.RowKit
/-- Both blocks of a function on a stage whose result is a fraction, behind a call. -/
theorem gn_cells {w w1 : World} {x y z u v : Value} {T R : TypeId} (l : Below ((w.alloc (.cells #[x, y, z] T)).alloc (.cells #[u, v] R)).heap.size ((w.alloc (.cells #[x, y, z] T)).alloc (.cells #[u, v] R)) w1) :
    Cel3 w1 w.heap.size x y z ∧ (w1.cell? ⟨w.heap.size + 1, 0, none⟩ = some u ∧ w1.cell? ⟨w.heap.size + 1, 1, none⟩ = some v ∧ w1.frozen? ⟨w.heap.size + 1, 0, none⟩ = false ∧ w1.frozen? ⟨w.heap.size + 1, 1, none⟩ = false) ∧ Below w.heap.size w w1 := by
  obtain ⟨c1, c2, f1, f2, L⟩ := res_cells l
  rw [World.size_alloc] at c1 c2 f1 f2
  exact ⟨((cel3_new w x y z T).lo (below_one _ _)).lo l, ⟨c1, c2, f1, f2⟩, lo_on (below_one _ _) L⟩
theorem two_up {w w1 : World} {g : Nat} (h : Below g w w1) (x y : Value) : Below g w ((w1.setCell ⟨g + 1, 0, none⟩ x).setCell ⟨g + 1, 1, none⟩ y) :=
  (h.setCell (p := ⟨g + 1, 0, none⟩) (by simp only; omega) _).setCell (p := ⟨g + 1, 1, none⟩) (by simp only; omega) _
set_option maxHeartbeats 1600000 in
theorem l7Gain_any (p : StageV) (h : stgB p = true) (w : World) : Calls Try.prog 188 #[.agg #[.int .i64 p.k, .int .i64 p.a, .int .i64 p.b]] w fun e w' => e = .returned (.agg #[.int .i64 (gnF p).1, .int .i64 (gnF p).2]) ∧ Below w.heap.size w w' := by
  obtain ⟨k, a, b⟩ := p
  unfold stgB at h
  simp only at h
  unfold gnF
  simp only
  by_cases h2 : k = 2
  · subst h2
    rw [if_pos rfl]
    simp only
    clear h
    go_enter Try.func188, Try.ntmps188
    go_wp2
    exact bodyPost_ret (v := .agg #[.int .i64 a, .int .i64 1]) (by simp [results, Try.results188, go_sem]) rfl ⟨rfl, lo_on (below_one _ _) (below_one _ _)⟩
  rw [if_neg h2]
  have k2 : (k == 2) = false := by simp; omega
  by_cases h5 : k = 5
  · subst h5
    rw [if_pos rfl]
    simp only
    have h : ((1 ≤ a ∧ a ≤ 24) ∧ 1 ≤ b ∧ b ≤ 24) ∧ b < a := by simpa [twoB_iff] using h
    have M := Lib.hid (fun w => l2Cut_any (2 * a) (a - b) w (by omega) (by omega) (by omega) (by omega))
    obtain ⟨⟨⟨a0, a1⟩, b0, b1⟩, b2⟩ := h
    generalize cutA (2 * a) (a - b) = u at *
    generalize cutB (2 * a) (a - b) = v at *
    clear k2 h2
    go_enter Try.func188, Try.ntmps188
    go_wp2_with fail
    refine (M.out _).mono ?_
    rintro e w1 ⟨rfl, l⟩
    have GC := Lib.hid (gn_cells l)
    obtain ⟨_, ⟨c1, c2, f1, f2⟩, LL⟩ := GC.out
    have TS := Lib.hid (two_set w1 (w.heap.size + 1) 0 (.int .i64 u) (.int .i64 v) c1 c2)
    have L := Lib.hid LL
    clear LL GC l M
    go_wp2
    obtain ⟨q0, q1, _⟩ := TS.out
    rw [Nat.zero_add] at q0 q1
    exact bodyPost_ret (v := .agg #[.int .i64 u, .int .i64 v]) (by simp [results, Try.results188, go_sem, q0, q1]) rfl ⟨rfl, two_up L.out _ _⟩
  rw [if_neg h5]
  have k5 : (k == 5) = false := by simp; omega
  have hab : (1 ≤ a ∧ a ≤ 24) ∧ 1 ≤ b ∧ b ≤ 24 := by
    split at h
    · exact (twoB_iff a b).1 h
    · split at h
      · rw [Bool.and_eq_true] at h; exact (twoB_iff a b).1 h.1
      · cases h
  have M := Lib.hid (fun w => l2Cut_any a b w (by omega) (by omega) (by omega) (by omega))
  clear h hab h2 h5
  simp only
  generalize cutA a b = u at *
  generalize cutB a b = v at *
  go_enter Try.func188, Try.ntmps188
  go_wp2_with fail
  refine (M.out _).mono ?_
  rintro e w1 ⟨rfl, l⟩
  have GC := Lib.hid (gn_cells l)
  obtain ⟨_, ⟨c1, c2, f1, f2⟩, LL⟩ := GC.out
  have TS := Lib.hid (two_set w1 (w.heap.size + 1) 0 (.int .i64 u) (.int .i64 v) c1 c2)
  have L := Lib.hid LL
  clear LL GC l M
  go_wp2
  obtain ⟨q0, q1, _⟩ := TS.out
  rw [Nat.zero_add] at q0 q1
  exact bodyPost_ret (v := .agg #[.int .i64 u, .int .i64 v]) (by simp [results, Try.results188, go_sem, q0, q1]) rfl ⟨rfl, two_up L.out _ _⟩
def sgF (p : StageV) : Int × Int := zz (stgB p) (gnF p)
set_option maxHeartbeats 1600000 in
theorem specStageGain_any (p : StageV) (w : World) : Calls Try.prog 103 #[.agg #[.int .i64 p.k, .int .i64 p.a, .int .i64 p.b]] w fun e w' => e = .returned (.tuple #[.agg #[.int .i64 (sgF p).1, .int .i64 (sgF p).2], .bool (stgB p)]) ∧ Below w.heap.size w w' := by
  obtain ⟨r, hr⟩ : ∃ r, stgB p = r := ⟨_, rfl⟩
  unfold sgF
  rw [hr]
  have C := Lib.hid (fun w => l7Stage_is p r hr w)
  cases r with
  | false =>
    clear hr
    obtain ⟨k, a, b⟩ := p
    simp only [zz, Bool.false_eq_true, if_false]
    go_enter Try.func103, Try.ntmps103
    go_wp2_with fail
    refine (C.out _).mono ?_
    rintro e w1 ⟨rfl, l⟩
    have GC := Lib.hid (gn_cells l)
    obtain ⟨_, ⟨c1, c2, f1, f2⟩, LL⟩ := GC.out
    have TS := Lib.hid (two_set w1 (w.heap.size + 1) 0 (.int .i64 0) (.int .i64 0) c1 c2)
    have L := Lib.hid LL
    clear LL GC l C
    go_wp2
    obtain ⟨q0, q1, _⟩ := TS.out
    rw [Nat.zero_add] at q0 q1
    exact bodyPost_ret (v := .tuple #[.agg #[.int .i64 0, .int .i64 0], .bool false]) (by simp [results, Try.results103, go_sem, q0, q1]) rfl ⟨rfl, two_up L.out _ _⟩
  | true =>
    have G := Lib.hid (fun w => l7Gain_any p hr w)
    clear hr
    simp only [zz, if_true]
    generalize gnF p = g at *
    obtain ⟨u, v⟩ := g
    obtain ⟨k, a, b⟩ := p
    simp only at G ⊢
    go_enter Try.func103, Try.ntmps103
    go_wp2_with fail
    refine (C.out _).mono ?_
    rintro e w1 ⟨rfl, l⟩
    have GC := Lib.hid (gn_cells l)
    obtain ⟨⟨_, x0, x1, x2⟩, _, _⟩ := GC.out
    have HL := Lib.hid l
    clear l GC
    go_wp2_with fail
    refine (G.out _).mono ?_
    rintro e w2 ⟨rfl, l⟩
    have GC := Lib.hid (gn_cells (lo_on HL.out l))
    obtain ⟨_, ⟨c1, c2, f1, f2⟩, LL⟩ := GC.out
    have TS := Lib.hid (two_set w2 (w.heap.size + 1) 0 (.int .i64 u) (.int .i64 v) c1 c2)
    have L := Lib.hid LL
    clear LL GC l C HL G x0 x1 x2
    go_wp2
    obtain ⟨q0, q1, _⟩ := TS.out
    rw [Nat.zero_add] at q0 q1
    exact bodyPost_ret (v := .tuple #[.agg #[.int .i64 u, .int .i64 v], .bool true]) (by simp [results, Try.results103, go_sem, q0, q1]) rfl ⟨rfl, two_up L.out _ _⟩
end Go.Proofs.Ytgjchkcjlmklbaa
