/- Walks of the laws on centres and reactions. -/
import Derived.Test.YthihamjgfemacaaSpec2
import Derived.Test.YthihamjgfemacaaExRow
namespace Go.Proofs.Ythihamjgfemacaa
open Go.RowKit
/-- What two new cells hold, and hold on. -/
theorem new_cells {w w1 w2 : World} {T : TypeId} {x y : Value} (e : w1 = w.alloc (.cells #[x, y] T)) (l : Below w1.heap.size w1 w2) :
    w2.cell? ⟨w.heap.size, 0, none⟩ = some x ∧ w2.cell? ⟨w.heap.size, 1, none⟩ = some y ∧ Below w.heap.size w w2 := by
  subst e
  have r := res_cells l
  exact ⟨r.1, r.2.1, r.2.2.2.2⟩
theorem keep_cells {w w2 : World} {g : Nat} {x y : Value} (c : w.cell? ⟨g, 0, none⟩ = some x ∧ w.cell? ⟨g, 1, none⟩ = some y) (l : Below w.heap.size w w2) : w2.cell? ⟨g, 0, none⟩ = some x ∧ w2.cell? ⟨g, 1, none⟩ = some y := by
  have hg := cell_lt c.1
  rw [l.cell (p := ⟨g, 0, none⟩) hg, l.cell (p := ⟨g, 1, none⟩) hg]
  exact c
theorem new_cells2 {w w1 w2 : World} {T : TypeId} {x y z u : Value} (e : w1 = (w.alloc (.cells #[x, y] T)).alloc (.cells #[z, u] T)) (l : Below w1.heap.size w1 w2) :
    w2.cell? ⟨w.heap.size, 0, none⟩ = some x ∧ w2.cell? ⟨w.heap.size, 1, none⟩ = some y ∧ w2.cell? ⟨w.heap.size + 1, 0, none⟩ = some z ∧ w2.cell? ⟨w.heap.size + 1, 1, none⟩ = some u ∧ Below w.heap.size w w2 := by
  subst e
  have r := res_cells2 l
  exact ⟨r.1, r.2.1, r.2.2.2.2.1, r.2.2.2.2.2.1, r.2.2.2.2.2.2.2.2⟩
set_option maxHeartbeats 800000 in
theorem exCentreOf_walk (a : Option Addr) (len cap : Nat) (zs : List (Int × Int)) (w : World) (h : IsPairs .i64 w a len cap zs)
    (B : ∃ (u t : Int) (r : Bool), (∀ v w, LoadRow w v zs → Calls Try.prog 43 #[v] w fun e w' => e = .returned (.tuple #[.agg #[.int .i64 u, .int .i64 t], .bool r]) ∧ Below w.heap.size w w') ∧
      (∀ v w, LoadRow w v zs → Calls Try.prog 44 #[v] w fun e w' => e = .returned (.tuple #[.agg #[.int .i64 u, .int .i64 t], .bool r]) ∧ Below w.heap.size w w')) :
    Calls Try.prog 7 #[.slice a len cap] w fun e w' => e = .returned (.bool true) ∧ Below w.heap.size w w' := by
  obtain ⟨rfl, hn, hr⟩ := pairs_row h
  obtain ⟨u, t, r, S, I⟩ := B
  have HR := Lib.hid hr
  have SP := Lib.hid S
  have IM := Lib.hid I
  clear h hr S I
  go_enter Try.func7, Try.ntmps7
  go_wp2_with fail
  refine (szLoad_any a _ cap w hn).mono ?_
  rintro e w' ⟨z, rfl, rfl, hneg | ⟨z0, hn2⟩⟩
  · go_wp2
    go_ret
    exact ⟨rfl, Below.refl _ _⟩
  · go_wp2_with fail
    refine (toLoads_any a cap zs w HR.out (by omega)).mono ?_
    rintro e w1 ⟨rfl, t1, l1⟩
    go_wp2_with fail
    refine (SP.out _ w1 t1).mono ?_
    rintro e w2 ⟨rfl, l2⟩
    have L2 := lo_on l1 l2
    go_wp2_with fail
    obtain ⟨w3, h3⟩ : ∃ w3, w2.alloc (.cells #[.int .i64 u, .int .i64 t] 43) = w3 := ⟨_, rfl⟩
    rw [h3]
    have N3 := new_cells h3.symm (Below.refl _ _)
    have L3 := L2.trans (N3.2.2.mono L2.size)
    have C3 := Lib.hid (And.intro N3.1 N3.2.1)
    clear h3 N3
    refine (toLoads_any a cap zs w3 (HR.out.lo L3) (by omega)).mono ?_
    rintro e w4 ⟨rfl, t4, l4⟩
    have L4 := lo_on L3 l4
    go_wp2_with fail
    refine (IM.out _ w4 t4).mono ?_
    rintro e w5 ⟨rfl, l5⟩
    have L5 := lo_on L4 l5
    have l45 := (lo_on l4 l5)
    have l6 : Below w5.heap.size w5 (w5.alloc (.cells #[.int .i64 u, .int .i64 t] 43)) := (Below.refl _ _).alloc (Nat.le_refl _) _
    obtain ⟨c1, c2⟩ := keep_cells C3.out (lo_on l45 l6)
    have L6 := lo_on L5 l6
    have T6 := Lib.hid ((t4.lo l5).lo l6)
    clear l6 l45 L5 l5 L4 l4 L3 t4 L2 l2 l1 t1
    go_wp2_with fail
    refine (eqA2_same u t _).mono ?_
    rintro e w7 ⟨rfl, l7⟩
    have L7 := lo_on L6 l7
    have T7 := Lib.hid (T6.out.lo l7)
    clear c1 c2
    go_wp2_with fail
    refine (toLoads_any a cap zs w7 (HR.out.lo L7) (by omega)).mono ?_
    rintro e w8 ⟨rfl, t8, l8⟩
    have L8 := lo_on L7 l8
    go_wp2_with fail
    refine (eqLoads_same _ _ zs w8 (T7.out.lo l8) t8 (by omega)).mono ?_
    rintro e w9 ⟨rfl, l9⟩
    go_wp2
    go_ret
    exact ⟨rfl, lo_on L8 l9⟩
theorem centre_both (zs : List (Int × Int)) : ∃ (u t : Int) (r : Bool), (∀ v w, LoadRow w v zs → Calls Try.prog 43 #[v] w fun e w' => e = .returned (.tuple #[.agg #[.int .i64 u, .int .i64 t], .bool r]) ∧ Below w.heap.size w w') ∧
      (∀ v w, LoadRow w v zs → Calls Try.prog 44 #[v] w fun e w' => e = .returned (.tuple #[.agg #[.int .i64 u, .int .i64 t], .bool r]) ∧ Below w.heap.size w w') := by
  by_cases h : rowB zs = false ∨ zs = []
  · exact ⟨0, 0, false, fun v w hr => specCentre_no v zs w hr h, fun v w hr => centreOf_no v zs w hr h⟩
  · have h1 : rowB zs = true := by
      cases e : rowB zs with
      | true => rfl
      | false => exact absurd (.inl e) h
    have h2 : zs ≠ [] := fun e => h (.inr e)
    exact ⟨_, _, true, fun v w hr => specCentre_yes v zs w hr ((rowB_iff zs).1 h1) h2, fun v w hr => centreOf_yes v zs w hr ((rowB_iff zs).1 h1) h2⟩
set_option maxHeartbeats 1600000 in
theorem exReactionsOf_walk (a : Option Addr) (len cap : Nat) (zs : List (Int × Int)) (m0 m1 : Int) (w : World) (h : IsPairs .i64 w a len cap zs)
    (B : ∃ (u t u' t' : Int) (r : Bool), (∀ v w, LoadRow w v zs → Calls Try.prog 47 #[v, .int .i64 m0, .int .i64 m1] w fun e w' => e = .returned (.tuple #[.agg #[.int .i64 u, .int .i64 t], .agg #[.int .i64 u', .int .i64 t'], .bool r]) ∧ Below w.heap.size w w') ∧
      (∀ v w, LoadRow w v zs → Calls Try.prog 48 #[v, .int .i64 m0, .int .i64 m1] w fun e w' => e = .returned (.tuple #[.agg #[.int .i64 u, .int .i64 t], .agg #[.int .i64 u', .int .i64 t'], .bool r]) ∧ Below w.heap.size w w')) :
    Calls Try.prog 9 #[.slice a len cap, .int .i64 m0, .int .i64 m1] w fun e w' => e = .returned (.bool true) ∧ Below w.heap.size w w' := by
  obtain ⟨rfl, hn, hr⟩ := pairs_row h
  obtain ⟨u, t, u', t', r, S, I⟩ := B
  have HR := Lib.hid hr
  have SP := Lib.hid S
  have IM := Lib.hid I
  clear h hr S I
  go_enter Try.func9, Try.ntmps9
  go_wp2_with fail
  refine (szLoad_any a _ cap w hn).mono ?_
  rintro e w' ⟨z, rfl, rfl, hneg | ⟨z0, hn2⟩⟩
  · go_wp2
    go_ret
    exact ⟨rfl, Below.refl _ _⟩
  · go_wp2_with fail
    refine (toLoads_any a cap zs w HR.out (by omega)).mono ?_
    rintro e w1 ⟨rfl, t1, l1⟩
    go_wp2_with fail
    refine (SP.out _ w1 t1).mono ?_
    rintro e w2 ⟨rfl, l2⟩
    have L2 := lo_on l1 l2
    go_wp2_with fail
    obtain ⟨w3, h3⟩ : ∃ w3, (w2.alloc (.cells #[.int .i64 u, .int .i64 t] 43)).alloc (.cells #[.int .i64 u', .int .i64 t'] 43) = w3 := ⟨_, rfl⟩
    rw [h3]
    have N3 := new_cells2 h3.symm (Below.refl _ _)
    have L3 := L2.trans (N3.2.2.2.2.mono L2.size)
    have C3 := Lib.hid (And.intro N3.1 N3.2.1)
    have C4 := Lib.hid (And.intro N3.2.2.1 N3.2.2.2.1)
    clear h3 N3
    refine (toLoads_any a cap zs w3 (HR.out.lo L3) (by omega)).mono ?_
    rintro e w4 ⟨rfl, t4, l4⟩
    have L4 := lo_on L3 l4
    go_wp2_with fail
    refine (IM.out _ w4 t4).mono ?_
    rintro e w5 ⟨rfl, l5⟩
    have L5 := lo_on L4 l5
    have l45 := (lo_on l4 l5)
    have l6 : Below w5.heap.size w5 ((w5.alloc (.cells #[.int .i64 u, .int .i64 t] 43)).alloc (.cells #[.int .i64 u', .int .i64 t'] 43)) := alloc_two _ _ _
    obtain ⟨c1, c2⟩ := keep_cells C3.out (lo_on l45 l6)
    have K4 := Lib.hid (keep_cells C4.out (lo_on l45 l6))
    have N6 := new_cells2 (w := w5) rfl (Below.refl _ ((w5.alloc (.cells #[.int .i64 u, .int .i64 t] 43)).alloc (.cells #[.int .i64 u', .int .i64 t'] 43)))
    have K6 := Lib.hid (And.intro N6.2.2.1 N6.2.2.2.1)
    have L6 := lo_on L5 l6
    have T6 := Lib.hid ((t4.lo l5).lo l6)
    clear l6 l45 L5 l5 L4 l4 L3 t4 L2 l2 l1 t1 N6 C3 C4
    go_wp2_with fail
    refine (eqA2_same u t _).mono ?_
    rintro e w7 ⟨rfl, l7⟩
    have L7 := lo_on L6 l7
    have T7 := Lib.hid (T6.out.lo l7)
    obtain ⟨d1, d2⟩ := keep_cells K4.out l7
    obtain ⟨d3, d4⟩ := keep_cells K6.out l7
    clear c1 c2 K4 K6
    go_wp2_with fail
    refine (eqA2_same u' t' _).mono ?_
    rintro e w7' ⟨rfl, l7'⟩
    have L7' := lo_on L7 l7'
    have T7' := Lib.hid (T7.out.lo l7')
    clear d1 d2 d3 d4
    go_wp2_with fail
    refine (toLoads_any a cap zs w7' (HR.out.lo L7') (by omega)).mono ?_
    rintro e w8 ⟨rfl, t8, l8⟩
    have L8 := lo_on L7' l8
    go_wp2_with fail
    refine (eqLoads_same _ _ zs w8 (T7'.out.lo l8) t8 (by omega)).mono ?_
    rintro e w9 ⟨rfl, l9⟩
    go_wp2
    go_ret
    exact ⟨rfl, lo_on L8 l9⟩
theorem reactions_both (zs : List (Int × Int)) (m0 m1 : Int) : ∃ (u t u' t' : Int) (r : Bool), (∀ v w, LoadRow w v zs → Calls Try.prog 47 #[v, .int .i64 m0, .int .i64 m1] w fun e w' => e = .returned (.tuple #[.agg #[.int .i64 u, .int .i64 t], .agg #[.int .i64 u', .int .i64 t'], .bool r]) ∧ Below w.heap.size w w') ∧
      (∀ v w, LoadRow w v zs → Calls Try.prog 48 #[v, .int .i64 m0, .int .i64 m1] w fun e w' => e = .returned (.tuple #[.agg #[.int .i64 u, .int .i64 t], .agg #[.int .i64 u', .int .i64 t'], .bool r]) ∧ Below w.heap.size w w') := by
  by_cases h : (rowB zs && baseB m0 m1) = false ∨ m0 = m1
  · exact ⟨0, 0, 0, 0, false, fun v w hr => specReactions_no v zs m0 m1 w hr h, fun v w hr => reactions_no v zs m0 m1 w hr h⟩
  · have h1 : (rowB zs && baseB m0 m1) = true := by
      cases e : (rowB zs && baseB m0 m1) with
      | true => rfl
      | false => exact absurd (.inl e) h
    have h2 : m0 ≠ m1 := fun e => h (.inr e)
    rw [Bool.and_eq_true] at h1
    exact ⟨_, _, _, _, true, fun v w hr => specReactions_yes v zs m0 m1 w hr ((rowB_iff zs).1 h1.1) h1.2 h2, fun v w hr => reactions_yes v zs m0 m1 w hr ((rowB_iff zs).1 h1.1) h1.2 h2⟩
end Go.Proofs.Ythihamjgfemacaa
