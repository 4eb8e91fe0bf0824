/- The contract of the program's makeRow, for each form. -/
import Derived.Test.YtjchmjbgboeolaaForms2
import Derived.Test.YtjchmjbgboeolaaForms4
namespace Go.Proofs.Ytjchmjbgboeolaa
open Go.RowKit
theorem joined_any (va vb : Value) (m : Int) (xs ys : List (Int × Int)) (w : World) (ha : SRow w va xs) (hb : SRow w vb ys) (hx : xs.length ≤ 12) (hy : ys.length ≤ 12) :
    Calls Try.prog 67 #[.agg #[va, vb, .int .i64 m]] w fun e w' => ∃ v', e = .returned v' ∧ OwnL w' w.heap.size v' (xs ++ ys) ∧ Below w.heap.size w w' := by
  have hal : Below w.heap.size w ((w.alloc (.cells #[va, vb, .int .i64 m] 53)).alloc (.cells #[va, vb] 24)) := alloc_two _ _ _
  have hs1 : w.heap.size + 1 = (w.alloc (.cells #[va, vb, .int .i64 m] 53)).heap.size := by simp
  have CC := Lib.hid (concat_any (w.heap.size + 1) va vb xs ys ((w.alloc (.cells #[va, vb, .int .i64 m] 53)).alloc (.cells #[va, vb] 24)) ((World.cell?_alloc_at _ _ _ _ hs1).trans rfl) ((World.cell?_alloc_at _ _ _ _ hs1).trans rfl) (ha.lo hal) (hb.lo hal) hx hy)
  have hva : ∃ x n c, va = .slice x n c := by obtain ⟨g, off, c, rfl, _⟩ := ha; exact ⟨_, _, _, rfl⟩
  have hvb : ∃ x n c, vb = .slice x n c := by obtain ⟨g, off, c, rfl, _⟩ := hb; exact ⟨_, _, _, rfl⟩
  obtain ⟨x0, n0, c0, rfl⟩ := hva
  obtain ⟨x1, n1, c1, rfl⟩ := hvb
  have HA := Lib.hid hal
  clear ha hb hal hs1
  go_enter Try.func67, Try.ntmps67
  go_wp2_with fail
  refine CC.out.mono ?_
  rintro e w1 ⟨v1, rfl, o1, l1⟩
  have OO := Lib.hid (show OwnL w1 w.heap.size v1 (xs ++ ys) from ownL_mono o1 (by simp; omega))
  have LL := Lib.hid (lo_on HA.out l1)
  clear o1 l1 CC
  go_wp2
  go_ret
  exact ⟨_, rfl, OO.out, LL.out⟩
theorem OwnL.lo {w w' : World} {B : Nat} {v : Value} {xs : List (Int × Int)} (h : OwnL w B v xs) (l : Below w.heap.size w w') : OwnL w' B v xs := by
  unfold OwnL at *
  refine ⟨h.1, ?_⟩
  rcases h.2 with h | ⟨g, cap, cur, e, hb, hg, r⟩
  · exact .inl h
  · exact .inr ⟨g, cap, cur, e, hb, (l.block g (Array.getElem?_eq_some_iff.1 hg).1).trans hg, r⟩
theorem row_is (v : Value) (xs : List (Int × Int)) (r : Bool) (h : rowB xs = r) (w : World) (hr : LoadRow w v xs) : Calls Try.prog 56 #[v] w fun e w' => e = .returned (.bool r) ∧ Below w.heap.size w w' := by
  subst h
  exact isRow_any v xs w hr
theorem three_cells {w : World} {x y z : Value} {T : TypeId} {w1 : World} (l : Below (w.alloc (.cells #[x, y, z] T)).heap.size (w.alloc (.cells #[x, y, z] T)) w1) :
    w1.cell? ⟨w.heap.size, 0, none⟩ = some x ∧ w1.cell? ⟨w.heap.size, 1, none⟩ = some y ∧ w1.cell? ⟨w.heap.size, 2, none⟩ = some z ∧ w.heap.size < w1.heap.size ∧ Below w.heap.size w w1 := by
  have hb0 : w.heap.size < (w.alloc (.cells #[x, y, z] T)).heap.size := by simp
  refine ⟨?_, ?_, ?_, Nat.lt_of_lt_of_le hb0 l.size, ((Below.refl _ _).alloc (Nat.le_refl _) _).trans (l.mono (by simp))⟩
  · rw [l.cell (p := ⟨w.heap.size, 0, none⟩) hb0, World.cell?_alloc_at _ _ _ _ rfl]; rfl
  · rw [l.cell (p := ⟨w.heap.size, 1, none⟩) hb0, World.cell?_alloc_at _ _ _ _ rfl]; rfl
  · rw [l.cell (p := ⟨w.heap.size, 2, none⟩) hb0, World.cell?_alloc_at _ _ _ _ rfl]; rfl
set_option maxRecDepth 100000 in
set_option maxHeartbeats 1600000 in
theorem make_merged (x0 x1 : Option Addr) (n0 c0 n1 c1 : Nat) (m : Int) (xs ys made : List (Int × Int)) (w : World) (ha : LoadRow w (.slice x0 n0 c0) xs) (hb : LoadRow w (.slice x1 n1 c1) ys) (hx : rowB xs = true) (hy : rowB ys = true)
    (K : ∀ w1, Below w.heap.size w w1 → Calls Try.prog 66 #[.agg #[.slice x0 n0 c0, .slice x1 n1 c1, .int .i64 m]] w1 fun e w' => ∃ v', e = .returned v' ∧ OwnL w' w1.heap.size v' made ∧ Below w1.heap.size w1 w') :
    Calls Try.prog 38 #[.int .i64 0, .agg #[.slice x0 n0 c0, .slice x1 n1 c1, .int .i64 m]] w fun e w' => ∃ v', e = .returned (.tuple #[v', .bool (rowB made)]) ∧ OwnL w' w.heap.size v' (KeptF made) ∧ Below w.heap.size w w' := by
  have hal : Below w.heap.size w (w.alloc (.cells #[.slice x0 n0 c0, .slice x1 n1 c1, .int .i64 m] 53)) := (Below.refl _ _).alloc (Nat.le_refl _) _
  obtain ⟨r, hr⟩ : ∃ r, rowB made = r := ⟨_, rfl⟩
  rw [hr]
  have R1 := Lib.hid (row_is _ xs true hx _ (ha.lo hal))
  have R2 := Lib.hid (fun w1 (l : Below w.heap.size w w1) => row_is _ ys true hy w1 (hb.lo l))
  have KK := Lib.hid K
  clear ha hb hx hy K hal
  go_enter Try.func38, Try.ntmps38
  go_wp2_with fail
  refine R1.out.mono ?_
  rintro e w1 ⟨rfl, l1⟩
  obtain ⟨a0, a1, a2, az, L1⟩ := three_cells l1
  have R3 := Lib.hid (R2.out w1 L1)
  go_wp2_with fail
  refine R3.out.mono ?_
  rintro e w2 ⟨rfl, l2⟩
  obtain ⟨b0, b1, b2, bz, L2⟩ := three_cells (lo_on l1 l2)
  have LL2 := Lib.hid L2
  have CF := Lib.hid (fun w3 (l : Below w2.heap.size w2 w3) => KK.out w3 (lo_on LL2.out l))
  clear a0 a1 a2 az L1 l1 l2 L2 R1 R2 R3 KK
  have hidx : ∀ w, (Instr.index 75 (.agg #[.func (.func 66) #[] #[], .func (.func 67) #[] #[], .func (.func 68) #[] #[], .func (.func 69) #[] #[]]) (.int .i64 0)).run Try.prog w = .ok (.func (.func 66) #[] #[]) w := by
    intro w
    show _ = _
    kernel_rfl
  go_wp2
  go_region_held3 (fun w' => w'.cell? ⟨w.heap.size, 0, none⟩ = some (.slice x0 n0 c0) ∧ w'.cell? ⟨w.heap.size, 1, none⟩ = some (.slice x1 n1 c1) ∧ w'.cell? ⟨w.heap.size, 2, none⟩ = some (.int .i64 m) ∧ Below w2.heap.size w2 w')
    (first
      | exact ⟨b0, b1, b2, (Below.refl _ _).drew⟩
      | exact ⟨(hl.cell (p := ⟨w.heap.size, 0, none⟩) bz).trans b0, (hl.cell (p := ⟨w.heap.size, 1, none⟩) bz).trans b1, (hl.cell (p := ⟨w.heap.size, 2, none⟩) bz).trans b2, ⟨hl.os, hl.tape, hl.output, hl.size, hl.block⟩⟩
      | exact ⟨(lm.cell (p := ⟨w.heap.size, 0, none⟩) bz).trans b0, (lm.cell (p := ⟨w.heap.size, 1, none⟩) bz).trans b1, (lm.cell (p := ⟨w.heap.size, 2, none⟩) bz).trans b2, lm⟩
      | (refine ⟨?_, ?_, ?_, ?_⟩ <;> assumption))
    ((first
      | (go_at_call 57; refine (rowForms_any _).mono ?_; rintro e w3 ⟨rfl, hl⟩)
      | (go_at_call 66; have lm0 : Below w2.heap.size w2 w3 := ⟨hl.os, hl.tape, hl.output, hl.size, hl.block⟩; refine (CF.out w3 lm0).mono ?_; rintro e w4 ⟨v4, rfl, o4, l4⟩; have lm := lo_on lm0 l4; have lm1 := lm0)))
  all_goals
    (have B3 : Below w.heap.size w w3 := lo_on LL2.out lm1
     have o5 : OwnL w4 w.heap.size v4 made := ownL_mono o4 B3.size
     have B4 : Below w.heap.size w w4 := lo_on B3 l4
     have R4 := Lib.hid (row_is v4 made r hr w4 (loadRow_own o5))
     have O5 := Lib.hid o5
     have B5 := Lib.hid B4
     clear o4 o5 B3 B4 l4 lm lm1 lm0 hl b0 b1 b2 hidx
     go_wp2_with fail
     refine R4.out.mono ?_
     rintro e w5 ⟨rfl, l5⟩
     have O6 := Lib.hid (OwnL.lo O5.out l5)
     have B6 := Lib.hid (lo_on B5.out l5)
     have KF := Lib.hid (show KeptF made = if r = true then made else [] by unfold KeptF; rw [hr])
     clear l5 O5 B5 R4 CF LL2
     cases r
     all_goals
       (go_wp2
        go_ret2
        exact ⟨_, rfl, by rw [KF.out]; first | exact O6.out | exact World.ownsRow_nil _ _ _ _, B6.out⟩))
set_option maxRecDepth 100000 in
set_option maxHeartbeats 1600000 in
theorem make_joined (x0 x1 : Option Addr) (n0 c0 n1 c1 : Nat) (m : Int) (xs ys made : List (Int × Int)) (w : World) (ha : LoadRow w (.slice x0 n0 c0) xs) (hb : LoadRow w (.slice x1 n1 c1) ys) (hx : rowB xs = true) (hy : rowB ys = true)
    (K : ∀ w1, Below w.heap.size w w1 → Calls Try.prog 67 #[.agg #[.slice x0 n0 c0, .slice x1 n1 c1, .int .i64 m]] w1 fun e w' => ∃ v', e = .returned v' ∧ OwnL w' w1.heap.size v' made ∧ Below w1.heap.size w1 w') :
    Calls Try.prog 38 #[.int .i64 1, .agg #[.slice x0 n0 c0, .slice x1 n1 c1, .int .i64 m]] w fun e w' => ∃ v', e = .returned (.tuple #[v', .bool (rowB made)]) ∧ OwnL w' w.heap.size v' (KeptF made) ∧ Below w.heap.size w w' := by
  have hal : Below w.heap.size w (w.alloc (.cells #[.slice x0 n0 c0, .slice x1 n1 c1, .int .i64 m] 53)) := (Below.refl _ _).alloc (Nat.le_refl _) _
  obtain ⟨r, hr⟩ : ∃ r, rowB made = r := ⟨_, rfl⟩
  rw [hr]
  have R1 := Lib.hid (row_is _ xs true hx _ (ha.lo hal))
  have R2 := Lib.hid (fun w1 (l : Below w.heap.size w w1) => row_is _ ys true hy w1 (hb.lo l))
  have KK := Lib.hid K
  clear ha hb hx hy K hal
  go_enter Try.func38, Try.ntmps38
  go_wp2_with fail
  refine R1.out.mono ?_
  rintro e w1 ⟨rfl, l1⟩
  obtain ⟨a0, a1, a2, az, L1⟩ := three_cells l1
  have R3 := Lib.hid (R2.out w1 L1)
  go_wp2_with fail
  refine R3.out.mono ?_
  rintro e w2 ⟨rfl, l2⟩
  obtain ⟨b0, b1, b2, bz, L2⟩ := three_cells (lo_on l1 l2)
  have LL2 := Lib.hid L2
  have CF := Lib.hid (fun w3 (l : Below w2.heap.size w2 w3) => KK.out w3 (lo_on LL2.out l))
  clear a0 a1 a2 az L1 l1 l2 L2 R1 R2 R3 KK
  have hidx : ∀ w, (Instr.index 75 (.agg #[.func (.func 66) #[] #[], .func (.func 67) #[] #[], .func (.func 68) #[] #[], .func (.func 69) #[] #[]]) (.int .i64 1)).run Try.prog w = .ok (.func (.func 67) #[] #[]) w := by
    intro w
    show _ = _
    kernel_rfl
  go_wp2
  go_region_held3 (fun w' => w'.cell? ⟨w.heap.size, 0, none⟩ = some (.slice x0 n0 c0) ∧ w'.cell? ⟨w.heap.size, 1, none⟩ = some (.slice x1 n1 c1) ∧ w'.cell? ⟨w.heap.size, 2, none⟩ = some (.int .i64 m) ∧ Below w2.heap.size w2 w')
    (first
      | exact ⟨b0, b1, b2, (Below.refl _ _).drew⟩
      | exact ⟨(hl.cell (p := ⟨w.heap.size, 0, none⟩) bz).trans b0, (hl.cell (p := ⟨w.heap.size, 1, none⟩) bz).trans b1, (hl.cell (p := ⟨w.heap.size, 2, none⟩) bz).trans b2, ⟨hl.os, hl.tape, hl.output, hl.size, hl.block⟩⟩
      | exact ⟨(lm.cell (p := ⟨w.heap.size, 0, none⟩) bz).trans b0, (lm.cell (p := ⟨w.heap.size, 1, none⟩) bz).trans b1, (lm.cell (p := ⟨w.heap.size, 2, none⟩) bz).trans b2, lm⟩
      | (refine ⟨?_, ?_, ?_, ?_⟩ <;> assumption))
    ((first
      | (go_at_call 57; refine (rowForms_any _).mono ?_; rintro e w3 ⟨rfl, hl⟩)
      | (go_at_call 67; have lm0 : Below w2.heap.size w2 w3 := ⟨hl.os, hl.tape, hl.output, hl.size, hl.block⟩; refine (CF.out w3 lm0).mono ?_; rintro e w4 ⟨v4, rfl, o4, l4⟩; have lm := lo_on lm0 l4; have lm1 := lm0)))
  all_goals
    (have B3 : Below w.heap.size w w3 := lo_on LL2.out lm1
     have o5 : OwnL w4 w.heap.size v4 made := ownL_mono o4 B3.size
     have B4 : Below w.heap.size w w4 := lo_on B3 l4
     have R4 := Lib.hid (row_is v4 made r hr w4 (loadRow_own o5))
     have O5 := Lib.hid o5
     have B5 := Lib.hid B4
     clear o4 o5 B3 B4 l4 lm lm1 lm0 hl b0 b1 b2 hidx
     go_wp2_with fail
     refine R4.out.mono ?_
     rintro e w5 ⟨rfl, l5⟩
     have O6 := Lib.hid (OwnL.lo O5.out l5)
     have B6 := Lib.hid (lo_on B5.out l5)
     have KF := Lib.hid (show KeptF made = if r = true then made else [] by unfold KeptF; rw [hr])
     clear l5 O5 B5 R4 CF LL2
     cases r
     all_goals
       (go_wp2
        go_ret2
        exact ⟨_, rfl, by rw [KF.out]; first | exact O6.out | exact World.ownsRow_nil _ _ _ _, B6.out⟩))
set_option maxRecDepth 100000 in
set_option maxHeartbeats 1600000 in
theorem make_shifted (x0 x1 : Option Addr) (n0 c0 n1 c1 : Nat) (m : Int) (xs ys made : List (Int × Int)) (w : World) (ha : LoadRow w (.slice x0 n0 c0) xs) (hb : LoadRow w (.slice x1 n1 c1) ys) (hx : rowB xs = true) (hy : rowB ys = true)
    (K : ∀ w1, Below w.heap.size w w1 → Calls Try.prog 68 #[.agg #[.slice x0 n0 c0, .slice x1 n1 c1, .int .i64 m]] w1 fun e w' => ∃ v', e = .returned v' ∧ OwnL w' w1.heap.size v' made ∧ Below w1.heap.size w1 w') :
    Calls Try.prog 38 #[.int .i64 2, .agg #[.slice x0 n0 c0, .slice x1 n1 c1, .int .i64 m]] w fun e w' => ∃ v', e = .returned (.tuple #[v', .bool (rowB made)]) ∧ OwnL w' w.heap.size v' (KeptF made) ∧ Below w.heap.size w w' := by
  have hal : Below w.heap.size w (w.alloc (.cells #[.slice x0 n0 c0, .slice x1 n1 c1, .int .i64 m] 53)) := (Below.refl _ _).alloc (Nat.le_refl _) _
  obtain ⟨r, hr⟩ : ∃ r, rowB made = r := ⟨_, rfl⟩
  rw [hr]
  have R1 := Lib.hid (row_is _ xs true hx _ (ha.lo hal))
  have R2 := Lib.hid (fun w1 (l : Below w.heap.size w w1) => row_is _ ys true hy w1 (hb.lo l))
  have KK := Lib.hid K
  clear ha hb hx hy K hal
  go_enter Try.func38, Try.ntmps38
  go_wp2_with fail
  refine R1.out.mono ?_
  rintro e w1 ⟨rfl, l1⟩
  obtain ⟨a0, a1, a2, az, L1⟩ := three_cells l1
  have R3 := Lib.hid (R2.out w1 L1)
  go_wp2_with fail
  refine R3.out.mono ?_
  rintro e w2 ⟨rfl, l2⟩
  obtain ⟨b0, b1, b2, bz, L2⟩ := three_cells (lo_on l1 l2)
  have LL2 := Lib.hid L2
  have CF := Lib.hid (fun w3 (l : Below w2.heap.size w2 w3) => KK.out w3 (lo_on LL2.out l))
  clear a0 a1 a2 az L1 l1 l2 L2 R1 R2 R3 KK
  have hidx : ∀ w, (Instr.index 75 (.agg #[.func (.func 66) #[] #[], .func (.func 67) #[] #[], .func (.func 68) #[] #[], .func (.func 69) #[] #[]]) (.int .i64 2)).run Try.prog w = .ok (.func (.func 68) #[] #[]) w := by
    intro w
    show _ = _
    kernel_rfl
  go_wp2
  go_region_held3 (fun w' => w'.cell? ⟨w.heap.size, 0, none⟩ = some (.slice x0 n0 c0) ∧ w'.cell? ⟨w.heap.size, 1, none⟩ = some (.slice x1 n1 c1) ∧ w'.cell? ⟨w.heap.size, 2, none⟩ = some (.int .i64 m) ∧ Below w2.heap.size w2 w')
    (first
      | exact ⟨b0, b1, b2, (Below.refl _ _).drew⟩
      | exact ⟨(hl.cell (p := ⟨w.heap.size, 0, none⟩) bz).trans b0, (hl.cell (p := ⟨w.heap.size, 1, none⟩) bz).trans b1, (hl.cell (p := ⟨w.heap.size, 2, none⟩) bz).trans b2, ⟨hl.os, hl.tape, hl.output, hl.size, hl.block⟩⟩
      | exact ⟨(lm.cell (p := ⟨w.heap.size, 0, none⟩) bz).trans b0, (lm.cell (p := ⟨w.heap.size, 1, none⟩) bz).trans b1, (lm.cell (p := ⟨w.heap.size, 2, none⟩) bz).trans b2, lm⟩
      | (refine ⟨?_, ?_, ?_, ?_⟩ <;> assumption))
    ((first
      | (go_at_call 57; refine (rowForms_any _).mono ?_; rintro e w3 ⟨rfl, hl⟩)
      | (go_at_call 68; have lm0 : Below w2.heap.size w2 w3 := ⟨hl.os, hl.tape, hl.output, hl.size, hl.block⟩; refine (CF.out w3 lm0).mono ?_; rintro e w4 ⟨v4, rfl, o4, l4⟩; have lm := lo_on lm0 l4; have lm1 := lm0)))
  all_goals
    (have B3 : Below w.heap.size w w3 := lo_on LL2.out lm1
     have o5 : OwnL w4 w.heap.size v4 made := ownL_mono o4 B3.size
     have B4 : Below w.heap.size w w4 := lo_on B3 l4
     have R4 := Lib.hid (row_is v4 made r hr w4 (loadRow_own o5))
     have O5 := Lib.hid o5
     have B5 := Lib.hid B4
     clear o4 o5 B3 B4 l4 lm lm1 lm0 hl b0 b1 b2 hidx
     go_wp2_with fail
     refine R4.out.mono ?_
     rintro e w5 ⟨rfl, l5⟩
     have O6 := Lib.hid (OwnL.lo O5.out l5)
     have B6 := Lib.hid (lo_on B5.out l5)
     have KF := Lib.hid (show KeptF made = if r = true then made else [] by unfold KeptF; rw [hr])
     clear l5 O5 B5 R4 CF LL2
     cases r
     all_goals
       (go_wp2
        go_ret2
        exact ⟨_, rfl, by rw [KF.out]; first | exact O6.out | exact World.ownsRow_nil _ _ _ _, B6.out⟩))
set_option maxRecDepth 100000 in
set_option maxHeartbeats 1600000 in
theorem make_mirrored (x0 x1 : Option Addr) (n0 c0 n1 c1 : Nat) (m : Int) (xs ys made : List (Int × Int)) (w : World) (ha : LoadRow w (.slice x0 n0 c0) xs) (hb : LoadRow w (.slice x1 n1 c1) ys) (hx : rowB xs = true) (hy : rowB ys = true)
    (K : ∀ w1, Below w.heap.size w w1 → Calls Try.prog 69 #[.agg #[.slice x0 n0 c0, .slice x1 n1 c1, .int .i64 m]] w1 fun e w' => ∃ v', e = .returned v' ∧ OwnL w' w1.heap.size v' made ∧ Below w1.heap.size w1 w') :
    Calls Try.prog 38 #[.int .i64 3, .agg #[.slice x0 n0 c0, .slice x1 n1 c1, .int .i64 m]] w fun e w' => ∃ v', e = .returned (.tuple #[v', .bool (rowB made)]) ∧ OwnL w' w.heap.size v' (KeptF made) ∧ Below w.heap.size w w' := by
  have hal : Below w.heap.size w (w.alloc (.cells #[.slice x0 n0 c0, .slice x1 n1 c1, .int .i64 m] 53)) := (Below.refl _ _).alloc (Nat.le_refl _) _
  obtain ⟨r, hr⟩ : ∃ r, rowB made = r := ⟨_, rfl⟩
  rw [hr]
  have R1 := Lib.hid (row_is _ xs true hx _ (ha.lo hal))
  have R2 := Lib.hid (fun w1 (l : Below w.heap.size w w1) => row_is _ ys true hy w1 (hb.lo l))
  have KK := Lib.hid K
  clear ha hb hx hy K hal
  go_enter Try.func38, Try.ntmps38
  go_wp2_with fail
  refine R1.out.mono ?_
  rintro e w1 ⟨rfl, l1⟩
  obtain ⟨a0, a1, a2, az, L1⟩ := three_cells l1
  have R3 := Lib.hid (R2.out w1 L1)
  go_wp2_with fail
  refine R3.out.mono ?_
  rintro e w2 ⟨rfl, l2⟩
  obtain ⟨b0, b1, b2, bz, L2⟩ := three_cells (lo_on l1 l2)
  have LL2 := Lib.hid L2
  have CF := Lib.hid (fun w3 (l : Below w2.heap.size w2 w3) => KK.out w3 (lo_on LL2.out l))
  clear a0 a1 a2 az L1 l1 l2 L2 R1 R2 R3 KK
  have hidx : ∀ w, (Instr.index 75 (.agg #[.func (.func 66) #[] #[], .func (.func 67) #[] #[], .func (.func 68) #[] #[], .func (.func 69) #[] #[]]) (.int .i64 3)).run Try.prog w = .ok (.func (.func 69) #[] #[]) w := by
    intro w
    show _ = _
    kernel_rfl
  go_wp2
  go_region_held3 (fun w' => w'.cell? ⟨w.heap.size, 0, none⟩ = some (.slice x0 n0 c0) ∧ w'.cell? ⟨w.heap.size, 1, none⟩ = some (.slice x1 n1 c1) ∧ w'.cell? ⟨w.heap.size, 2, none⟩ = some (.int .i64 m) ∧ Below w2.heap.size w2 w')
    (first
      | exact ⟨b0, b1, b2, (Below.refl _ _).drew⟩
      | exact ⟨(hl.cell (p := ⟨w.heap.size, 0, none⟩) bz).trans b0, (hl.cell (p := ⟨w.heap.size, 1, none⟩) bz).trans b1, (hl.cell (p := ⟨w.heap.size, 2, none⟩) bz).trans b2, ⟨hl.os, hl.tape, hl.output, hl.size, hl.block⟩⟩
      | exact ⟨(lm.cell (p := ⟨w.heap.size, 0, none⟩) bz).trans b0, (lm.cell (p := ⟨w.heap.size, 1, none⟩) bz).trans b1, (lm.cell (p := ⟨w.heap.size, 2, none⟩) bz).trans b2, lm⟩
      | (refine ⟨?_, ?_, ?_, ?_⟩ <;> assumption))
    ((first
      | (go_at_call 57; refine (rowForms_any _).mono ?_; rintro e w3 ⟨rfl, hl⟩)
      | (go_at_call 69; have lm0 : Below w2.heap.size w2 w3 := ⟨hl.os, hl.tape, hl.output, hl.size, hl.block⟩; refine (CF.out w3 lm0).mono ?_; rintro e w4 ⟨v4, rfl, o4, l4⟩; have lm := lo_on lm0 l4; have lm1 := lm0)))
  all_goals
    (have B3 : Below w.heap.size w w3 := lo_on LL2.out lm1
     have o5 : OwnL w4 w.heap.size v4 made := ownL_mono o4 B3.size
     have B4 : Below w.heap.size w w4 := lo_on B3 l4
     have R4 := Lib.hid (row_is v4 made r hr w4 (loadRow_own o5))
     have O5 := Lib.hid o5
     have B5 := Lib.hid B4
     clear o4 o5 B3 B4 l4 lm lm1 lm0 hl b0 b1 b2 hidx
     go_wp2_with fail
     refine R4.out.mono ?_
     rintro e w5 ⟨rfl, l5⟩
     have O6 := Lib.hid (OwnL.lo O5.out l5)
     have B6 := Lib.hid (lo_on B5.out l5)
     have KF := Lib.hid (show KeptF made = if r = true then made else [] by unfold KeptF; rw [hr])
     clear l5 O5 B5 R4 CF LL2
     cases r
     all_goals
       (go_wp2
        go_ret2
        exact ⟨_, rfl, by rw [KF.out]; first | exact O6.out | exact World.ownsRow_nil _ _ _ _, B6.out⟩))
set_option maxHeartbeats 800000 in
theorem make_no (f : Int) (x0 x1 : Option Addr) (n0 c0 n1 c1 : Nat) (m : Int) (xs ys : List (Int × Int)) (w : World) (ha : LoadRow w (.slice x0 n0 c0) xs) (hb : LoadRow w (.slice x1 n1 c1) ys) (h : (rowB xs && rowB ys) = false) :
    Calls Try.prog 38 #[.int .i64 f, .agg #[.slice x0 n0 c0, .slice x1 n1 c1, .int .i64 m]] w fun e w' => e = .returned (.tuple #[.slice none 0 0, .bool false]) ∧ Below w.heap.size w w' := by
  have hal : Below w.heap.size w (w.alloc (.cells #[.slice x0 n0 c0, .slice x1 n1 c1, .int .i64 m] 53)) := (Below.refl _ _).alloc (Nat.le_refl _) _
  cases hx : rowB xs with
  | false =>
    have R1 := Lib.hid (row_is _ xs false hx _ (ha.lo hal))
    have HA := Lib.hid hal
    clear ha hb h hx hal
    go_enter Try.func38, Try.ntmps38
    go_wp2_with fail
    refine R1.out.mono ?_
    rintro e w1 ⟨rfl, l1⟩
    have LL := Lib.hid (HA.out.trans (l1.mono (by simp)))
    clear l1
    go_wp2
    go_ret2
    exact ⟨rfl, LL.out⟩
  | true =>
    rw [hx, Bool.true_and] at h
    have R1 := Lib.hid (row_is _ xs true hx _ (ha.lo hal))
    have R2 := Lib.hid (fun w1 (l : Below w.heap.size w w1) => row_is _ ys false h w1 (hb.lo l))
    clear ha hb h hx hal
    go_enter Try.func38, Try.ntmps38
    go_wp2_with fail
    refine R1.out.mono ?_
    rintro e w1 ⟨rfl, l1⟩
    obtain ⟨a0, a1, a2, az, L1⟩ := three_cells l1
    have R3 := Lib.hid (R2.out w1 L1)
    go_wp2_with fail
    refine R3.out.mono ?_
    rintro e w2 ⟨rfl, l2⟩
    have LL := Lib.hid (lo_on L1 l2)
    clear a0 a1 a2 az L1 l1 l2 R1 R2 R3
    go_wp2
    go_ret2
    exact ⟨rfl, LL.out⟩
end Go.Proofs.Ytjchmjbgboeolaa
