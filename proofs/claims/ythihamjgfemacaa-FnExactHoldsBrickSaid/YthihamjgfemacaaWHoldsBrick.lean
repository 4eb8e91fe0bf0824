/- The walk of the law on HoldsBrick, from contracts of the two functions that it calls. -/
import Derived.Test.YthihamjgfemacaaPileLaw
namespace Go.Proofs.Ythihamjgfemacaa
open Go.RowKit
set_option maxRecDepth 100000 in
set_option maxHeartbeats 6400000 in
theorem exHoldsBrick_walk (p0 : PileV) (la lb : Option Addr) (ca cb : Nat) (a1 : Int) (w : World) (hn0 : p0.ls.length ≤ maxLen) (hm0 : p0.ws.length ≤ maxLen) (hr0 : PileRow w (.agg #[.int .i64 p0.wd, .slice la p0.ls.length ca, .slice lb p0.ws.length cb]) p0) (r0 : Bool) (r1 : Bool)
    (S : SmallP p0 → ∀ (v0 : Value) (w : World), PileRow w v0 p0 → Calls Try.prog 66 #[v0, .int .i64 a1] w (fun e w' => e = .returned (.tuple #[.bool r0, .bool r1]) ∧ Below w.heap.size w w'))
    (I : SmallP p0 → ∀ (v0 : Value) (w : World), PileRow w v0 p0 → PileCap v0 → Calls Try.prog 67 #[v0, .int .i64 a1] w (fun e w' => e = .returned (.tuple #[.bool r0, .bool r1]) ∧ Below w.heap.size w w')) :
    Calls Try.prog 19 #[.agg #[.int .i64 p0.wd, .slice la p0.ls.length ca, .slice lb p0.ws.length cb], .int .i64 a1] w fun e w' => e = .returned (.bool true) ∧ Below w.heap.size w w' := by
  have SP := Lib.hid S
  have IM := Lib.hid I
  clear S I
  have H0 := Lib.hid hr0
  clear hr0
  go_enter Try.func19, Try.ntmps19
  go_wp2_with fail
  obtain ⟨w0, hw0⟩ : ∃ x, w.alloc (.cells #[.int .i64 p0.wd, .slice la p0.ls.length ca, .slice lb p0.ws.length cb] 60) = x := ⟨_, rfl⟩
  have BA := Lib.hid (show Box3 w0 w.heap.size (.int .i64 p0.wd) (.slice la p0.ls.length ca) (.slice lb p0.ws.length cb) by rw [← hw0]; exact box3_new _ _ _ _ _)
  have K0 := Lib.hid (show Below w.heap.size w w0 by rw [← hw0]; exact (Below.refl _ _).alloc (Nat.le_refl _) _)
  have HA := Lib.hid (H0.out.lo K0.out)
  have hz0 : w.heap.size + 1 = w0.heap.size := by rw [← hw0]; simp
  rw [hw0]
  clear hw0 H0
  have L0 := Lib.hid (Below.refl w0.heap.size w0)
  refine (szPile_any la lb ca cb p0 w0 hn0 hm0).mono ?_
  rintro e w1 ⟨z, rfl, l, hneg | ⟨z0, hb⟩⟩
  · go_wp2
    go_ret
    exact ⟨rfl, lo_on K0.out l⟩
  have HB := Lib.hid hb
  clear hb
  have L1 := Lib.hid (lo_on L0.out l)
  clear L0
  have hz1 : w0.heap.size ≤ w1.heap.size := l.size
  clear l
  obtain ⟨_, k1_0, k1_1, k1_2⟩ := BA.out.lo L1.out
  go_wp2_with fail
  clear k1_0 k1_1 k1_2
  refine (toPile_any _ p0 w1 (HA.out.lo L1.out) HB.out).mono ?_
  rintro e w2 ⟨t1, rfl, m, cp, l⟩
  have C_t1 := Lib.hid cp
  clear cp
  have L2 := Lib.hid (lo_on L1.out l)
  clear L1
  have hz2 : w1.heap.size ≤ w2.heap.size := l.size
  obtain ⟨t1a, t1b, t1c, t1d, rfl⟩ := m.row.form
  have X_t1 := Lib.hid m
  clear m l
  go_wp2_with fail
  refine (SP.out HB.out _ w2 X_t1.out.row).mono ?_
  rintro e w3 ⟨rfl, l⟩
  clear X_t1
  have L3 := Lib.hid (lo_on L2.out l)
  clear L2
  have hz3 : w2.heap.size ≤ w3.heap.size := l.size
  clear l
  have LS := L3
  clear L3 SP
  have N3 := Lib.hid (Below.refl w3.heap.size w3)
  obtain ⟨_, k2_0, k2_1, k2_2⟩ := BA.out.lo (lo_on LS.out N3.out)
  go_wp2_with fail
  clear k2_0 k2_1 k2_2
  refine (toPile_any _ p0 w3 (HA.out.lo (lo_on LS.out N3.out)) HB.out).mono ?_
  rintro e w4 ⟨x0, rfl, m, cp, l⟩
  have C_x0 := Lib.hid cp
  clear cp
  have N4 := Lib.hid (lo_on N3.out l)
  clear N3
  have hz4 : w3.heap.size ≤ w4.heap.size := l.size
  obtain ⟨x0a, x0b, x0c, x0d, rfl⟩ := m.row.form
  have X_x0 := Lib.hid m
  clear m l
  go_wp2_with fail
  obtain ⟨w5, hb⟩ : ∃ x, w4.alloc (.cells #[.int .i64 p0.wd, .slice x0a p0.ls.length x0c, .slice x0b p0.ws.length x0d] 63) = x := ⟨_, rfl⟩
  have bx := Lib.hid (show Box3 w5 w4.heap.size (.int .i64 p0.wd) (.slice x0a p0.ls.length x0c) (.slice x0b p0.ws.length x0d) by rw [← hb]; exact box3_new _ _ _ _  _)
  have l : Below w4.heap.size w4 w5 := by rw [← hb]; exact (Below.refl _ _).alloc (Nat.le_refl _) _
  have hz5 : w4.heap.size + 1 = w5.heap.size := by rw [← hb]; simp
  rw [hb]
  clear hb
  have N5 := Lib.hid (lo_on N4.out l)
  clear N4
  have x0_5 := Lib.hid (X_x0.out.lo l)
  clear X_x0
  have X_bx0 := Lib.hid bx.out
  clear bx l
  refine (IM.out HB.out _ w5 x0_5.out.row C_x0.out).mono ?_
  rintro e w6 ⟨rfl, l⟩
  have N6 := Lib.hid (lo_on N5.out l)
  clear N5
  have hz6 : w5.heap.size ≤ w6.heap.size := l.size
  have x0_6 := Lib.hid (x0_5.out.lo l)
  clear x0_5
  have bx0_6 := Lib.hid (X_bx0.out.lo l)
  clear X_bx0
  clear l
  obtain ⟨bA, ka0, ka1, ka2⟩ := BA.out.lo (lo_on LS.out N6.out)
  obtain ⟨bX, kx0, kx1, kx2⟩ := bx0_6.out
  have RT := Lib.hid (fun w' (l : Below w6.heap.size w6 w') => toPile_any _ p0 w' (HA.out.lo (lo_on (lo_on LS.out N6.out) l)) HB.out)
  have RE := Lib.hid (fun t w' (l : Below w6.heap.size w6 w') (h : PileRow w' t p0) => eqPile_same _ t p0 w' (x0_6.out.row.lo l) h HB.out)
  go_wp2_with fail
  go_region_held3 (fun w' => w'.cell? ⟨w.heap.size, 0, none⟩ = some (.int .i64 p0.wd) ∧ w'.cell? ⟨w.heap.size, 1, none⟩ = some (.slice la p0.ls.length ca) ∧ w'.cell? ⟨w.heap.size, 2, none⟩ = some (.slice lb p0.ws.length cb) ∧ w'.cell? ⟨w4.heap.size, 0, none⟩ = some (.int .i64 p0.wd) ∧ w'.cell? ⟨w4.heap.size, 1, none⟩ = some (.slice x0a p0.ls.length x0c) ∧ w'.cell? ⟨w4.heap.size, 2, none⟩ = some (.slice x0b p0.ws.length x0d))
    (first
      | exact ⟨(hl.cell (p := ⟨w.heap.size, 0, none⟩) bA).trans ka0, (hl.cell (p := ⟨w.heap.size, 1, none⟩) bA).trans ka1, (hl.cell (p := ⟨w.heap.size, 2, none⟩) bA).trans ka2, (hl.cell (p := ⟨w4.heap.size, 0, none⟩) bX).trans kx0, (hl.cell (p := ⟨w4.heap.size, 1, none⟩) bX).trans kx1, (hl.cell (p := ⟨w4.heap.size, 2, none⟩) bX).trans kx2⟩
      | exact ⟨(hl6.cell (p := ⟨w.heap.size, 0, none⟩) (Nat.lt_of_lt_of_le bA hl.size)).trans ((hl.cell (p := ⟨w.heap.size, 0, none⟩) bA).trans ka0), (hl6.cell (p := ⟨w.heap.size, 1, none⟩) (Nat.lt_of_lt_of_le bA hl.size)).trans ((hl.cell (p := ⟨w.heap.size, 1, none⟩) bA).trans ka1), (hl6.cell (p := ⟨w.heap.size, 2, none⟩) (Nat.lt_of_lt_of_le bA hl.size)).trans ((hl.cell (p := ⟨w.heap.size, 2, none⟩) bA).trans ka2), (hl6.cell (p := ⟨w4.heap.size, 0, none⟩) (Nat.lt_of_lt_of_le bX hl.size)).trans ((hl.cell (p := ⟨w4.heap.size, 0, none⟩) bX).trans kx0), (hl6.cell (p := ⟨w4.heap.size, 1, none⟩) (Nat.lt_of_lt_of_le bX hl.size)).trans ((hl.cell (p := ⟨w4.heap.size, 1, none⟩) bX).trans kx1), (hl6.cell (p := ⟨w4.heap.size, 2, none⟩) (Nat.lt_of_lt_of_le bX hl.size)).trans ((hl.cell (p := ⟨w4.heap.size, 2, none⟩) bX).trans kx2)⟩
      | go_keep)
    (first
      | (go_at_call 63; refine (RT.out _ (drew_below w6)).mono ?_; rintro e v5 ⟨t5, rfl, m5, _, hl⟩)
      | (go_at_call 65; refine (RE.out _ _ (lo_on (drew_below w6) hl) m5.row).mono ?_; rintro e v6 ⟨rfl, hl6⟩))
  obtain ⟨w7, hw6⟩ : ∃ x, v6 = x := ⟨_, rfl⟩
  have l : Below w6.heap.size w6 w7 := by rw [← hw6]; exact lo_on (lo_on (drew_below w6) hl) hl6
  rw [hw6]
  clear hw6 hl hl6 m5 RT RE bA ka0 ka1 ka2 bX kx0 kx1 kx2
  have N7 := Lib.hid (lo_on N6.out l)
  clear N6
  have hz7 : w6.heap.size ≤ w7.heap.size := l.size
  have x0_7 := Lib.hid (x0_6.out.lo l)
  clear x0_6
  have bx0_7 := Lib.hid (bx0_6.out.lo l)
  clear bx0_6
  clear l
  go_wp2
  go_ret
  exact ⟨rfl, lo_on K0.out (lo_on LS.out N7.out)⟩
end Go.Proofs.Ythihamjgfemacaa
