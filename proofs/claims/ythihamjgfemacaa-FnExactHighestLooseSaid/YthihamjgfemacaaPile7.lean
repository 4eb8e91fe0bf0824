/- Whether a brick holds: the model's and the program's. -/
import Derived.Test.YthihamjgfemacaaPile6
namespace Go.Proofs.Ythihamjgfemacaa
open Go.RowKit
noncomputable def holdB (p : PileV) (i : Int) : Bool := brickB p i && holdsB p i.toNat
theorem mul_small (a b : Int) (h1 : -2000 ≤ a) (h2 : a ≤ 2000) (h3 : -2000 ≤ b) (h4 : b ≤ 2000) : -4000000 ≤ a * b ∧ a * b ≤ 4000000 := by
  have h : (a * b).natAbs ≤ 2000 * 2000 := by rw [Int.natAbs_mul]; exact Nat.mul_le_mul (by omega) (by omega)
  omega
theorem hold_eq (p : PileV) (i : Int) : holdB p i = (conB p i && (decide (conLo p i * cenB p i ≤ cenA p i) && decide (cenA p i ≤ conHi p i * cenB p i))) := by
  unfold holdB
  by_cases hb : brickB p i = true
  · obtain ⟨hf, k, rfl, hk⟩ := (brickB_iff p i).1 hb
    obtain ⟨s0, s1, s2, s3⟩ := upSum_bounds hf k hk
    rw [hb, Bool.true_and, Int.toNat_natCast, (cen_yes p k hb).1, (cen_yes p k hb).2]
    unfold holdsB
    by_cases hm : lowF p k ≤ highF p k
    · rw [(con_yes p k hm hb).1, (con_yes p k hm hb).2.1, (con_yes p k hm hb).2.2, decide_eq_true hm, Bool.true_and, Bool.true_and,
        decide_eq_decide.2 (cut_ge (upSum p k) (2 * upWei p k) (lowF p k) (by omega)), decide_eq_decide.2 (cut_le (upSum p k) (2 * upWei p k) (highF p k) (by omega))]
    · rw [(con_apart p k (by omega)).1, decide_eq_false hm]; rfl
  · have hb0 : brickB p i = false := by simpa using hb
    rw [hb0, (con_no p i hb0).1]; rfl
theorem con_bounds (p : PileV) (i : Int) : -123 ≤ conLo p i ∧ conLo p i ≤ 123 ∧ -123 ≤ conHi p i ∧ conHi p i ≤ 123 := by
  unfold conLo conHi
  by_cases hb : conB p i = true
  · rw [if_pos hb, if_pos hb]
    have hk : brickB p i = true := by unfold conB at hb; rw [Bool.and_eq_true] at hb; exact hb.1
    obtain ⟨hf, k, rfl, hk'⟩ := (brickB_iff p i).1 hk
    have := contact_bounds hf k hk'
    rw [Int.toNat_natCast]
    omega
  · rw [if_neg hb, if_neg hb]; omega
theorem cen_bounds (p : PileV) (i : Int) : 0 ≤ cenB p i ∧ cenB p i ≤ 1584 ∧ -176000 ≤ cenA p i ∧ cenA p i ≤ 176000 := by
  by_cases hb : brickB p i = true
  · obtain ⟨hf, k, rfl, hk⟩ := (brickB_iff p i).1 hb
    obtain ⟨s0, s1, s2, s3⟩ := upSum_bounds hf k hk
    rw [(cen_yes p k hb).1, (cen_yes p k hb).2]
    have a := cut_size (upSum p k) (2 * upWei p k) (by omega) 176000 (by omega) (by omega)
    have b : (cutB (upSum p k) (2 * upWei p k)).natAbs ≤ (2 * upWei p k).natAbs := by unfold cutB; rw [Int.natAbs_tdiv]; exact Nat.div_le_self _ _
    omega
  · have hb0 : brickB p i = false := by simpa using hb
    rw [(cen_no p i hb0).1, (cen_no p i hb0).2]; omega
set_option maxRecDepth 100000 in
set_option maxHeartbeats 1600000 in
theorem holds_any (v : Value) (p : PileV) (i : Int) (w : World) (hv : PileRow w v p) (hc : PileCap v) (hs : SmallP p) :
    Calls Try.prog 111 #[v, .int .i64 i] w fun e w' => e = .returned (.bool (holdB p i)) ∧ Below w.heap.size w w' := by
  obtain ⟨a, b, c, d, rfl⟩ := hv.form
  obtain ⟨W, hW⟩ : ∃ W, w.alloc (.cells #[.int .i64 p.wd, .slice a p.ls.length c, .slice b p.ws.length d] 63) = W := ⟨_, rfl⟩
  have LW := Lib.hid (show Below w.heap.size w W by rw [← hW]; exact (Below.refl _ _).alloc (Nat.le_refl _) _)
  have BX := Lib.hid (show Box3 W w.heap.size (.int .i64 p.wd) (.slice a p.ls.length c) (.slice b p.ws.length d) by rw [← hW]; exact box3_new _ _ _ _ _)
  have HV := Lib.hid (hv.lo LW.out)
  have C := Lib.hid (contact_any _ p i W HV.out hs)
  have U := Lib.hid (fun w1 (l : Below W.heap.size W w1) => upperCentre_any _ p i w1 (HV.out.lo l) hc hs)
  have HE := hold_eq p i
  obtain ⟨p0, p1, p2, p3⟩ := con_bounds p i
  obtain ⟨q0, q1, q2, q3⟩ := cen_bounds p i
  obtain ⟨r, hr⟩ : ∃ r, holdB p i = r := ⟨_, rfl⟩
  rw [hr] at HE ⊢
  generalize conLo p i = lo at *
  generalize conHi p i = hi at *
  generalize conB p i = bb at *
  generalize cenA p i = ca at *
  generalize cenB p i = cb at *
  generalize brickB p i = bk at *
  have hm1 := mul_small lo cb (by omega) (by omega) (by omega) (by omega)
  have hm2 := mul_small hi cb (by omega) (by omega) (by omega) (by omega)
  have t0 : -9223372036854775808 ≤ lo * cb := by omega
  have t1 : lo * cb ≤ 9223372036854775807 := by omega
  have t2 : -9223372036854775808 ≤ hi * cb := by omega
  have t3 : hi * cb ≤ 9223372036854775807 := by omega
  have HEE := Lib.hid HE
  clear HE hm1 hm2 hv hc hs hr HV
  obtain ⟨_, u0, u1, u2⟩ := BX.out
  go_enter Try.func111, Try.ntmps111
  go_wp2_with fail
  clear hW u0 u1 u2
  refine C.out.mono ?_
  rintro e w1 ⟨rfl, l1⟩
  obtain ⟨_, x0, x1, x2⟩ := BX.out.lo l1
  have U1 := Lib.hid (U.out w1 l1)
  have L1 := Lib.hid (lo_on LW.out l1)
  clear l1 C U BX LW
  go_wp2_with fail
  refine U1.out.mono ?_
  rintro e w2 ⟨rfl, l2⟩
  have L2 := Lib.hid (lo_on L1.out l2)
  obtain ⟨W3, hW3⟩ : ∃ W, w2.alloc (.cells #[.int .i64 ca, .int .i64 cb] 43) = W := ⟨_, rfl⟩
  have L3 := Lib.hid (show Below w.heap.size w W3 by rw [← hW3]; exact L2.out.alloc L2.out.size _)
  obtain ⟨_, y0, y1⟩ := (show Box2 W3 w2.heap.size (.int .i64 ca) (.int .i64 cb) by rw [← hW3]; exact box2_new _ _ _ _)
  clear l2 U1 x0 x1 x2 L1 L2
  cases bb with
  | false =>
    go_wp2
    go_ret
    exact ⟨by rw [HEE.out]; rfl, L3.out⟩
  | true =>
    by_cases h1 : lo * cb ≤ ca
    · by_cases h2 : ca ≤ hi * cb
      all_goals go_wp2
      all_goals go_ret
      all_goals exact ⟨by rw [HEE.out, decide_eq_true h1]; simp <;> omega, L3.out⟩
    · go_wp2
      go_ret
      exact ⟨by rw [HEE.out, show decide (lo * cb ≤ ca) = false from decide_eq_false (by omega)]; rfl, L3.out⟩
set_option maxRecDepth 100000 in
set_option maxHeartbeats 1600000 in
theorem l4Holds_any (v : Value) (p : PileV) (k : Nat) (w : World) (hv : PileRow w v p) (hf : PileF p) (hk : k < p.ls.length) :
    Calls Try.prog 110 #[v, .int .i64 (k : Int)] w fun e w' => e = .returned (.bool (holdsB p k)) ∧ Below w.heap.size w w' := by
  obtain ⟨a, b, c, d, rfl⟩ := hv.form
  obtain ⟨W, hW⟩ : ∃ W, w.alloc (.cells #[.int .i64 p.wd, .slice a p.ls.length c, .slice b p.ws.length d] 63) = W := ⟨_, rfl⟩
  have LW := Lib.hid (show Below w.heap.size w W by rw [← hW]; exact (Below.refl _ _).alloc (Nat.le_refl _) _)
  have BX := Lib.hid (show Box3 W w.heap.size (.int .i64 p.wd) (.slice a p.ls.length c) (.slice b p.ws.length d) by rw [← hW]; exact box3_new _ _ _ _ _)
  have HV := Lib.hid (hv.lo LW.out)
  have C := Lib.hid (l4Contact_any _ p k W HV.out hf hk)
  have U := Lib.hid (fun w1 (l : Below W.heap.size W w1) => l4Upper_any _ p k w1 (HV.out.lo l) hf hk)
  have HE := (show holdsB p k = (decide (lowF p k ≤ highF p k) && (decide (2 * upWei p k * lowF p k ≤ upSum p k) && decide (upSum p k ≤ 2 * upWei p k * highF p k))) from rfl)
  obtain ⟨p0, p1, p2, p3⟩ := contact_bounds hf k hk
  obtain ⟨q0, q1, q2, q3⟩ := upSum_bounds hf k hk
  obtain ⟨r, hr⟩ : ∃ r, holdsB p k = r := ⟨_, rfl⟩
  rw [hr] at HE ⊢
  generalize lowF p k = lo at *
  generalize highF p k = hi at *
  generalize upSum p k = S at *
  generalize upWei p k = V at *
  have hm1 := mul_small (2 * V) lo (by omega) (by omega) (by omega) (by omega)
  have hm2 := mul_small (2 * V) hi (by omega) (by omega) (by omega) (by omega)
  have t0 : -9223372036854775808 ≤ 2 * V * lo := by omega
  have t1 : 2 * V * lo ≤ 9223372036854775807 := by omega
  have t2 : -9223372036854775808 ≤ 2 * V * hi := by omega
  have t3 : 2 * V * hi ≤ 9223372036854775807 := by omega
  have HEE := Lib.hid HE
  clear HE hm1 hm2 hv hf hr HV hk
  obtain ⟨_, u0, u1, u2⟩ := BX.out
  go_enter Try.func110, Try.ntmps110
  go_wp2_with fail
  clear hW u0 u1 u2
  refine C.out.mono ?_
  rintro e w1 ⟨rfl, l1⟩
  obtain ⟨_, x0, x1, x2⟩ := BX.out.lo l1
  have U1 := Lib.hid (U.out w1 l1)
  have L1 := Lib.hid (lo_on LW.out l1)
  clear l1 C U BX LW
  go_wp2_with fail
  refine U1.out.mono ?_
  rintro e w2 ⟨rfl, l2⟩
  have L2 := Lib.hid (lo_on L1.out l2)
  clear l2 U1 x0 x1 x2 L1
  by_cases h0 : lo ≤ hi
  · by_cases h1 : 2 * V * lo ≤ S
    · by_cases h2 : S ≤ 2 * V * hi
      all_goals go_wp2
      all_goals go_ret
      all_goals exact ⟨by rw [HEE.out, decide_eq_true h0, decide_eq_true h1]; simp <;> omega, L2.out⟩
    · go_wp2
      go_ret
      exact ⟨by rw [HEE.out, decide_eq_true h0, show decide (2 * V * lo ≤ S) = false from decide_eq_false (by omega)]; rfl, L2.out⟩
  · go_wp2
    go_ret
    exact ⟨by rw [HEE.out, show decide (lo ≤ hi) = false from decide_eq_false (by omega)]; rfl, L2.out⟩
end Go.Proofs.Ythihamjgfemacaa
