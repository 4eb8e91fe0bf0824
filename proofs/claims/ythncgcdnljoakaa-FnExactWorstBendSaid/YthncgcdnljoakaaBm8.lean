/- The contracts of the model's functions on shears, bends and influences. -/
import Derived.Test.YthncgcdnljoakaaBm7
import Derived.Test.YthncgcdnljoakaaFrac
namespace Go.Proofs.Ythncgcdnljoakaa
open Go.RowKit
theorem quiet_same {P : Program} {f : FuncId} {args : Array Value} {w : World} {v : Value} (h : ∀ w, Calls P f args w fun e w' => e = .returned v ∧ w' = w) (n x : Nat) :
    Calls P f args (w.drewN (n + x)) fun e w'' => e = .returned v ∧ ∃ y, w'' = w.drewN (n + y) :=
  (h _).mono fun _ _ ⟨he, hq⟩ => ⟨he, x, hq⟩
def shearR (p : BeamV) (xs : List (Int × Int)) : List Int := if onB p xs = true then rowOf (fun q : Nat => shL (q : Int) (fsF p xs)) p.l.toNat else []
def bendR (p : BeamV) (xs : List (Int × Int)) : List Int := if onB p xs = true then rowOf (fun q : Nat => bdL (q : Int) (fsF p xs)) (p.l.toNat + 1) else []
theorem onF_len {p : BeamV} {xs : List (Int × Int)} (h : OnF p xs) : p.l = (p.l.toNat : Int) ∧ 1 ≤ p.l.toNat ∧ p.l.toNat ≤ 60 := by have := h.l0; have := h.l1; omega
theorem shearR_len (p : BeamV) (xs : List (Int × Int)) : (shearR p xs).length ≤ 2000000 := by
  unfold shearR
  split
  · rename_i h; rw [rowOf_len]; have := onF_len ((onB_iff p xs).1 h); omega
  · simp
theorem bendR_len (p : BeamV) (xs : List (Int × Int)) : (bendR p xs).length ≤ 2000000 := by
  unfold bendR
  split
  · rename_i h; rw [rowOf_len]; have := onF_len ((onB_iff p xs).1 h); omega
  · simp
set_option maxHeartbeats 800000 in
theorem specShear_any (p : BeamV) (v : Value) (xs : List (Int × Int)) (w : World) (hr : LoadRow w v xs) :
    Calls Try.prog 30 #[.agg #[.int .i64 p.l, .int .i64 p.a, .int .i64 p.b], v] w fun e w' => ∃ u, e = .returned (.tuple #[u, .bool (onB p xs)]) ∧ IntRow w' u (shearR p xs) ∧ Below w.heap.size w w' := by
  have C := Lib.hid (fun w1 (l : Below w.heap.size w w1) => l6On_any p v xs w1 (hr.lo l))
  have S := Lib.hid (fun (h : onB p xs = true) w1 (l : Below w.heap.size w w1) => l6Shears_any p p.l.toNat (onF_len ((onB_iff p xs).1 h)).1 v xs w1 (hr.lo l) ((onB_iff p xs).1 h))
  unfold shearR
  generalize onB p xs = r at *
  generalize fsF p xs = fs at *
  clear hr
  obtain ⟨l, a, b⟩ := p
  simp only at C S ⊢
  obtain ⟨W, hW⟩ : ∃ W, w.alloc (.cells #[.int .i64 l, .int .i64 a, .int .i64 b] 25) = W := ⟨_, rfl⟩
  have LW := Lib.hid (show Below w.heap.size w W by rw [← hW]; exact below_new _ _)
  have BX := Lib.hid (show Cel3 W w.heap.size (.int .i64 l) (.int .i64 a) (.int .i64 b) by rw [← hW]; exact cel3_new _ _ _ _ _)
  obtain ⟨_, u0, u1, u2⟩ := BX.out
  cases r with
  | false =>
    go_enter Try.func30, Try.ntmps30
    go_wp2_with fail
    clear hW
    refine (C.out W LW.out).mono ?_
    rintro e w1 ⟨rfl, l1⟩
    have L1 := Lib.hid (lo_on LW.out l1)
    clear l1 C S u0 u1 u2
    go_wp2
    go_ret2
    exact ⟨_, rfl, by simpa using intRow_nil _ _ _, lo_on L1.out (below_new _ _)⟩
  | true =>
    go_enter Try.func30, Try.ntmps30
    go_wp2_with fail
    clear hW
    refine (C.out W LW.out).mono ?_
    rintro e w1 ⟨rfl, l1⟩
    have L1 := Lib.hid (lo_on LW.out l1)
    have SS := Lib.hid (S.out trivial w1 L1.out)
    obtain ⟨_, x0, x1, x2⟩ := BX.out.lo l1
    clear l1 C S u0 u1 u2
    go_wp2_with fail
    refine SS.out.mono ?_
    rintro e w2 ⟨u, rfl, m, l2⟩
    have M := Lib.hid m.row
    have L2 := Lib.hid (lo_on L1.out l2)
    clear m l2 SS x0 x1 x2
    go_wp2
    go_ret2
    exact ⟨_, rfl, by simpa using M.out, L2.out⟩
set_option maxHeartbeats 800000 in
theorem specBend_any (p : BeamV) (v : Value) (xs : List (Int × Int)) (w : World) (hr : LoadRow w v xs) :
    Calls Try.prog 36 #[.agg #[.int .i64 p.l, .int .i64 p.a, .int .i64 p.b], v] w fun e w' => ∃ u, e = .returned (.tuple #[u, .bool (onB p xs)]) ∧ IntRow w' u (bendR p xs) ∧ Below w.heap.size w w' := by
  have C := Lib.hid (fun w1 (l : Below w.heap.size w w1) => l6On_any p v xs w1 (hr.lo l))
  have S := Lib.hid (fun (h : onB p xs = true) w1 (l : Below w.heap.size w w1) => l6Bends_any p p.l.toNat (onF_len ((onB_iff p xs).1 h)).1 v xs w1 (hr.lo l) ((onB_iff p xs).1 h))
  unfold bendR
  generalize onB p xs = r at *
  generalize fsF p xs = fs at *
  clear hr
  obtain ⟨l, a, b⟩ := p
  simp only at C S ⊢
  obtain ⟨W, hW⟩ : ∃ W, w.alloc (.cells #[.int .i64 l, .int .i64 a, .int .i64 b] 25) = W := ⟨_, rfl⟩
  have LW := Lib.hid (show Below w.heap.size w W by rw [← hW]; exact below_new _ _)
  have BX := Lib.hid (show Cel3 W w.heap.size (.int .i64 l) (.int .i64 a) (.int .i64 b) by rw [← hW]; exact cel3_new _ _ _ _ _)
  obtain ⟨_, u0, u1, u2⟩ := BX.out
  cases r with
  | false =>
    go_enter Try.func36, Try.ntmps36
    go_wp2_with fail
    clear hW
    refine (C.out W LW.out).mono ?_
    rintro e w1 ⟨rfl, l1⟩
    have L1 := Lib.hid (lo_on LW.out l1)
    clear l1 C S u0 u1 u2
    go_wp2
    go_ret2
    exact ⟨_, rfl, by simpa using intRow_nil _ _ _, lo_on L1.out (below_new _ _)⟩
  | true =>
    go_enter Try.func36, Try.ntmps36
    go_wp2_with fail
    clear hW
    refine (C.out W LW.out).mono ?_
    rintro e w1 ⟨rfl, l1⟩
    have L1 := Lib.hid (lo_on LW.out l1)
    have SS := Lib.hid (S.out trivial w1 L1.out)
    obtain ⟨_, x0, x1, x2⟩ := BX.out.lo l1
    clear l1 C S u0 u1 u2
    go_wp2_with fail
    refine SS.out.mono ?_
    rintro e w2 ⟨u, rfl, m, l2⟩
    have M := Lib.hid m.row
    have L2 := Lib.hid (lo_on L1.out l2)
    clear m l2 SS x0 x1 x2
    go_wp2
    go_ret2
    exact ⟨_, rfl, by simpa using M.out, L2.out⟩
/-- The size of a bend. -/
def szZ (z : Int) : Int := if -z < z then z else -z
theorem szZ_bound {z : Int} (h0 : -59875200 ≤ z) (h1 : z ≤ 59875200) : 0 ≤ szZ z ∧ szZ z ≤ 59875200 := by unfold szZ; split <;> omega
def gbR (p : BeamV) (xs : List (Int × Int)) : Int × Int := if onB p xs = true then gbF (fun q : Nat => szZ (bdL (q : Int) (fsF p xs))) (p.l.toNat + 1) else (0, 0)
set_option maxRecDepth 100000 in
set_option maxHeartbeats 1600000 in
theorem specGb_yes (p : BeamV) (L : Nat) (hL : p.l = (L : Int)) (v : Value) (xs : List (Int × Int)) (w : World) (hr : LoadRow w v xs) (hf : OnF p xs) :
    Calls Try.prog 38 #[.agg #[.int .i64 p.l, .int .i64 p.a, .int .i64 p.b], v] w fun e w' => e = .returned (.tuple #[.int .i64 (gbF (fun q : Nat => szZ (bdL (q : Int) (fsF p xs))) (L + 1)).1, .int .i64 (gbF (fun q : Nat => szZ (bdL (q : Int) (fsF p xs))) (L + 1)).2, .bool true]) ∧ Below w.heap.size w w' := by
  have C := Lib.hid (fun w1 (l : Below w.heap.size w w1) => l6On_is p v xs true ((onB_iff p xs).2 hf) w1 (hr.lo l))
  have S := Lib.hid (fun w1 (l : Below w.heap.size w w1) => l6Bends_any p L hL v xs w1 (hr.lo l) hf)
  have hl1 := hf.l1
  rw [hL] at hl1
  have HD := Lib.hid (fcF_bounds (fsF_fc hf)).2
  clear hr hf
  generalize fsF p xs = fs at *
  have HGB := Lib.hid (fun k (hk : k ≤ L + 1) => gbF_bound (fun q : Nat => szZ (bdL (q : Int) fs)) 59875200 k (by omega) (fun j hj => (szZ_bound (HD.out _ (by omega)).1 (HD.out _ (by omega)).2).2))
  have HST := Lib.hid (fun k : Nat => show gbF (fun q : Nat => szZ (bdL (q : Int) fs)) (k + 1) = if (gbF (fun q : Nat => szZ (bdL (q : Int) fs)) k).1 < szZ (bdL (k : Int) fs) then (szZ (bdL (k : Int) fs), (k : Int)) else gbF (fun q : Nat => szZ (bdL (q : Int) fs)) k from rfl)
  have HG0 := Lib.hid (show gbF (fun q : Nat => szZ (bdL (q : Int) fs)) 0 = (0, 0) from rfl)
  generalize hG : gbF (fun q : Nat => szZ (bdL (q : Int) fs)) = G at *
  clear hG
  obtain ⟨l, a, b⟩ := p
  simp only at C S hL ⊢
  subst hL
  obtain ⟨W, hW⟩ : ∃ W, w.alloc (.cells #[.int .i64 (L : Int), .int .i64 a, .int .i64 b] 25) = W := ⟨_, rfl⟩
  have LW := Lib.hid (show Below w.heap.size w W by rw [← hW]; exact below_new _ _)
  have BX := Lib.hid (show Cel3 W w.heap.size (.int .i64 (L : Int)) (.int .i64 a) (.int .i64 b) by rw [← hW]; exact cel3_new _ _ _ _ _)
  obtain ⟨_, u0, u1, u2⟩ := BX.out
  go_enter Try.func38, Try.ntmps38
  go_wp2_with fail
  clear hW
  refine (C.out W LW.out).mono ?_
  rintro e w1 ⟨rfl, l1⟩
  have L1 := Lib.hid (lo_on LW.out l1)
  have SS := Lib.hid (S.out w1 L1.out)
  obtain ⟨_, x0, x1, x2⟩ := BX.out.lo l1
  clear l1 C S u0 u1 u2 BX
  go_wp2_with fail
  refine SS.out.mono ?_
  rintro e w2 ⟨fu, rfl, m, l2⟩
  have hlen : (rowOf (fun q : Nat => bdL (q : Int) fs) (L + 1)).length = L + 1 := rowOf_len _ _
  obtain ⟨g, c, rfl, hg1, hg2, _, hc, _⟩ := mineI_open m (by rw [hlen]; omega)
  rw [hlen] at hc ⊢
  have HC := Lib.hid (fun j (hj : j < L + 1) => show w2.cell? ⟨g, j, none⟩ = some (.int .i64 (bdL (j : Int) fs)) by rw [hc j hj, rowOf_at _ _ _ hj])
  have L2 := Lib.hid (lo_on L1.out l2)
  clear m l2 SS x0 x1 x2 hc hlen L1
  go_wp2
  go_loopw [8, 9, 10] (fun x y i wr => ∃ k n : Nat, k ≤ L + 1 ∧ i = .int .i64 k ∧ x = .int .i64 (G k).1 ∧ y = .int .i64 (G k).2 ∧ wr = w2.drewN n) (fun _ _ i _ => L + 1 - (intOf i).toNat)
  case atStart => exact ⟨0, 0, Nat.zero_le _, rfl, by rw [HG0.out], by rw [HG0.out], rfl⟩
  case round =>
    obtain ⟨k, n, hk, rfl, rfl, rfl, rfl⟩ := hrel
    have hb := HGB.out k hk
    by_cases hlt : k < L + 1
    · have hcf := HC.out k hlt
      have hlt' : (k : Int) < (L : Int) + 1 := by omega
      have b2 := HD.out (k : Int) (by omega)
      have b3 := szZ_bound b2.1 b2.2
      have HSk := Lib.hid (HST.out k)
      obtain ⟨z0, z1⟩ := b2
      generalize hz : bdL (k : Int) fs = z at *
      have hnz : IntKind.i64.wrap (-z) = -z := by rw [IntKind.wrap_i64]; omega
      have HM := Lib.hid (fun w => show Calls Try.prog 91 #[.int .i64 z, .int .i64 (-z)] w fun e w' => e = .returned (.int .i64 (szZ z)) ∧ w' = w from (l1Most_any z (-z) w).mono fun _ _ ⟨h, k⟩ => ⟨h, k.symm⟩)
      generalize szZ z = s at *
      obtain ⟨x, hx⟩ : ∃ x, (G k).1 = x := ⟨_, rfl⟩
      obtain ⟨y, hy⟩ : ∃ y, (G k).2 = y := ⟨_, rfl⟩
      rw [hx] at hb HSk ⊢
      rw [hy] at hb ⊢
      have HX := Lib.hid hx
      have HY := Lib.hid hy
      clear hz hx hy
      by_cases hgt : x < s
      · go_wp2
        go_quiet ((go_at_call 91; exact quiet_same HM.out _ _))
        go_wp2
        go_roundw
        case rel => exact ⟨k + 1, _, by omega, by go_num, by rw [HSk.out, if_pos hgt], by rw [HSk.out, if_pos hgt], rfl⟩
        case measure => simp [intOf]; omega
      · go_wp2
        go_quiet ((go_at_call 91; exact quiet_same HM.out _ _))
        go_wp2
        go_roundw
        case rel => exact ⟨k + 1, _, by omega, by go_num, by rw [HSk.out, if_neg (by omega), HX.out], by rw [HSk.out, if_neg (by omega), HY.out], rfl⟩
        case measure => simp [intOf]; omega
    · obtain rfl : k = L + 1 := by omega
      have hge : ¬ ((L : Int) + 1) < (L : Int) + 1 := by omega
      go_wp2
      go_ret3
      exact ⟨rfl, lo_drewN L2.out _⟩
set_option maxHeartbeats 800000 in
theorem specGb_no (p : BeamV) (v : Value) (xs : List (Int × Int)) (w : World) (hr : LoadRow w v xs) (hf : onB p xs = false) :
    Calls Try.prog 38 #[.agg #[.int .i64 p.l, .int .i64 p.a, .int .i64 p.b], v] w fun e w' => e = .returned (.tuple #[.int .i64 0, .int .i64 0, .bool false]) ∧ Below w.heap.size w w' := by
  have C := Lib.hid (fun w1 (l : Below w.heap.size w w1) => l6On_is p v xs false hf w1 (hr.lo l))
  clear hr hf
  obtain ⟨l, a, b⟩ := p
  simp only at C ⊢
  obtain ⟨W, hW⟩ : ∃ W, w.alloc (.cells #[.int .i64 l, .int .i64 a, .int .i64 b] 25) = W := ⟨_, rfl⟩
  have LW := Lib.hid (show Below w.heap.size w W by rw [← hW]; exact below_new _ _)
  have BX := Lib.hid (show Cel3 W w.heap.size (.int .i64 l) (.int .i64 a) (.int .i64 b) by rw [← hW]; exact cel3_new _ _ _ _ _)
  obtain ⟨_, u0, u1, u2⟩ := BX.out
  go_enter Try.func38, Try.ntmps38
  go_wp2_with fail
  clear hW
  refine (C.out W LW.out).mono ?_
  rintro e w1 ⟨rfl, l1⟩
  go_wp2
  go_ret3
  exact ⟨rfl, lo_on LW.out l1⟩
theorem specGb_any (p : BeamV) (v : Value) (xs : List (Int × Int)) (w : World) (hr : LoadRow w v xs) :
    Calls Try.prog 38 #[.agg #[.int .i64 p.l, .int .i64 p.a, .int .i64 p.b], v] w fun e w' => e = .returned (.tuple #[.int .i64 (gbR p xs).1, .int .i64 (gbR p xs).2, .bool (onB p xs)]) ∧ Below w.heap.size w w' := by
  unfold gbR
  cases h : onB p xs with
  | true => simpa using specGb_yes p p.l.toNat (onF_len ((onB_iff p xs).1 h)).1 v xs w hr ((onB_iff p xs).1 h)
  | false => simpa using specGb_no p v xs w hr h
/-- A place on a beam. -/
def plB (p : BeamV) (q : Int) : Bool := beamB p && (decide (0 ≤ q) && decide (q ≤ p.l))
structure PlF (p : BeamV) (q : Int) : Prop where
  l0 : 1 ≤ p.l
  l1 : p.l ≤ 60
  a0 : 0 ≤ p.a
  ab : p.a < p.b
  b1 : p.b ≤ p.l
  q0 : 0 ≤ q
  q1 : q ≤ p.l
theorem plB_iff (p : BeamV) (q : Int) : plB p q = true ↔ PlF p q := by
  unfold plB
  rw [Bool.and_eq_true, beamB_iff]
  simp only [Bool.and_eq_true, decide_eq_true_eq]
  exact ⟨fun ⟨⟨h1, h2, h3, h4, h5⟩, h6, h7⟩ => ⟨h1, h2, h3, h4, h5, h6, h7⟩, fun h => ⟨⟨h.l0, h.l1, h.a0, h.ab, h.b1⟩, h.q0, h.q1⟩⟩
theorem one_on {p : BeamV} {q x : Int} (h : PlF p q) (x0 : 0 ≤ x) (x1 : x ≤ p.l) : OnF p [(x, 1)] :=
  ⟨h.l0, h.l1, h.a0, h.ab, h.b1, ⟨by simp, fun y hy => by simp at hy; subst hy; have := h.l1; simp only; omega⟩, fun y hy => by simp at hy; subst hy; exact x1⟩
theorem row_one (w : World) (x z : Int) (t : TypeId) : LoadRow (w.alloc (.cells #[.int .i64 x, .int .i64 z] t)) (.slice (some ⟨w.heap.size, 0, none⟩) 1 1) [(x, z)] :=
  ⟨_, _, rfl, .inr ⟨_, 0, rfl, by simp, fun j hj => by
    obtain rfl : j = 0 := by simpa using hj
    exact ⟨(World.cell?_alloc_at _ _ _ _ rfl).trans rfl, (World.cell?_alloc_at _ _ _ _ rfl).trans rfl⟩⟩⟩
theorem GrowI.app2 {V w u w' : World} {C B k g cap : Nat} {v : Value} {ys : List Int} {x : Int} (h : GrowI V C B w v ys) (hk : ys.length = k) (hu : Below w.heap.size w u) (hg : u.grownBy w' v.ownBlock)
    (hown : w'.ownsRow B 3 1 (.slice (some ⟨g, 0, none⟩) (k + 1) cap) (k + 1) (icells ys ++ [.int .i64 x])) (hat : v.ownBlock = some g ∨ w.heap.size ≤ g) : GrowI V C B w' (.slice (some ⟨g, 0, none⟩) (k + 1) cap) (ys ++ [x]) := by
  refine ⟨ownI_snoc hown hk, fun q hq => ?_, only_grow h.only hu hg h.apart⟩
  have hq' : g = q := by simpa [Value.ownBlock] using hq
  subst hq'
  rcases hat with h1 | h1
  · exact h.apart g h1
  · right; have := h.only.size; omega
theorem GrowI.own_lo {V w u : World} {C B : Nat} {v : Value} {ys : List Int} (h : GrowI V C B w v ys) (l : Below w.heap.size w u) : u.ownsRow B 3 1 v ys.length (icells ys) := owns_lo h.own l
set_option maxRecDepth 100000 in
set_option maxHeartbeats 3200000 in
theorem l6Influence_any (p : BeamV) (L Q : Nat) (hL : p.l = (L : Int)) (q : Int) (hQ : q = (Q : Int)) (w : World) (hf : PlF p q) :
    Calls Try.prog 93 #[.agg #[.int .i64 p.l, .int .i64 p.a, .int .i64 p.b], .int .i64 q] w fun e w' => ∃ u, e = .returned u ∧ MineI w' w.heap.size w'.heap.size u (rowOf (fun x : Nat => inF p q (x : Int)) (L + 1)) ∧ Below w.heap.size w w' := by
  obtain ⟨i0, hi, hz0, hz1, hz2⟩ := info_parts infoInt
  have hl1 := hf.l1
  have hq1 := hf.q1
  have HLs := Lib.hid (fun k : Nat => rowOf_len (fun x : Nat => inF p q (x : Int)) k)
  have HZ := Lib.hid (show rowOf (fun x : Nat => inF p q (x : Int)) 0 = [] from rfl)
  have HK2 := Lib.hid (fun k : Nat => show rowOf (fun x : Nat => inF p q (x : Int)) (k + 1) = rowOf (fun x : Nat => inF p q (x : Int)) k ++ [inF p q (k : Int)] from rowOf_succ _ _)
  have S2 := Lib.hid (fun (x : Nat) (hx : (x : Int) ≤ p.l) w1 v (hr : LoadRow w1 v [((x : Int), 1)]) => show Calls Try.prog 89 #[.agg #[.int .i64 p.l, .int .i64 p.a, .int .i64 p.b], v] w1 fun e w' => ∃ u T, e = .returned u ∧ (MineI w' w1.heap.size w'.heap.size u T ∧ T.getD Q 0 = inF p q (x : Int) ∧ T.length = L + 1) ∧ Below w1.heap.size w1 w' from (l6Bends_any p L hL v [((x : Int), 1)] w1 hr (one_on hf (by omega) hx)).mono fun _ _ ⟨u, h1, h2, h3⟩ => ⟨u, _, h1, ⟨h2, by rw [rowOf_at _ _ _ (by omega), hQ]; rfl, rowOf_len _ _⟩, h3⟩)
  generalize rowOf (fun x : Nat => inF p q (x : Int)) = R at *
  generalize inF p q = F at *
  clear hf
  obtain ⟨l, a, b⟩ := p
  simp only at hL S2 hl1 hq1 ⊢
  subst hL hQ
  obtain ⟨W, hW⟩ : ∃ W, w.alloc (.cells #[.int .i64 (L : Int), .int .i64 a, .int .i64 b] 25) = W := ⟨_, rfl⟩
  have LW := Lib.hid (show Below w.heap.size w W by rw [← hW]; exact below_new _ _)
  have BX := Lib.hid (show Cel3 W w.heap.size (.int .i64 (L : Int)) (.int .i64 a) (.int .i64 b) by rw [← hW]; exact cel3_new _ _ _ _ _)
  obtain ⟨_, u0, u1, u2⟩ := BX.out
  obtain ⟨W1, hW1⟩ : ∃ W1, W.alloc (.cells #[] 3) = W1 := ⟨_, rfl⟩
  have L1 := Lib.hid (show Below W.heap.size W W1 by rw [← hW1]; exact below_new _ _)
  have hs1 : W1.heap.size = W.heap.size + 1 := by rw [← hW1]; simp
  have hws : w.heap.size < W.heap.size := BX.out.1
  have O1 := Lib.hid (show GrowI W1 W.heap.size W.heap.size W1 (.slice (some ⟨W.heap.size, 0, none⟩) 0 0) (R 0) from ⟨by rw [HZ.out, ← hW1]; exact ownI_lit0 _ _ (Nat.le_refl _), fun q hq => .inl (by simpa [Value.ownBlock] using hq.symm), Only.refl _ _⟩)
  have B1 := Lib.hid (BX.out.lo L1.out)
  go_enter Try.func93, Try.ntmps93
  go_wp2
  clear hW1 hW u0 u1 u2 BX
  go_loopw [5, 6] (fun v i wr => ∃ k : Nat, k ≤ L + 1 ∧ i = .int .i64 k ∧ Hid (GrowI W1 W.heap.size W.heap.size wr v (R k))) (fun _ i _ => L + 1 - (intOf i).toNat)
  case atStart => exact ⟨0, Nat.zero_le _, rfl, O1⟩
  case round =>
    obtain ⟨k, hk, rfl, HG⟩ := hrel
    clear O1
    have x0 := HG.out.only.cell (p := ⟨w.heap.size, 0, none⟩) (by simp only; omega) B1.out.1
    rw [B1.out.2.1] at x0
    have x1 := HG.out.only.cell (p := ⟨w.heap.size, 1, none⟩) (by simp only; omega) B1.out.1
    rw [B1.out.2.2.1] at x1
    have x2 := HG.out.only.cell (p := ⟨w.heap.size, 2, none⟩) (by simp only; omega) B1.out.1
    rw [B1.out.2.2.2] at x2
    by_cases hlt : k < L + 1
    · have hlt' : (k : Int) ≤ (L : Int) := by omega
      have SK := Lib.hid (S2.out k (by omega) (wr.alloc (.cells #[.int .i64 (k : Int), .int .i64 1] 78)) _ (row_one wr k 1 _))
      go_wp2_with fail
      refine SK.out.mono ?_
      rintro e w2 ⟨fu, T, rfl, ⟨m, hv1, hv2⟩, l2⟩
      obtain ⟨g, c, rfl, hg1, hg2, _, hc, _⟩ := mineI_open m (by rw [hv2]; omega)
      rw [hv2] at hc ⊢
      have hcf := hc Q (by omega)
      rw [hv1] at hcf
      have hQi : (Q : Int) < (L : Int) + 1 := by omega
      have LB := Lib.hid (lo_on (below_new wr _) l2)
      have hown := HG.out.own_lo LB.out
      rw [HLs.out] at hown
      have HKk := Lib.hid (HK2.out k)
      have HLk := Lib.hid (HLs.out k)
      have hsw := LB.out.size
      have hgw := HG.out.only.size
      generalize F (k : Int) = z at *
      generalize R k = ys at *
      clear m hc SK hv1 hv2 x0 x1 x2
      go_wp2_with (at_builtin; refine wpList_append_lies _ rfl _ _ 38 rfl W.heap.size 3 i0 (.int .i64 0) 1 8 Try.underlying38 hi hz0 hz1 hz2 rfl (by decide) _ _ _ rfl (hown.alloc _) ⟨w2.heap.size, 0, none⟩ 1 1 [.int .i64 z] rfl rfl (cell_one_new _ _ _) (fun x hx => by simp at hx; subst hx; rfl) (by omega) (by unfold maxLen; omega) (by omega) (by simp; omega) (w2.heap.size + 1) (by simp) ?_; intro gg cap w3 hown3 hgrow3 hat3 hlt3)
      have HN := Lib.hid (HG.out.app2 HLk.out (lo_on LB.out (below_new _ _)) hgrow3 hown3 (hat3.imp id (fun h => by omega)))
      clear hown3 hgrow3 hat3 hlt3 hown hcf HG LB l2
      go_wp2
      go_roundw
      case rel => exact ⟨k + 1, by omega, by go_num, by rw [HKk.out]; exact HN⟩
      case measure => simp [intOf]; omega
    · obtain rfl : k = L + 1 := by omega
      have hge' : ¬ ((L : Int) + 1 ≤ (L : Int)) := by omega
      have M := Lib.hid (HG.out.mine (show w.heap.size ≤ W.heap.size by omega))
      have LE := Lib.hid (HG.out.lo0 (lo_on LW.out L1.out) (show w.heap.size ≤ W.heap.size by omega))
      clear HG
      go_wp2
      go_ret
      exact ⟨_, rfl, M.out, LE.out⟩
end Go.Proofs.Ythncgcdnljoakaa
