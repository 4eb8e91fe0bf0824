/- The contracts of the model's InfluenceOf and BendBy. -/
import Derived.Test.YthncgcdnljoakaaBm8
namespace Go.Proofs.Ythncgcdnljoakaa
open Go.RowKit
def infR (p : BeamV) (q : Int) : List Int := if plB p q = true then rowOf (fun x : Nat => inF p q (x : Int)) (p.l.toNat + 1) else []
theorem plF_len {p : BeamV} {q : Int} (h : PlF p q) : p.l = (p.l.toNat : Int) ∧ 1 ≤ p.l.toNat ∧ p.l.toNat ≤ 60 ∧ q = (q.toNat : Int) ∧ q.toNat ≤ p.l.toNat := by have := h.l0; have := h.l1; have := h.q0; have := h.q1; omega
theorem infR_len (p : BeamV) (q : Int) : (infR p q).length ≤ 2000000 := by
  unfold infR
  split
  · rename_i h; rw [rowOf_len]; have := plF_len ((plB_iff p q).1 h); omega
  · simp
set_option maxHeartbeats 1600000 in
theorem specInf_any (p : BeamV) (q : Int) (w : World) :
    Calls Try.prog 40 #[.agg #[.int .i64 p.l, .int .i64 p.a, .int .i64 p.b], .int .i64 q] w fun e w' => ∃ u, e = .returned (.tuple #[u, .bool (plB p q)]) ∧ MineI w' w.heap.size w'.heap.size u (infR p q) ∧ Below w.heap.size w w' := by
  have C := Lib.hid (fun w => l6Beam_any p w)
  have I := Lib.hid (fun w => l1In_is q 0 p.l _ rfl w)
  have S := Lib.hid (fun (h : plB p q = true) w1 => l6Influence_any p p.l.toNat q.toNat (plF_len ((plB_iff p q).1 h)).1 q (plF_len ((plB_iff p q).1 h)).2.2.2.1 w1 ((plB_iff p q).1 h))
  unfold infR
  have HP := Lib.hid (show plB p q = (beamB p && (decide (0 ≤ q) && decide (q ≤ p.l))) from rfl)
  generalize beamB p = b1 at *
  obtain ⟨b2, hb2⟩ : ∃ r, (decide (0 ≤ q) && decide (q ≤ p.l)) = r := ⟨_, rfl⟩
  rw [hb2] at I HP
  clear hb2
  generalize plB p q = r at *
  generalize rowOf (fun x : Nat => inF p q (x : Int)) (p.l.toNat + 1) = R at *
  have HP2 := HP.out
  subst HP2
  obtain ⟨l, a, b⟩ := p
  simp only at C I S ⊢
  obtain ⟨W, hW⟩ : ∃ W, w.alloc (.cells #[.int .i64 l, .int .i64 a, .int .i64 b] 25) = W := ⟨_, rfl⟩
  have LW := Lib.hid (show Below w.heap.size w W by rw [← hW]; exact below_new _ _)
  have BX := Lib.hid (show Cel3 W w.heap.size (.int .i64 l) (.int .i64 a) (.int .i64 b) by rw [← hW]; exact cel3_new _ _ _ _ _)
  obtain ⟨_, u0, u1, u2⟩ := BX.out
  cases b1 with
  | false =>
    go_enter Try.func40, Try.ntmps40
    go_wp2_with fail
    clear hW
    refine (C.out W).mono ?_
    rintro e w1 ⟨rfl, l1⟩
    have L1 := Lib.hid (lo_on LW.out l1)
    clear l1 C S u0 u1 u2
    go_wp2
    go_ret2
    exact ⟨_, rfl, by simpa using mineI_nil _ _ _ _ _, lo_on L1.out (below_new _ _)⟩
  | true =>
    cases b2 with
    | false =>
      go_enter Try.func40, Try.ntmps40
      go_wp2_with fail
      clear hW
      refine (C.out W).mono ?_
      rintro e w1 ⟨rfl, l1⟩
      have L1 := Lib.hid (lo_on LW.out l1)
      obtain ⟨_, x0, x1, x2⟩ := BX.out.lo l1
      clear l1 C S u0 u1 u2
      go_wp2_with fail
      refine (I.out _).mono ?_
      rintro e w' ⟨rfl, rfl⟩
      clear x0 x1 x2
      go_wp2
      go_ret2
      exact ⟨_, rfl, by simpa using mineI_nil _ _ _ _ _, lo_on L1.out (below_new _ _)⟩
    | true =>
      go_enter Try.func40, Try.ntmps40
      go_wp2_with fail
      clear hW
      refine (C.out W).mono ?_
      rintro e w1 ⟨rfl, l1⟩
      have L1 := Lib.hid (lo_on LW.out l1)
      obtain ⟨_, x0, x1, x2⟩ := BX.out.lo l1
      have hs1 := L1.out.size
      clear l1 C u0 u1 u2
      go_wp2_with fail
      refine (I.out _).mono ?_
      rintro e w' ⟨rfl, rfl⟩
      have SS := Lib.hid (S.out (by rfl) w1)
      clear S
      go_wp2_with fail
      refine SS.out.mono ?_
      rintro e w2 ⟨u, rfl, m, l2⟩
      have M := Lib.hid (m.mono hs1 (Nat.le_refl _) (Nat.le_refl _))
      have L2 := Lib.hid (lo_on L1.out l2)
      clear m l2 SS x0 x1 x2
      go_wp2
      go_ret2
      exact ⟨_, rfl, by simpa using M.out, L2.out⟩
/-- The products with weights. -/
theorem wmul_bound {w z : Int} (h1 : 1 ≤ w) (h2 : w ≤ 99) (h3 : -59875200 ≤ z) (h4 : z ≤ 59875200) : -5927644800 ≤ w * z ∧ w * z ≤ 5927644800 := by
  have a1 : w * z ≤ w * 59875200 := Int.mul_le_mul_of_nonneg_left h4 (by omega)
  have a2 : w * -59875200 ≤ w * z := Int.mul_le_mul_of_nonneg_left h3 (by omega)
  omega
theorem sumW_bound (f : Int → Int) (xs : List (Int × Int)) (h : ∀ x ∈ xs, (1 ≤ x.2 ∧ x.2 ≤ 99) ∧ -59875200 ≤ f x.1 ∧ f x.1 ≤ 59875200) : -(5927644800 * xs.length : Int) ≤ sumW f xs ∧ sumW f xs ≤ 5927644800 * xs.length := by
  induction xs with
  | nil => simp [sumW]
  | cons x l ih =>
    have h1 := h x (by simp)
    have h2 := ih (fun g hg => h g (by simp [hg]))
    have h3 := wmul_bound h1.1.1 h1.1.2 h1.2.1 h1.2.2
    simp only [sumW, List.length_cons]
    omega
theorem sumW_on {p : BeamV} {q : Int} {xs : List (Int × Int)} (hf : OnF p xs) (hq : q ≤ 60) (k : Nat) : -71131737600 ≤ sumW (inF p q) (xs.take k) ∧ sumW (inF p q) (xs.take k) ≤ 71131737600 := by
  have h := sumW_bound (inF p q) (xs.take k) (fun x hx => by
    have hx2 := List.mem_of_mem_take hx
    have h1 := hf.row.each x hx2
    exact ⟨h1.2, inF_bound p q x.1 hf.l0 hf.l1 hf.a0 hf.ab hf.b1 hq h1.1.1 (hf.on x hx2)⟩)
  have hl : (xs.take k).length ≤ 12 := by rw [List.length_take]; have := hf.row.short; omega
  omega
def bbB (p : BeamV) (xs : List (Int × Int)) (q : Int) : Bool := onB p xs && (decide (0 ≤ q) && decide (q ≤ p.l))
def bbR (p : BeamV) (xs : List (Int × Int)) (q : Int) : Int := if bbB p xs q = true then sumW (inF p q) xs else 0
theorem bbB_iff (p : BeamV) (xs : List (Int × Int)) (q : Int) : bbB p xs q = true ↔ OnF p xs ∧ PlF p q := by
  unfold bbB
  rw [Bool.and_eq_true, onB_iff]
  simp only [Bool.and_eq_true, decide_eq_true_eq]
  exact ⟨fun ⟨h, h1, h2⟩ => ⟨h, h.l0, h.l1, h.a0, h.ab, h.b1, h1, h2⟩, fun ⟨h, k⟩ => ⟨h, k.q0, k.q1⟩⟩
set_option maxRecDepth 100000 in
set_option maxHeartbeats 3200000 in
theorem specBb_yes (p : BeamV) (L : Nat) (hL : p.l = (L : Int)) (v : Value) (xs : List (Int × Int)) (q : Int) (w : World) (hr : LoadRow w v xs) (hf : OnF p xs) (hp : PlF p q) :
    Calls Try.prog 42 #[.agg #[.int .i64 p.l, .int .i64 p.a, .int .i64 p.b], v, .int .i64 q] w fun e w' => e = .returned (.tuple #[.int .i64 (sumW (inF p q) xs), .bool true]) ∧ Below w.heap.size w w' := by
  have C := Lib.hid (fun w1 (l : Below w.heap.size w w1) => l6On_is p v xs true ((onB_iff p xs).2 hf) w1 (hr.lo l))
  have I := Lib.hid (fun w => l1In_is q 0 p.l true (by have := hp.q0; have := hp.q1; simp; omega) w)
  have S := Lib.hid (fun w1 => l6Influence_any p L q.toNat hL q (plF_len hp).2.2.2.1 w1 hp)
  have hlen := hf.row.short
  have hl1 := hf.l1
  have HB := Lib.hid (fun k => sumW_on (q := q) hf (by have := hp.q1; omega) k)
  have HS := Lib.hid (fun k h => sumW_take (inF p q) xs k h)
  have HX := Lib.hid (fun k (hk : k < xs.length) => show (0 ≤ (xs.getD k (0, 0)).1 ∧ (xs.getD k (0, 0)).1 ≤ p.l) ∧ (1 ≤ (xs.getD k (0, 0)).2 ∧ (xs.getD k (0, 0)).2 ≤ 99) ∧ -59875200 ≤ inF p q (xs.getD k (0, 0)).1 ∧ inF p q (xs.getD k (0, 0)).1 ≤ 59875200 from by
    have hm := mem_getD hk
    have h1 := hf.row.each _ hm
    exact ⟨⟨h1.1.1, hf.on _ hm⟩, h1.2, inF_bound p q _ hf.l0 hf.l1 hf.a0 hf.ab hf.b1 (by have := hp.q1; omega) h1.1.1 (hf.on _ hm)⟩)
  have HT := Lib.hid (show sumW (inF p q) (xs.take xs.length) = sumW (inF p q) xs by rw [List.take_length])
  obtain ⟨T, hT⟩ : ∃ T, sumW (inF p q) xs = T := ⟨_, rfl⟩
  rw [hT] at HT ⊢
  clear hT
  have HR := Lib.hid (fun j (hj : j < L + 1) => show (rowOf (fun x : Nat => inF p q (x : Int)) (L + 1)).getD j 0 = inF p q (j : Int) from rowOf_at _ _ _ hj)
  have HRl := Lib.hid (rowOf_len (fun x : Nat => inF p q (x : Int)) (L + 1))
  generalize rowOf (fun x : Nat => inF p q (x : Int)) (L + 1) = R at *
  generalize inF p q = F at *
  obtain ⟨av, cv, rfl, hr⟩ := hr
  clear hf hp
  obtain ⟨l, a, b⟩ := p
  simp only at hL hl1 C I S HX ⊢
  subst hL
  obtain ⟨W, hW⟩ : ∃ W, w.alloc (.cells #[.int .i64 (L : Int), .int .i64 a, .int .i64 b] 25) = W := ⟨_, rfl⟩
  have LW := Lib.hid (show Below w.heap.size w W by rw [← hW]; exact below_new _ _)
  have BX := Lib.hid (show Cel3 W w.heap.size (.int .i64 (L : Int)) (.int .i64 a) (.int .i64 b) by rw [← hW]; exact cel3_new _ _ _ _ _)
  obtain ⟨_, u0, u1, u2⟩ := BX.out
  go_enter Try.func42, Try.ntmps42
  go_wp2_with fail
  clear hW
  refine (C.out W LW.out).mono ?_
  rintro e w1 ⟨rfl, l1⟩
  have L1 := Lib.hid (lo_on LW.out l1)
  obtain ⟨_, x0, x1, x2⟩ := BX.out.lo l1
  clear l1 C u0 u1 u2 BX
  go_wp2_with fail
  refine (I.out _).mono ?_
  rintro e w' ⟨rfl, rfl⟩
  have SS := Lib.hid (S.out w1)
  clear S I
  go_wp2_with fail
  refine SS.out.mono ?_
  rintro e w2 ⟨fu, rfl, m, l2⟩
  obtain ⟨g, c, rfl, hg1, hg2, _, hc, _⟩ := mineI_open m (by rw [HRl.out]; omega)
  rw [HRl.out] at hc ⊢
  have HC := Lib.hid (fun j (hj : j < L + 1) => show w2.cell? ⟨g, j, none⟩ = some (.int .i64 (F (j : Int))) by rw [hc j hj, HR.out j hj])
  have L2 := Lib.hid (lo_on L1.out l2)
  clear m l2 SS x0 x1 x2 hc L1
  go_wp2
  go_loopw [8, 10] (fun s i wr => ∃ k n : Nat, k ≤ xs.length ∧ i = .int .i64 k ∧ s = .int .i64 (sumW F (xs.take k)) ∧ wr = w2.drewN n) (fun _ i _ => xs.length - (intOf i).toNat)
  case atStart => exact ⟨0, 0, Nat.zero_le _, rfl, by rw [List.take_zero]; rfl, rfl⟩
  case round =>
    obtain ⟨k, n, hk, rfl, rfl, rfl⟩ := hrel
    by_cases hlt : k < xs.length
    · rcases hr with h | ⟨g1, off, rfl, hgl, hcl⟩
      · subst h; simp at hlt
      obtain ⟨h1, h2⟩ := hcl k hlt
      rw [← L2.out.cell (p := ⟨g1, off + k * 2, none⟩) hgl] at h1
      rw [← L2.out.cell (p := ⟨g1, off + k * 2 + 1, none⟩) hgl] at h2
      have hlt' : (k : Int) < (xs.length : Int) := by omega
      have hb := HB.out k
      have hb2 := HB.out (k + 1)
      have hs := HS.out k hlt
      have hx := HX.out k hlt
      generalize xs.getD k (0, 0) = x at h1 h2 hs hx
      obtain ⟨x, z⟩ := x
      simp only at h1 h2 hs hx
      obtain ⟨⟨e0, e1⟩, ⟨q0, q1⟩, f0, f1⟩ := hx
      obtain ⟨X, rfl⟩ := Int.eq_ofNat_of_zero_le e0
      have hcf := HC.out X (by omega)
      have hXi : (X : Int) < (L : Int) + 1 := by omega
      obtain ⟨y, hy⟩ : ∃ y, sumW F (xs.take k) = y := ⟨_, rfl⟩
      rw [hy] at hs hb ⊢
      rw [hs] at hb2
      have HY := Lib.hid hs
      generalize F (X : Int) = t at *
      have hm := wmul_bound q0 q1 f0 f1
      obtain ⟨b0, b1⟩ := hb
      obtain ⟨c0, c1⟩ := hb2
      have m0 : -9223372036854775808 ≤ z * t := by omega
      have m1 : z * t ≤ 9223372036854775807 := by omega
      have s0 : -9223372036854775808 ≤ y + z * t := by omega
      have s1 : y + z * t ≤ 9223372036854775807 := by omega
      clear hcl hy hs
      go_wp2
      go_quiet (fail)
      go_wp2
      go_roundw
      case rel => exact ⟨k + 1, _, by omega, by go_num, by rw [HY.out], rfl⟩
      case measure => simp [intOf]; omega
    · obtain rfl : k = xs.length := by omega
      have hge : ¬ (xs.length : Int) < (xs.length : Int) := by omega
      rw [HT.out]
      go_wp2
      go_ret2
      exact ⟨rfl, lo_drewN L2.out _⟩
set_option maxHeartbeats 1600000 in
theorem specBb_no (p : BeamV) (v : Value) (xs : List (Int × Int)) (q : Int) (w : World) (hr : LoadRow w v xs) (hf : bbB p xs q = false) :
    Calls Try.prog 42 #[.agg #[.int .i64 p.l, .int .i64 p.a, .int .i64 p.b], v, .int .i64 q] w fun e w' => e = .returned (.tuple #[.int .i64 0, .bool false]) ∧ Below w.heap.size w w' := by
  have C := Lib.hid (fun w1 (l : Below w.heap.size w w1) => l6On_any p v xs w1 (hr.lo l))
  have I := Lib.hid (fun w => l1In_is q 0 p.l _ rfl w)
  unfold bbB at hf
  generalize onB p xs = b1 at *
  generalize (decide (0 ≤ q) && decide (q ≤ p.l)) = b2 at *
  clear hr
  obtain ⟨l, a, b⟩ := p
  simp only at C I ⊢
  obtain ⟨W, hW⟩ : ∃ W, w.alloc (.cells #[.int .i64 l, .int .i64 a, .int .i64 b] 25) = W := ⟨_, rfl⟩
  have LW := Lib.hid (show Below w.heap.size w W by rw [← hW]; exact below_new _ _)
  have BX := Lib.hid (show Cel3 W w.heap.size (.int .i64 l) (.int .i64 a) (.int .i64 b) by rw [← hW]; exact cel3_new _ _ _ _ _)
  obtain ⟨_, u0, u1, u2⟩ := BX.out
  cases b1 with
  | false =>
    go_enter Try.func42, Try.ntmps42
    go_wp2_with fail
    clear hW
    refine (C.out W LW.out).mono ?_
    rintro e w1 ⟨rfl, l1⟩
    go_wp2
    go_ret2
    exact ⟨rfl, lo_on LW.out l1⟩
  | true =>
    obtain rfl : b2 = false := hf
    go_enter Try.func42, Try.ntmps42
    go_wp2_with fail
    clear hW
    refine (C.out W LW.out).mono ?_
    rintro e w1 ⟨rfl, l1⟩
    have L1 := Lib.hid (lo_on LW.out l1)
    obtain ⟨_, x0, x1, x2⟩ := BX.out.lo l1
    clear l1 C u0 u1 u2
    go_wp2_with fail
    refine (I.out _).mono ?_
    rintro e w' ⟨rfl, rfl⟩
    go_wp2
    go_ret2
    exact ⟨rfl, L1.out⟩
theorem specBb_any (p : BeamV) (v : Value) (xs : List (Int × Int)) (q : Int) (w : World) (hr : LoadRow w v xs) :
    Calls Try.prog 42 #[.agg #[.int .i64 p.l, .int .i64 p.a, .int .i64 p.b], v, .int .i64 q] w fun e w' => e = .returned (.tuple #[.int .i64 (bbR p xs q), .bool (bbB p xs q)]) ∧ Below w.heap.size w w' := by
  unfold bbR
  cases h : bbB p xs q with
  | true =>
    obtain ⟨h1, h2⟩ := (bbB_iff p xs q).1 h
    simpa using specBb_yes p p.l.toNat (onF_len h1).1 v xs q w hr h1 h2
  | false => simpa using specBb_no p v xs q w hr h
end Go.Proofs.Ythncgcdnljoakaa
