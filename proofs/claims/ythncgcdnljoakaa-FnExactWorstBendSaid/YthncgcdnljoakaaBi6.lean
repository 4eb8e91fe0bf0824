/- The contracts of both functions WorstBend. -/
import Derived.Test.YthncgcdnljoakaaBi5
import Derived.Test.YthncgcdnljoakaaInv
namespace Go.Proofs.Ythncgcdnljoakaa
open Go.RowKit
def AtC (w : World) (g Q : Nat) (z : Int) : Prop := g < w.heap.size ∧ w.cell? ⟨g, Q, none⟩ = some (.int .i64 z)
theorem AtC.lo {w w' : World} {g Q : Nat} {z : Int} (h : AtC w g Q z) (l : Below w.heap.size w w') : AtC w' g Q z := ⟨Nat.lt_of_lt_of_le h.1 l.size, (l.cell (p := ⟨g, Q, none⟩) h.1).trans h.2⟩
/-- The greatest of numbers, and the first place with it. -/
def wbF (f : Nat → Int) : Nat → Int × Int
  | 0 => (0, 0)
  | k + 1 => if k = 0 ∨ (wbF f k).1 < f k then (f k, (k : Int)) else wbF f k
theorem wbF_congr {f g : Nat → Int} (k : Nat) (h : ∀ j, j < k → f j = g j) : wbF f k = wbF g k := by
  induction k with
  | zero => rfl
  | succ k ih => simp only [wbF, ih (fun j hj => h j (by omega)), h k (by omega)]
theorem wbF_bound (f : Nat → Int) (M : Int) (k : Nat) (h0 : 0 ≤ M) (h : ∀ j, j < k → -M ≤ f j ∧ f j ≤ M) : (-M ≤ (wbF f k).1 ∧ (wbF f k).1 ≤ M) ∧ 0 ≤ (wbF f k).2 ∧ (wbF f k).2 ≤ k := by
  induction k with
  | zero => simp [wbF]; omega
  | succ k ih =>
    have h1 := ih (fun j hj => h j (by omega))
    have h2 := h k (by omega)
    simp only [wbF]
    split
    · simp only; omega
    · omega
def wbA (f : Nat → Int) (k : Nat) : Int := if k = 0 then -1 else (wbF f k).2
def wbN (p : BeamV) (cs : List (Int × Int)) (q : Int) (x : Nat) : Int := bdL q (fsF p (atC (x : Int) cs))
noncomputable def wbR (p : BeamV) (cs : List (Int × Int)) (q : Int) : Int × Int := if cvB p cs q = true then wbF (wbN p cs q) (p.l.toNat + 1) else (0, 0)
theorem plF_beam {p : BeamV} {q : Int} (h : PlF p q) : beamB p = true := (beamB_iff p).2 ⟨h.l0, h.l1, h.a0, h.ab, h.b1⟩
theorem wbN_bound {p : BeamV} {cs : List (Int × Int)} {q : Int} (hf : ConvF cs) (hp : PlF p q) (x : Nat) (hx : (x : Int) ≤ p.l) : -59875200 ≤ wbN p cs q x ∧ wbN p cs q x ≤ 59875200 :=
  (fcF_bounds (fsF_fc (atC_on (plF_beam hp) hf (x : Int) hx))).2 q (by have := hp.q1; have := hp.l1; omega)
set_option maxRecDepth 100000 in
set_option maxHeartbeats 6400000 in
theorem specWb_yes (p : BeamV) (L Q : Nat) (hL : p.l = (L : Int)) (v : Value) (cs : List (Int × Int)) (q : Int) (hQ : q = (Q : Int)) (w : World) (hr : LoadRow w v cs) (hf : ConvF cs) (hp : PlF p q) :
    Calls Try.prog 51 #[.agg #[.int .i64 p.l, .int .i64 p.a, .int .i64 p.b], v, .int .i64 q] w fun e w' => e = .returned (.tuple #[.int .i64 (wbF (wbN p cs q) (L + 1)).1, .int .i64 (wbF (wbN p cs q) (L + 1)).2, .bool true]) ∧ Below w.heap.size w w' := by
  have C := Lib.hid (fun w => l6Beam_is p true (plF_beam hp) w)
  have V := Lib.hid (fun w1 (l : Below w.heap.size w w1) => by have := l6Convoy_any v cs w1 (hr.lo l) (by have := hf.short; omega); rw [show convB cs = true from propB_yes hf] at this; exact this)
  have IN := Lib.hid (fun w => l1In_is q 0 p.l true (in_yes ⟨hp.q0, hp.q1⟩) w)
  have hl1 := hp.l1
  have hq1 := hp.q1
  have A := Lib.hid (fun (x : Nat) (hx : (x : Int) ≤ p.l) w1 (l : Below w.heap.size w w1) => (l6At_any v cs (x : Int) w1 (hr.lo l) hf (by omega) (by omega)).mono fun e w' ⟨u, h1, h2, h3⟩ => (⟨u, h1, loadRow_own h2, h3⟩ : ∃ u, e = Ending.returned u ∧ LoadRow w' u (atC (x : Int) cs) ∧ Below w1.heap.size w1 w'))
  have D := Lib.hid (fun (x : Nat) (hx : (x : Int) ≤ p.l) u w1 (hu : LoadRow w1 u (atC (x : Int) cs)) => (l6Bends_any p L hL u (atC (x : Int) cs) w1 hu (atC_on (plF_beam hp) hf (x : Int) hx)).mono fun e w' ⟨t, h1, h2, h3⟩ => by
    obtain ⟨g, c, e1, g1, g2, _, hc, _⟩ := mineI_open h2 (by rw [rowOf_len]; omega)
    rw [rowOf_len] at e1 hc
    have hcc := hc Q (by omega)
    rw [rowOf_at _ _ _ (by omega)] at hcc
    exact (⟨g, c, by rw [h1, e1], ⟨g2, by rw [hcc]; unfold wbN; rw [hQ]⟩, h3⟩ : ∃ g c, e = Ending.returned (.slice (some ⟨g, 0, none⟩) (L + 1) c) ∧ AtC w' g Q (wbN p cs q x) ∧ Below w1.heap.size w1 w'))
  have HB := Lib.hid (fun k (hk : k ≤ L + 1) => wbF_bound (wbN p cs q) 59875200 k (by omega) (fun j hj => wbN_bound hf hp j (by omega)))
  have HN := Lib.hid (fun k (hk : k < L + 1) => wbN_bound hf hp k (by omega))
  have HS := Lib.hid (fun k : Nat => show wbF (wbN p cs q) (k + 1) = if k = 0 ∨ (wbF (wbN p cs q) k).1 < wbN p cs q k then (wbN p cs q k, (k : Int)) else wbF (wbN p cs q) k from rfl)
  have HA := Lib.hid (fun k : Nat => show wbA (wbN p cs q) k = if k = 0 then -1 else (wbF (wbN p cs q) k).2 from rfl)
  have H0 := Lib.hid (show wbF (wbN p cs q) 0 = (0, 0) from rfl)
  generalize hG : wbF (wbN p cs q) = G at *
  generalize hGA : wbA (wbN p cs q) = GA at *
  generalize hNN : wbN p cs q = NN at *
  generalize hAT : (fun x : Nat => atC (x : Int) cs) = AT at *
  have A2 := Lib.hid (fun (x : Nat) (hx : (x : Int) ≤ p.l) w1 (l : Below w.heap.size w w1) => show Calls Try.prog 105 #[v, .int .i64 (x : Int)] w1 fun e w' => ∃ u, e = .returned u ∧ LoadRow w' u (AT x) ∧ Below w1.heap.size w1 w' by rw [← hAT]; exact A.out x hx w1 l)
  have D2 := Lib.hid (fun (x : Nat) (hx : (x : Int) ≤ p.l) u w1 (hu : LoadRow w1 u (AT x)) => D.out x hx u w1 (by rw [← hAT] at hu; exact hu))
  clear A D hG hGA hNN hAT hr hf hp
  obtain ⟨l, pa, pb⟩ := p
  simp only at hL hl1 hq1 C IN A2 D2 ⊢
  subst hL hQ
  obtain ⟨W, hW⟩ : ∃ W, w.alloc (.cells #[.int .i64 (L : Int), .int .i64 pa, .int .i64 pb] 25) = W := ⟨_, rfl⟩
  have LW := Lib.hid (show Below w.heap.size w W by rw [← hW]; exact below_new _ _)
  have BX := Lib.hid (show Cel3 W w.heap.size (.int .i64 (L : Int)) (.int .i64 pa) (.int .i64 pb) by rw [← hW]; exact cel3_new _ _ _ _ _)
  obtain ⟨_, u0, u1, u2⟩ := BX.out
  go_enter Try.func51, Try.ntmps51
  go_wp2_with fail
  clear hW
  refine (C.out W).mono ?_
  rintro e w1 ⟨rfl, l1⟩
  have L1 := Lib.hid (lo_on LW.out l1)
  have B1 := Lib.hid (BX.out.lo l1)
  clear l1 C u0 u1 u2 BX
  go_wp2_with fail
  refine (V.out w1 L1.out).mono ?_
  rintro e w2 ⟨rfl, l2⟩
  have L2 := Lib.hid (lo_on L1.out l2)
  have B2 := Lib.hid (B1.out.lo l2)
  obtain ⟨_, x0, x1, x2⟩ := B2.out
  clear l2 V B1 L1
  go_wp2_with fail
  refine (IN.out _).mono ?_
  rintro e w' ⟨rfl, rfl⟩
  clear x0 x1 x2 IN
  go_wp2
  go_loopw [9, 10, 11] (fun x y i wr => ∃ k : Nat, k ≤ L + 1 ∧ i = .int .i64 k ∧ x = .int .i64 (G k).1 ∧ y = .int .i64 (GA k) ∧ Hid (Below w2.heap.size w2 wr)) (fun _ _ i _ => L + 1 - (intOf i).toNat)
  case atStart => exact ⟨0, Nat.zero_le _, rfl, by rw [H0.out], by rw [HA.out, if_pos rfl], Lib.hid (Below.refl _ _)⟩
  case round =>
    obtain ⟨k, hk, rfl, rfl, rfl, HL⟩ := hrel
    obtain ⟨hbx, x0, x1, x2⟩ := B2.out.lo HL.out
    by_cases hlt : k < L + 1
    · have hlt' : (k : Int) ≤ (L : Int) := by omega
      have hb := HB.out k hk
      have hn := HN.out k hlt
      have hQi : (Q : Int) < (L : Int) + 1 := by omega
      have HSk := Lib.hid (HS.out k)
      have HAk := HA.out k
      have HAn := Lib.hid (HA.out (k + 1))
      have AK := Lib.hid (fun X (l : Below w2.heap.size w2 X) => A2.out k hlt' X (lo_on L2.out l))
      have DK := Lib.hid (D2.out k hlt')
      have hA0 : k = 0 → GA k < 0 := fun h => by rw [HAk, if_pos h]; decide
      have hA1 : k ≠ 0 → 0 ≤ GA k := fun h => by rw [HAk, if_neg h]; exact hb.2.1
      have hAb : -1 ≤ GA k ∧ GA k ≤ k := by by_cases h : k = 0; rw [HAk, if_pos h]; omega; rw [HAk, if_neg h]; omega
      generalize AT k = rows at *
      generalize NN k = z at *
      obtain ⟨x, hx⟩ : ∃ x, (G k).1 = x := ⟨_, rfl⟩
      rw [hx] at hb HSk ⊢
      obtain ⟨y, hy⟩ : ∃ y, GA k = y := ⟨_, rfl⟩
      rw [hy] at hA0 hA1 hAb HAk ⊢
      have HX := Lib.hid hx
      have HYk := Lib.hid HAk
      obtain ⟨⟨c0, c1⟩, _⟩ := hb
      obtain ⟨z0, z1⟩ := hn
      obtain ⟨y0, y1⟩ := hAb
      clear hx hy HAk
      by_cases hcond : k = 0 ∨ x < z
      · have HSy := Lib.hid (show G (k + 1) = (z, (k : Int)) by rw [HSk.out, if_pos hcond])
        have hc1 : y < 0 ∨ x < z := hcond.imp hA0 id
        have hc2 : (decide (y < 0) || decide (x < z)) = true := by simp; exact hc1
        clear HSk hA0 hA1 hcond
        by_cases hy0 : y < 0
        · go_wp2
          refine wp_region_inv (by kernel_rfl) (by kernel_rfl) (fun D a X => ∃ (t34 t35 t36 t37 t38 t39 t40 t41 t12 : Value) (g c : Nat), a = (⟨#[(.agg #[.int .i64 (L : Int), .int .i64 pa, .int .i64 pb]), v, .int .i64 (Q : Int), .pointer (some ⟨w.heap.size, 0, none⟩), undef, undef, .int .i64 0, .int .i64 0, .bool false, .int .i64 x, .int .i64 y, .int .i64 (k : Int), t12, (.agg #[.int .i64 (L : Int), .int .i64 pa, .int .i64 pb]), .bool true, .bool false, .bool false, v, .bool true, .bool false, .bool false, .bool false, .int .i64 (Q : Int), .pointer (some ⟨w.heap.size, 0, none⟩), .int .i64 (L : Int), .bool true, .bool false, .bool false, .int .i64 (k : Int), .pointer (some ⟨w.heap.size, 0, none⟩), .int .i64 (L : Int), .bool true, u32, u33, t34, t35, t36, t37, t38, t39, t40, t41, u42, u43, u44, u45, u46, u47, u48, u49, u50, undef, undef], []⟩ : Act) ∧ (D 8 → (t12 = .int .i64 z ∧ Hid (Below w2.heap.size w2 X))) ∧ (¬ D 8 → Hid (Below w2.heap.size w2 X) ∧ (D 0 → (t34 = (.agg #[.int .i64 (L : Int), .int .i64 pa, .int .i64 pb]))) ∧ (D 1 → (t35 = v)) ∧ (D 2 → (t36 = .int .i64 (k : Int))) ∧ (D 3 → (k = k ∧ LoadRow X t37 rows)) ∧ (D 4 → (t38 = .slice (some ⟨g, 0, none⟩) (L + 1) c ∧ AtC X g Q z)) ∧ (D 5 → (t39 = .int .i64 (Q : Int))) ∧ (D 6 → (t40 = .pointer (some ⟨g, Q, none⟩))) ∧ (D 7 → (t41 = .int .i64 z)))) ?_ ?_ ?_
          · exact ⟨_, _, _, _, _, _, _, _, _, 0, 0, rfl, fun h => h.elim, fun _ => ⟨Lib.hid (lo_on HL.out (drw_b wr)), fun h => h.elim, fun h => h.elim, fun h => h.elim, fun h => h.elim, fun h => h.elim, fun h => h.elim, fun h => h.elim, fun h => h.elim⟩⟩
          · refine (show ∀ i, i < 9 → StepAt _ _ _ _ _ i from ?_)
            refine lt_more (n := 8) ?_ (lt_more (n := 7) ?_ (lt_more (n := 6) ?_ (lt_more (n := 5) ?_ (lt_more (n := 4) ?_ (lt_more (n := 3) ?_ (lt_more (n := 2) ?_ (lt_more (n := 1) ?_ (lt_more (n := 0) ?_ lt_none))))))))
            · refine step_of _ [7, 4, 0, 1, 2, 3, 4, 5, 6, 7] [] rfl (by kernel_rfl) (by kernel_rfl) ?_
              rintro D a X hn hd hc ⟨t34, t35, t36, t37, t38, t39, t40, t41, t12, g, c, rfl, _, hrest⟩ K' hK
              have nl := hn
              obtain ⟨LX, c0, c1, c2, c3, c4, c5, c6, c7⟩ := hrest nl
              clear hrest
              have d0 := hd 0 (by simp)
              have d1 := hd 1 (by simp)
              have d2 := hd 2 (by simp)
              have d3 := hd 3 (by simp)
              have d4 := hd 4 (by simp)
              have d5 := hd 5 (by simp)
              have d6 := hd 6 (by simp)
              have d7 := hd 7 (by simp)
              clear hd hc
              obtain rfl := c7 d7
              go_simp
              refine hK _ _ ⟨_, _, _, _, _, _, _, _, _, g, c, by first | rfl | simp [Act.put], fun _ => ?_, fun m => absurd (.inl rfl) m⟩
              exact ⟨rfl, LX⟩
            · refine step_of _ [6] [(8, 7), (6, 4)] rfl (by kernel_rfl) (by kernel_rfl) ?_
              rintro D a X hn hd hc ⟨t34, t35, t36, t37, t38, t39, t40, t41, t12, g, c, rfl, _, hrest⟩ K' hK
              have nl : ¬ D 8 := fun h => hn (hc (8, 7) (by simp) h)
              obtain ⟨LX, c0, c1, c2, c3, c4, c5, c6, c7⟩ := hrest nl
              clear hrest
              have d6 := hd 6 (by simp)
              have e6_4 := hc (6, 4) (by simp)
              clear hd hc
              obtain rfl := c6 d6
              have m2 := (c4 (e6_4 d6)).2.2
              go_simp
              refine hK _ _ ⟨_, _, _, _, _, _, _, _, _, g, c, by first | rfl | simp [Act.put], fun h => (nl (h.resolve_left (by decide))).elim, fun _ => ⟨LX, ?c0, ?c1, ?c2, ?c3, ?c4, ?c5, ?c6, ?c7⟩⟩
              case c0 => exact fun h0 => c0 (h0.resolve_left (by decide))
              case c1 => exact fun h1 => c1 (h1.resolve_left (by decide))
              case c2 => exact fun h2 => c2 (h2.resolve_left (by decide))
              case c3 => exact fun h3 => c3 (h3.resolve_left (by decide))
              case c4 => exact fun h4 => c4 (h4.resolve_left (by decide))
              case c5 => exact fun h5 => c5 (h5.resolve_left (by decide))
              case c6 => exact fun h6 => c6 (h6.resolve_left (by decide))
              case c7 => exact fun h7 => rfl
            · refine step_of _ [4, 5] [(8, 6)] rfl (by kernel_rfl) (by kernel_rfl) ?_
              rintro D a X hn hd hc ⟨t34, t35, t36, t37, t38, t39, t40, t41, t12, g, c, rfl, _, hrest⟩ K' hK
              have nl : ¬ D 8 := fun h => hn (hc (8, 6) (by simp) h)
              obtain ⟨LX, c0, c1, c2, c3, c4, c5, c6, c7⟩ := hrest nl
              clear hrest
              have d4 := hd 4 (by simp)
              have d5 := hd 5 (by simp)
              clear hd hc
              obtain ⟨rfl, m⟩ := c4 d4
              obtain rfl := c5 d5
              go_simp
              refine hK _ _ ⟨_, _, _, _, _, _, _, _, _, g, c, by first | rfl | simp [Act.put], fun h => (nl (h.resolve_left (by decide))).elim, fun _ => ⟨LX, ?c0, ?c1, ?c2, ?c3, ?c4, ?c5, ?c6, ?c7⟩⟩
              case c0 => exact fun h0 => c0 (h0.resolve_left (by decide))
              case c1 => exact fun h1 => c1 (h1.resolve_left (by decide))
              case c2 => exact fun h2 => c2 (h2.resolve_left (by decide))
              case c3 => exact fun h3 => c3 (h3.resolve_left (by decide))
              case c4 => exact fun h4 => ⟨rfl, m⟩
              case c5 => exact fun h5 => c5 (h5.resolve_left (by decide))
              case c6 => exact fun h6 => rfl
              case c7 => exact fun h7 => c7 (h7.resolve_left (by decide))
            · refine step_of _ [] [(8, 5)] rfl (by kernel_rfl) (by kernel_rfl) ?_
              rintro D a X hn hd hc ⟨t34, t35, t36, t37, t38, t39, t40, t41, t12, g, c, rfl, _, hrest⟩ K' hK
              have nl : ¬ D 8 := fun h => hn (hc (8, 5) (by simp) h)
              obtain ⟨LX, c0, c1, c2, c3, c4, c5, c6, c7⟩ := hrest nl
              clear hrest
              clear hd hc
              go_simp
              refine hK _ _ ⟨_, _, _, _, _, _, _, _, _, g, c, by first | rfl | simp [Act.put], fun h => (nl (h.resolve_left (by decide))).elim, fun _ => ⟨LX, ?c0, ?c1, ?c2, ?c3, ?c4, ?c5, ?c6, ?c7⟩⟩
              case c0 => exact fun h0 => c0 (h0.resolve_left (by decide))
              case c1 => exact fun h1 => c1 (h1.resolve_left (by decide))
              case c2 => exact fun h2 => c2 (h2.resolve_left (by decide))
              case c3 => exact fun h3 => c3 (h3.resolve_left (by decide))
              case c4 => exact fun h4 => c4 (h4.resolve_left (by decide))
              case c5 => exact fun h5 => rfl
              case c6 => exact fun h6 => c6 (h6.resolve_left (by decide))
              case c7 => exact fun h7 => c7 (h7.resolve_left (by decide))
            · refine step_of _ [0, 3, 3] [(8, 4), (6, 4)] rfl (by kernel_rfl) (by kernel_rfl) ?_
              rintro D a X hn hd hc ⟨t34, t35, t36, t37, t38, t39, t40, t41, t12, g, c, rfl, _, hrest⟩ K' hK
              have nl : ¬ D 8 := fun h => hn (hc (8, 4) (by simp) h)
              obtain ⟨LX, c0, c1, c2, c3, c4, c5, c6, c7⟩ := hrest nl
              clear hrest
              have d0 := hd 0 (by simp)
              have d3 := hd 3 (by simp)
              have e6_4 := hc (6, 4) (by simp)
              clear hd hc
              obtain rfl := c0 d0
              have C := DK.out t37 X (c3 d3).2
              go_simp
              refine C.mono ?_
              rintro e X5 ⟨g1, k1, rfl, m, l⟩
              go_simp
              refine hK _ _ ⟨_, _, _, _, _, _, _, _, _, g1, k1, by first | rfl | simp [Act.put], fun h => (nl (h.resolve_left (by decide))).elim, fun _ => ⟨Lib.hid (lo_on LX.out l), ?c0, ?c1, ?c2, ?c3, ?c4, ?c5, ?c6, ?c7⟩⟩
              case c0 => exact fun h0 => c0 (h0.resolve_left (by decide))
              case c1 => exact fun h1 => c1 (h1.resolve_left (by decide))
              case c2 => exact fun h2 => c2 (h2.resolve_left (by decide))
              case c3 => exact fun h3 => ⟨(c3 (h3.resolve_left (by decide))).1, (c3 (h3.resolve_left (by decide))).2.lo l⟩
              case c4 => exact fun h4 => ⟨rfl, m⟩
              case c5 => exact fun h5 => c5 (h5.resolve_left (by decide))
              case c6 => exact fun h6 => (hn (e6_4 (h6.resolve_left (by decide)))).elim
              case c7 => exact fun h7 => c7 (h7.resolve_left (by decide))
            · refine step_of _ [1, 2] [(8, 3), (4, 3)] rfl (by kernel_rfl) (by kernel_rfl) ?_
              rintro D a X hn hd hc ⟨t34, t35, t36, t37, t38, t39, t40, t41, t12, g, c, rfl, _, hrest⟩ K' hK
              have nl : ¬ D 8 := fun h => hn (hc (8, 3) (by simp) h)
              obtain ⟨LX, c0, c1, c2, c3, c4, c5, c6, c7⟩ := hrest nl
              clear hrest
              have d1 := hd 1 (by simp)
              have d2 := hd 2 (by simp)
              have e4_3 := hc (4, 3) (by simp)
              clear hd hc
              obtain rfl := c1 d1
              obtain rfl := c2 d2
              have C := AK.out X LX.out
              go_simp
              refine C.mono ?_
              rintro e X5 ⟨u, rfl, m, l⟩
              go_simp
              refine hK _ _ ⟨_, _, _, _, _, _, _, _, _, g, c, by first | rfl | simp [Act.put], fun h => (nl (h.resolve_left (by decide))).elim, fun _ => ⟨Lib.hid (lo_on LX.out l), ?c0, ?c1, ?c2, ?c3, ?c4, ?c5, ?c6, ?c7⟩⟩
              case c0 => exact fun h0 => c0 (h0.resolve_left (by decide))
              case c1 => exact fun h1 => c1 (h1.resolve_left (by decide))
              case c2 => exact fun h2 => c2 (h2.resolve_left (by decide))
              case c3 => exact fun h3 => ⟨rfl, m⟩
              case c4 => exact fun h4 => (hn (e4_3 (h4.resolve_left (by decide)))).elim
              case c5 => exact fun h5 => c5 (h5.resolve_left (by decide))
              case c6 => exact fun h6 => c6 (h6.resolve_left (by decide))
              case c7 => exact fun h7 => c7 (h7.resolve_left (by decide))
            · refine step_of _ [] [(8, 2)] rfl (by kernel_rfl) (by kernel_rfl) ?_
              rintro D a X hn hd hc ⟨t34, t35, t36, t37, t38, t39, t40, t41, t12, g, c, rfl, _, hrest⟩ K' hK
              have nl : ¬ D 8 := fun h => hn (hc (8, 2) (by simp) h)
              obtain ⟨LX, c0, c1, c2, c3, c4, c5, c6, c7⟩ := hrest nl
              clear hrest
              clear hd hc
              go_simp
              refine hK _ _ ⟨_, _, _, _, _, _, _, _, _, g, c, by first | rfl | simp [Act.put], fun h => (nl (h.resolve_left (by decide))).elim, fun _ => ⟨LX, ?c0, ?c1, ?c2, ?c3, ?c4, ?c5, ?c6, ?c7⟩⟩
              case c0 => exact fun h0 => c0 (h0.resolve_left (by decide))
              case c1 => exact fun h1 => c1 (h1.resolve_left (by decide))
              case c2 => exact fun h2 => rfl
              case c3 => exact fun h3 => c3 (h3.resolve_left (by decide))
              case c4 => exact fun h4 => c4 (h4.resolve_left (by decide))
              case c5 => exact fun h5 => c5 (h5.resolve_left (by decide))
              case c6 => exact fun h6 => c6 (h6.resolve_left (by decide))
              case c7 => exact fun h7 => c7 (h7.resolve_left (by decide))
            · refine step_of _ [] [(8, 1)] rfl (by kernel_rfl) (by kernel_rfl) ?_
              rintro D a X hn hd hc ⟨t34, t35, t36, t37, t38, t39, t40, t41, t12, g, c, rfl, _, hrest⟩ K' hK
              have nl : ¬ D 8 := fun h => hn (hc (8, 1) (by simp) h)
              obtain ⟨LX, c0, c1, c2, c3, c4, c5, c6, c7⟩ := hrest nl
              clear hrest
              clear hd hc
              go_simp
              refine hK _ _ ⟨_, _, _, _, _, _, _, _, _, g, c, by first | rfl | simp [Act.put], fun h => (nl (h.resolve_left (by decide))).elim, fun _ => ⟨LX, ?c0, ?c1, ?c2, ?c3, ?c4, ?c5, ?c6, ?c7⟩⟩
              case c0 => exact fun h0 => c0 (h0.resolve_left (by decide))
              case c1 => exact fun h1 => rfl
              case c2 => exact fun h2 => c2 (h2.resolve_left (by decide))
              case c3 => exact fun h3 => c3 (h3.resolve_left (by decide))
              case c4 => exact fun h4 => c4 (h4.resolve_left (by decide))
              case c5 => exact fun h5 => c5 (h5.resolve_left (by decide))
              case c6 => exact fun h6 => c6 (h6.resolve_left (by decide))
              case c7 => exact fun h7 => c7 (h7.resolve_left (by decide))
            · refine step_of _ [] [(8, 0)] rfl (by kernel_rfl) (by kernel_rfl) ?_
              rintro D a X hn hd hc ⟨t34, t35, t36, t37, t38, t39, t40, t41, t12, g, c, rfl, _, hrest⟩ K' hK
              have nl : ¬ D 8 := fun h => hn (hc (8, 0) (by simp) h)
              obtain ⟨LX, c0, c1, c2, c3, c4, c5, c6, c7⟩ := hrest nl
              clear hrest
              clear hd hc
              obtain ⟨_, x0, x1, x2⟩ := B2.out.lo LX.out
              go_simp
              refine hK _ _ ⟨_, _, _, _, _, _, _, _, _, g, c, by first | rfl | simp [Act.put], fun h => (nl (h.resolve_left (by decide))).elim, fun _ => ⟨LX, ?c0, ?c1, ?c2, ?c3, ?c4, ?c5, ?c6, ?c7⟩⟩
              case c0 => exact fun h0 => rfl
              case c1 => exact fun h1 => c1 (h1.resolve_left (by decide))
              case c2 => exact fun h2 => c2 (h2.resolve_left (by decide))
              case c3 => exact fun h3 => c3 (h3.resolve_left (by decide))
              case c4 => exact fun h4 => c4 (h4.resolve_left (by decide))
              case c5 => exact fun h5 => c5 (h5.resolve_left (by decide))
              case c6 => exact fun h6 => c6 (h6.resolve_left (by decide))
              case c7 => exact fun h7 => c7 (h7.resolve_left (by decide))
          · rintro D a X hall ⟨t34, t35, t36, t37, t38, t39, t40, t41, t12, g, c, rfl, hfin, _⟩
            have HFIN := Lib.hid (hfin (hall 8 (by decide)))
            clear hfin hall
            obtain ⟨rfl, L6⟩ := HFIN.out
            go_wp2
            go_roundw
            case rel => exact ⟨k + 1, by omega, by go_num, by rw [HSy.out], by rw [HAn.out, if_neg (by omega), HSy.out], L6⟩
            case measure => simp [intOf]; omega
        · go_wp2
          refine wp_region_inv (by kernel_rfl) (by kernel_rfl) (fun D a X => ∃ (t34 t35 t36 t37 t38 t39 t40 t41 t12 : Value) (g c : Nat), a = (⟨#[(.agg #[.int .i64 (L : Int), .int .i64 pa, .int .i64 pb]), v, .int .i64 (Q : Int), .pointer (some ⟨w.heap.size, 0, none⟩), undef, undef, .int .i64 0, .int .i64 0, .bool false, .int .i64 x, .int .i64 y, .int .i64 (k : Int), t12, (.agg #[.int .i64 (L : Int), .int .i64 pa, .int .i64 pb]), .bool true, .bool false, .bool false, v, .bool true, .bool false, .bool false, .bool false, .int .i64 (Q : Int), .pointer (some ⟨w.heap.size, 0, none⟩), .int .i64 (L : Int), .bool true, .bool false, .bool false, .int .i64 (k : Int), .pointer (some ⟨w.heap.size, 0, none⟩), .int .i64 (L : Int), .bool true, u32, u33, t34, t35, t36, t37, t38, t39, t40, t41, u42, u43, u44, u45, u46, u47, u48, u49, u50, undef, undef], []⟩ : Act) ∧ (D 8 → (t12 = .int .i64 z ∧ Hid (Below w2.heap.size w2 X))) ∧ (¬ D 8 → Hid (Below w2.heap.size w2 X) ∧ (D 0 → (t34 = (.agg #[.int .i64 (L : Int), .int .i64 pa, .int .i64 pb]))) ∧ (D 1 → (t35 = v)) ∧ (D 2 → (t36 = .int .i64 (k : Int))) ∧ (D 3 → (k = k ∧ LoadRow X t37 rows)) ∧ (D 4 → (t38 = .slice (some ⟨g, 0, none⟩) (L + 1) c ∧ AtC X g Q z)) ∧ (D 5 → (t39 = .int .i64 (Q : Int))) ∧ (D 6 → (t40 = .pointer (some ⟨g, Q, none⟩))) ∧ (D 7 → (t41 = .int .i64 z)))) ?_ ?_ ?_
          · exact ⟨_, _, _, _, _, _, _, _, _, 0, 0, rfl, fun h => h.elim, fun _ => ⟨Lib.hid (lo_on HL.out (drw_b wr)), fun h => h.elim, fun h => h.elim, fun h => h.elim, fun h => h.elim, fun h => h.elim, fun h => h.elim, fun h => h.elim, fun h => h.elim⟩⟩
          · refine (show ∀ i, i < 9 → StepAt _ _ _ _ _ i from ?_)
            refine lt_more (n := 8) ?_ (lt_more (n := 7) ?_ (lt_more (n := 6) ?_ (lt_more (n := 5) ?_ (lt_more (n := 4) ?_ (lt_more (n := 3) ?_ (lt_more (n := 2) ?_ (lt_more (n := 1) ?_ (lt_more (n := 0) ?_ lt_none))))))))
            · refine step_of _ [7, 4, 0, 1, 2, 3, 4, 5, 6, 7] [] rfl (by kernel_rfl) (by kernel_rfl) ?_
              rintro D a X hn hd hc ⟨t34, t35, t36, t37, t38, t39, t40, t41, t12, g, c, rfl, _, hrest⟩ K' hK
              have nl := hn
              obtain ⟨LX, c0, c1, c2, c3, c4, c5, c6, c7⟩ := hrest nl
              clear hrest
              have d0 := hd 0 (by simp)
              have d1 := hd 1 (by simp)
              have d2 := hd 2 (by simp)
              have d3 := hd 3 (by simp)
              have d4 := hd 4 (by simp)
              have d5 := hd 5 (by simp)
              have d6 := hd 6 (by simp)
              have d7 := hd 7 (by simp)
              clear hd hc
              obtain rfl := c7 d7
              go_simp
              refine hK _ _ ⟨_, _, _, _, _, _, _, _, _, g, c, by first | rfl | simp [Act.put], fun _ => ?_, fun m => absurd (.inl rfl) m⟩
              exact ⟨rfl, LX⟩
            · refine step_of _ [6] [(8, 7), (6, 4)] rfl (by kernel_rfl) (by kernel_rfl) ?_
              rintro D a X hn hd hc ⟨t34, t35, t36, t37, t38, t39, t40, t41, t12, g, c, rfl, _, hrest⟩ K' hK
              have nl : ¬ D 8 := fun h => hn (hc (8, 7) (by simp) h)
              obtain ⟨LX, c0, c1, c2, c3, c4, c5, c6, c7⟩ := hrest nl
              clear hrest
              have d6 := hd 6 (by simp)
              have e6_4 := hc (6, 4) (by simp)
              clear hd hc
              obtain rfl := c6 d6
              have m2 := (c4 (e6_4 d6)).2.2
              go_simp
              refine hK _ _ ⟨_, _, _, _, _, _, _, _, _, g, c, by first | rfl | simp [Act.put], fun h => (nl (h.resolve_left (by decide))).elim, fun _ => ⟨LX, ?c0, ?c1, ?c2, ?c3, ?c4, ?c5, ?c6, ?c7⟩⟩
              case c0 => exact fun h0 => c0 (h0.resolve_left (by decide))
              case c1 => exact fun h1 => c1 (h1.resolve_left (by decide))
              case c2 => exact fun h2 => c2 (h2.resolve_left (by decide))
              case c3 => exact fun h3 => c3 (h3.resolve_left (by decide))
              case c4 => exact fun h4 => c4 (h4.resolve_left (by decide))
              case c5 => exact fun h5 => c5 (h5.resolve_left (by decide))
              case c6 => exact fun h6 => c6 (h6.resolve_left (by decide))
              case c7 => exact fun h7 => rfl
            · refine step_of _ [4, 5] [(8, 6)] rfl (by kernel_rfl) (by kernel_rfl) ?_
              rintro D a X hn hd hc ⟨t34, t35, t36, t37, t38, t39, t40, t41, t12, g, c, rfl, _, hrest⟩ K' hK
              have nl : ¬ D 8 := fun h => hn (hc (8, 6) (by simp) h)
              obtain ⟨LX, c0, c1, c2, c3, c4, c5, c6, c7⟩ := hrest nl
              clear hrest
              have d4 := hd 4 (by simp)
              have d5 := hd 5 (by simp)
              clear hd hc
              obtain ⟨rfl, m⟩ := c4 d4
              obtain rfl := c5 d5
              go_simp
              refine hK _ _ ⟨_, _, _, _, _, _, _, _, _, g, c, by first | rfl | simp [Act.put], fun h => (nl (h.resolve_left (by decide))).elim, fun _ => ⟨LX, ?c0, ?c1, ?c2, ?c3, ?c4, ?c5, ?c6, ?c7⟩⟩
              case c0 => exact fun h0 => c0 (h0.resolve_left (by decide))
              case c1 => exact fun h1 => c1 (h1.resolve_left (by decide))
              case c2 => exact fun h2 => c2 (h2.resolve_left (by decide))
              case c3 => exact fun h3 => c3 (h3.resolve_left (by decide))
              case c4 => exact fun h4 => ⟨rfl, m⟩
              case c5 => exact fun h5 => c5 (h5.resolve_left (by decide))
              case c6 => exact fun h6 => rfl
              case c7 => exact fun h7 => c7 (h7.resolve_left (by decide))
            · refine step_of _ [] [(8, 5)] rfl (by kernel_rfl) (by kernel_rfl) ?_
              rintro D a X hn hd hc ⟨t34, t35, t36, t37, t38, t39, t40, t41, t12, g, c, rfl, _, hrest⟩ K' hK
              have nl : ¬ D 8 := fun h => hn (hc (8, 5) (by simp) h)
              obtain ⟨LX, c0, c1, c2, c3, c4, c5, c6, c7⟩ := hrest nl
              clear hrest
              clear hd hc
              go_simp
              refine hK _ _ ⟨_, _, _, _, _, _, _, _, _, g, c, by first | rfl | simp [Act.put], fun h => (nl (h.resolve_left (by decide))).elim, fun _ => ⟨LX, ?c0, ?c1, ?c2, ?c3, ?c4, ?c5, ?c6, ?c7⟩⟩
              case c0 => exact fun h0 => c0 (h0.resolve_left (by decide))
              case c1 => exact fun h1 => c1 (h1.resolve_left (by decide))
              case c2 => exact fun h2 => c2 (h2.resolve_left (by decide))
              case c3 => exact fun h3 => c3 (h3.resolve_left (by decide))
              case c4 => exact fun h4 => c4 (h4.resolve_left (by decide))
              case c5 => exact fun h5 => rfl
              case c6 => exact fun h6 => c6 (h6.resolve_left (by decide))
              case c7 => exact fun h7 => c7 (h7.resolve_left (by decide))
            · refine step_of _ [0, 3, 3] [(8, 4), (6, 4)] rfl (by kernel_rfl) (by kernel_rfl) ?_
              rintro D a X hn hd hc ⟨t34, t35, t36, t37, t38, t39, t40, t41, t12, g, c, rfl, _, hrest⟩ K' hK
              have nl : ¬ D 8 := fun h => hn (hc (8, 4) (by simp) h)
              obtain ⟨LX, c0, c1, c2, c3, c4, c5, c6, c7⟩ := hrest nl
              clear hrest
              have d0 := hd 0 (by simp)
              have d3 := hd 3 (by simp)
              have e6_4 := hc (6, 4) (by simp)
              clear hd hc
              obtain rfl := c0 d0
              have C := DK.out t37 X (c3 d3).2
              go_simp
              refine C.mono ?_
              rintro e X5 ⟨g1, k1, rfl, m, l⟩
              go_simp
              refine hK _ _ ⟨_, _, _, _, _, _, _, _, _, g1, k1, by first | rfl | simp [Act.put], fun h => (nl (h.resolve_left (by decide))).elim, fun _ => ⟨Lib.hid (lo_on LX.out l), ?c0, ?c1, ?c2, ?c3, ?c4, ?c5, ?c6, ?c7⟩⟩
              case c0 => exact fun h0 => c0 (h0.resolve_left (by decide))
              case c1 => exact fun h1 => c1 (h1.resolve_left (by decide))
              case c2 => exact fun h2 => c2 (h2.resolve_left (by decide))
              case c3 => exact fun h3 => ⟨(c3 (h3.resolve_left (by decide))).1, (c3 (h3.resolve_left (by decide))).2.lo l⟩
              case c4 => exact fun h4 => ⟨rfl, m⟩
              case c5 => exact fun h5 => c5 (h5.resolve_left (by decide))
              case c6 => exact fun h6 => (hn (e6_4 (h6.resolve_left (by decide)))).elim
              case c7 => exact fun h7 => c7 (h7.resolve_left (by decide))
            · refine step_of _ [1, 2] [(8, 3), (4, 3)] rfl (by kernel_rfl) (by kernel_rfl) ?_
              rintro D a X hn hd hc ⟨t34, t35, t36, t37, t38, t39, t40, t41, t12, g, c, rfl, _, hrest⟩ K' hK
              have nl : ¬ D 8 := fun h => hn (hc (8, 3) (by simp) h)
              obtain ⟨LX, c0, c1, c2, c3, c4, c5, c6, c7⟩ := hrest nl
              clear hrest
              have d1 := hd 1 (by simp)
              have d2 := hd 2 (by simp)
              have e4_3 := hc (4, 3) (by simp)
              clear hd hc
              obtain rfl := c1 d1
              obtain rfl := c2 d2
              have C := AK.out X LX.out
              go_simp
              refine C.mono ?_
              rintro e X5 ⟨u, rfl, m, l⟩
              go_simp
              refine hK _ _ ⟨_, _, _, _, _, _, _, _, _, g, c, by first | rfl | simp [Act.put], fun h => (nl (h.resolve_left (by decide))).elim, fun _ => ⟨Lib.hid (lo_on LX.out l), ?c0, ?c1, ?c2, ?c3, ?c4, ?c5, ?c6, ?c7⟩⟩
              case c0 => exact fun h0 => c0 (h0.resolve_left (by decide))
              case c1 => exact fun h1 => c1 (h1.resolve_left (by decide))
              case c2 => exact fun h2 => c2 (h2.resolve_left (by decide))
              case c3 => exact fun h3 => ⟨rfl, m⟩
              case c4 => exact fun h4 => (hn (e4_3 (h4.resolve_left (by decide)))).elim
              case c5 => exact fun h5 => c5 (h5.resolve_left (by decide))
              case c6 => exact fun h6 => c6 (h6.resolve_left (by decide))
              case c7 => exact fun h7 => c7 (h7.resolve_left (by decide))
            · refine step_of _ [] [(8, 2)] rfl (by kernel_rfl) (by kernel_rfl) ?_
              rintro D a X hn hd hc ⟨t34, t35, t36, t37, t38, t39, t40, t41, t12, g, c, rfl, _, hrest⟩ K' hK
              have nl : ¬ D 8 := fun h => hn (hc (8, 2) (by simp) h)
              obtain ⟨LX, c0, c1, c2, c3, c4, c5, c6, c7⟩ := hrest nl
              clear hrest
              clear hd hc
              go_simp
              refine hK _ _ ⟨_, _, _, _, _, _, _, _, _, g, c, by first | rfl | simp [Act.put], fun h => (nl (h.resolve_left (by decide))).elim, fun _ => ⟨LX, ?c0, ?c1, ?c2, ?c3, ?c4, ?c5, ?c6, ?c7⟩⟩
              case c0 => exact fun h0 => c0 (h0.resolve_left (by decide))
              case c1 => exact fun h1 => c1 (h1.resolve_left (by decide))
              case c2 => exact fun h2 => rfl
              case c3 => exact fun h3 => c3 (h3.resolve_left (by decide))
              case c4 => exact fun h4 => c4 (h4.resolve_left (by decide))
              case c5 => exact fun h5 => c5 (h5.resolve_left (by decide))
              case c6 => exact fun h6 => c6 (h6.resolve_left (by decide))
              case c7 => exact fun h7 => c7 (h7.resolve_left (by decide))
            · refine step_of _ [] [(8, 1)] rfl (by kernel_rfl) (by kernel_rfl) ?_
              rintro D a X hn hd hc ⟨t34, t35, t36, t37, t38, t39, t40, t41, t12, g, c, rfl, _, hrest⟩ K' hK
              have nl : ¬ D 8 := fun h => hn (hc (8, 1) (by simp) h)
              obtain ⟨LX, c0, c1, c2, c3, c4, c5, c6, c7⟩ := hrest nl
              clear hrest
              clear hd hc
              go_simp
              refine hK _ _ ⟨_, _, _, _, _, _, _, _, _, g, c, by first | rfl | simp [Act.put], fun h => (nl (h.resolve_left (by decide))).elim, fun _ => ⟨LX, ?c0, ?c1, ?c2, ?c3, ?c4, ?c5, ?c6, ?c7⟩⟩
              case c0 => exact fun h0 => c0 (h0.resolve_left (by decide))
              case c1 => exact fun h1 => rfl
              case c2 => exact fun h2 => c2 (h2.resolve_left (by decide))
              case c3 => exact fun h3 => c3 (h3.resolve_left (by decide))
              case c4 => exact fun h4 => c4 (h4.resolve_left (by decide))
              case c5 => exact fun h5 => c5 (h5.resolve_left (by decide))
              case c6 => exact fun h6 => c6 (h6.resolve_left (by decide))
              case c7 => exact fun h7 => c7 (h7.resolve_left (by decide))
            · refine step_of _ [] [(8, 0)] rfl (by kernel_rfl) (by kernel_rfl) ?_
              rintro D a X hn hd hc ⟨t34, t35, t36, t37, t38, t39, t40, t41, t12, g, c, rfl, _, hrest⟩ K' hK
              have nl : ¬ D 8 := fun h => hn (hc (8, 0) (by simp) h)
              obtain ⟨LX, c0, c1, c2, c3, c4, c5, c6, c7⟩ := hrest nl
              clear hrest
              clear hd hc
              obtain ⟨_, x0, x1, x2⟩ := B2.out.lo LX.out
              go_simp
              refine hK _ _ ⟨_, _, _, _, _, _, _, _, _, g, c, by first | rfl | simp [Act.put], fun h => (nl (h.resolve_left (by decide))).elim, fun _ => ⟨LX, ?c0, ?c1, ?c2, ?c3, ?c4, ?c5, ?c6, ?c7⟩⟩
              case c0 => exact fun h0 => rfl
              case c1 => exact fun h1 => c1 (h1.resolve_left (by decide))
              case c2 => exact fun h2 => c2 (h2.resolve_left (by decide))
              case c3 => exact fun h3 => c3 (h3.resolve_left (by decide))
              case c4 => exact fun h4 => c4 (h4.resolve_left (by decide))
              case c5 => exact fun h5 => c5 (h5.resolve_left (by decide))
              case c6 => exact fun h6 => c6 (h6.resolve_left (by decide))
              case c7 => exact fun h7 => c7 (h7.resolve_left (by decide))
          · rintro D a X hall ⟨t34, t35, t36, t37, t38, t39, t40, t41, t12, g, c, rfl, hfin, _⟩
            have HFIN := Lib.hid (hfin (hall 8 (by decide)))
            clear hfin hall
            obtain ⟨rfl, L6⟩ := HFIN.out
            go_wp2
            go_roundw
            case rel => exact ⟨k + 1, by omega, by go_num, by rw [HSy.out], by rw [HAn.out, if_neg (by omega), HSy.out], L6⟩
            case measure => simp [intOf]; omega
      · have HSy := Lib.hid (show G (k + 1) = G k by rw [HSk.out, if_neg hcond])
        have hk0 : k ≠ 0 := fun h => hcond (.inl h)
        have hy0 : ¬ y < 0 := by have := hA1 hk0; omega
        have hxz : ¬ x < z := fun h => hcond (.inr h)
        have HK0 := Lib.hid hk0
        clear HSk hA0 hA1 hcond hk0
        go_wp2
        refine wp_region_inv (by kernel_rfl) (by kernel_rfl) (fun D a X => ∃ (t34 t35 t36 t37 t38 t39 t40 t41 t12 : Value) (g c : Nat), a = (⟨#[(.agg #[.int .i64 (L : Int), .int .i64 pa, .int .i64 pb]), v, .int .i64 (Q : Int), .pointer (some ⟨w.heap.size, 0, none⟩), undef, undef, .int .i64 0, .int .i64 0, .bool false, .int .i64 x, .int .i64 y, .int .i64 (k : Int), t12, (.agg #[.int .i64 (L : Int), .int .i64 pa, .int .i64 pb]), .bool true, .bool false, .bool false, v, .bool true, .bool false, .bool false, .bool false, .int .i64 (Q : Int), .pointer (some ⟨w.heap.size, 0, none⟩), .int .i64 (L : Int), .bool true, .bool false, .bool false, .int .i64 (k : Int), .pointer (some ⟨w.heap.size, 0, none⟩), .int .i64 (L : Int), .bool true, u32, u33, t34, t35, t36, t37, t38, t39, t40, t41, u42, u43, u44, u45, u46, u47, u48, u49, u50, undef, undef], []⟩ : Act) ∧ (D 8 → (t12 = .int .i64 z ∧ Hid (Below w2.heap.size w2 X))) ∧ (¬ D 8 → Hid (Below w2.heap.size w2 X) ∧ (D 0 → (t34 = (.agg #[.int .i64 (L : Int), .int .i64 pa, .int .i64 pb]))) ∧ (D 1 → (t35 = v)) ∧ (D 2 → (t36 = .int .i64 (k : Int))) ∧ (D 3 → (k = k ∧ LoadRow X t37 rows)) ∧ (D 4 → (t38 = .slice (some ⟨g, 0, none⟩) (L + 1) c ∧ AtC X g Q z)) ∧ (D 5 → (t39 = .int .i64 (Q : Int))) ∧ (D 6 → (t40 = .pointer (some ⟨g, Q, none⟩))) ∧ (D 7 → (t41 = .int .i64 z)))) ?_ ?_ ?_
        · exact ⟨_, _, _, _, _, _, _, _, _, 0, 0, rfl, fun h => h.elim, fun _ => ⟨Lib.hid (lo_on HL.out (drw_b wr)), fun h => h.elim, fun h => h.elim, fun h => h.elim, fun h => h.elim, fun h => h.elim, fun h => h.elim, fun h => h.elim, fun h => h.elim⟩⟩
        · refine (show ∀ i, i < 9 → StepAt _ _ _ _ _ i from ?_)
          refine lt_more (n := 8) ?_ (lt_more (n := 7) ?_ (lt_more (n := 6) ?_ (lt_more (n := 5) ?_ (lt_more (n := 4) ?_ (lt_more (n := 3) ?_ (lt_more (n := 2) ?_ (lt_more (n := 1) ?_ (lt_more (n := 0) ?_ lt_none))))))))
          · refine step_of _ [7, 4, 0, 1, 2, 3, 4, 5, 6, 7] [] rfl (by kernel_rfl) (by kernel_rfl) ?_
            rintro D a X hn hd hc ⟨t34, t35, t36, t37, t38, t39, t40, t41, t12, g, c, rfl, _, hrest⟩ K' hK
            have nl := hn
            obtain ⟨LX, c0, c1, c2, c3, c4, c5, c6, c7⟩ := hrest nl
            clear hrest
            have d0 := hd 0 (by simp)
            have d1 := hd 1 (by simp)
            have d2 := hd 2 (by simp)
            have d3 := hd 3 (by simp)
            have d4 := hd 4 (by simp)
            have d5 := hd 5 (by simp)
            have d6 := hd 6 (by simp)
            have d7 := hd 7 (by simp)
            clear hd hc
            obtain rfl := c7 d7
            go_simp
            refine hK _ _ ⟨_, _, _, _, _, _, _, _, _, g, c, by first | rfl | simp [Act.put], fun _ => ?_, fun m => absurd (.inl rfl) m⟩
            exact ⟨rfl, LX⟩
          · refine step_of _ [6] [(8, 7), (6, 4)] rfl (by kernel_rfl) (by kernel_rfl) ?_
            rintro D a X hn hd hc ⟨t34, t35, t36, t37, t38, t39, t40, t41, t12, g, c, rfl, _, hrest⟩ K' hK
            have nl : ¬ D 8 := fun h => hn (hc (8, 7) (by simp) h)
            obtain ⟨LX, c0, c1, c2, c3, c4, c5, c6, c7⟩ := hrest nl
            clear hrest
            have d6 := hd 6 (by simp)
            have e6_4 := hc (6, 4) (by simp)
            clear hd hc
            obtain rfl := c6 d6
            have m2 := (c4 (e6_4 d6)).2.2
            go_simp
            refine hK _ _ ⟨_, _, _, _, _, _, _, _, _, g, c, by first | rfl | simp [Act.put], fun h => (nl (h.resolve_left (by decide))).elim, fun _ => ⟨LX, ?c0, ?c1, ?c2, ?c3, ?c4, ?c5, ?c6, ?c7⟩⟩
            case c0 => exact fun h0 => c0 (h0.resolve_left (by decide))
            case c1 => exact fun h1 => c1 (h1.resolve_left (by decide))
            case c2 => exact fun h2 => c2 (h2.resolve_left (by decide))
            case c3 => exact fun h3 => c3 (h3.resolve_left (by decide))
            case c4 => exact fun h4 => c4 (h4.resolve_left (by decide))
            case c5 => exact fun h5 => c5 (h5.resolve_left (by decide))
            case c6 => exact fun h6 => c6 (h6.resolve_left (by decide))
            case c7 => exact fun h7 => rfl
          · refine step_of _ [4, 5] [(8, 6)] rfl (by kernel_rfl) (by kernel_rfl) ?_
            rintro D a X hn hd hc ⟨t34, t35, t36, t37, t38, t39, t40, t41, t12, g, c, rfl, _, hrest⟩ K' hK
            have nl : ¬ D 8 := fun h => hn (hc (8, 6) (by simp) h)
            obtain ⟨LX, c0, c1, c2, c3, c4, c5, c6, c7⟩ := hrest nl
            clear hrest
            have d4 := hd 4 (by simp)
            have d5 := hd 5 (by simp)
            clear hd hc
            obtain ⟨rfl, m⟩ := c4 d4
            obtain rfl := c5 d5
            go_simp
            refine hK _ _ ⟨_, _, _, _, _, _, _, _, _, g, c, by first | rfl | simp [Act.put], fun h => (nl (h.resolve_left (by decide))).elim, fun _ => ⟨LX, ?c0, ?c1, ?c2, ?c3, ?c4, ?c5, ?c6, ?c7⟩⟩
            case c0 => exact fun h0 => c0 (h0.resolve_left (by decide))
            case c1 => exact fun h1 => c1 (h1.resolve_left (by decide))
            case c2 => exact fun h2 => c2 (h2.resolve_left (by decide))
            case c3 => exact fun h3 => c3 (h3.resolve_left (by decide))
            case c4 => exact fun h4 => ⟨rfl, m⟩
            case c5 => exact fun h5 => c5 (h5.resolve_left (by decide))
            case c6 => exact fun h6 => rfl
            case c7 => exact fun h7 => c7 (h7.resolve_left (by decide))
          · refine step_of _ [] [(8, 5)] rfl (by kernel_rfl) (by kernel_rfl) ?_
            rintro D a X hn hd hc ⟨t34, t35, t36, t37, t38, t39, t40, t41, t12, g, c, rfl, _, hrest⟩ K' hK
            have nl : ¬ D 8 := fun h => hn (hc (8, 5) (by simp) h)
            obtain ⟨LX, c0, c1, c2, c3, c4, c5, c6, c7⟩ := hrest nl
            clear hrest
            clear hd hc
            go_simp
            refine hK _ _ ⟨_, _, _, _, _, _, _, _, _, g, c, by first | rfl | simp [Act.put], fun h => (nl (h.resolve_left (by decide))).elim, fun _ => ⟨LX, ?c0, ?c1, ?c2, ?c3, ?c4, ?c5, ?c6, ?c7⟩⟩
            case c0 => exact fun h0 => c0 (h0.resolve_left (by decide))
            case c1 => exact fun h1 => c1 (h1.resolve_left (by decide))
            case c2 => exact fun h2 => c2 (h2.resolve_left (by decide))
            case c3 => exact fun h3 => c3 (h3.resolve_left (by decide))
            case c4 => exact fun h4 => c4 (h4.resolve_left (by decide))
            case c5 => exact fun h5 => rfl
            case c6 => exact fun h6 => c6 (h6.resolve_left (by decide))
            case c7 => exact fun h7 => c7 (h7.resolve_left (by decide))
          · refine step_of _ [0, 3, 3] [(8, 4), (6, 4)] rfl (by kernel_rfl) (by kernel_rfl) ?_
            rintro D a X hn hd hc ⟨t34, t35, t36, t37, t38, t39, t40, t41, t12, g, c, rfl, _, hrest⟩ K' hK
            have nl : ¬ D 8 := fun h => hn (hc (8, 4) (by simp) h)
            obtain ⟨LX, c0, c1, c2, c3, c4, c5, c6, c7⟩ := hrest nl
            clear hrest
            have d0 := hd 0 (by simp)
            have d3 := hd 3 (by simp)
            have e6_4 := hc (6, 4) (by simp)
            clear hd hc
            obtain rfl := c0 d0
            have C := DK.out t37 X (c3 d3).2
            go_simp
            refine C.mono ?_
            rintro e X5 ⟨g1, k1, rfl, m, l⟩
            go_simp
            refine hK _ _ ⟨_, _, _, _, _, _, _, _, _, g1, k1, by first | rfl | simp [Act.put], fun h => (nl (h.resolve_left (by decide))).elim, fun _ => ⟨Lib.hid (lo_on LX.out l), ?c0, ?c1, ?c2, ?c3, ?c4, ?c5, ?c6, ?c7⟩⟩
            case c0 => exact fun h0 => c0 (h0.resolve_left (by decide))
            case c1 => exact fun h1 => c1 (h1.resolve_left (by decide))
            case c2 => exact fun h2 => c2 (h2.resolve_left (by decide))
            case c3 => exact fun h3 => ⟨(c3 (h3.resolve_left (by decide))).1, (c3 (h3.resolve_left (by decide))).2.lo l⟩
            case c4 => exact fun h4 => ⟨rfl, m⟩
            case c5 => exact fun h5 => c5 (h5.resolve_left (by decide))
            case c6 => exact fun h6 => (hn (e6_4 (h6.resolve_left (by decide)))).elim
            case c7 => exact fun h7 => c7 (h7.resolve_left (by decide))
          · refine step_of _ [1, 2] [(8, 3), (4, 3)] rfl (by kernel_rfl) (by kernel_rfl) ?_
            rintro D a X hn hd hc ⟨t34, t35, t36, t37, t38, t39, t40, t41, t12, g, c, rfl, _, hrest⟩ K' hK
            have nl : ¬ D 8 := fun h => hn (hc (8, 3) (by simp) h)
            obtain ⟨LX, c0, c1, c2, c3, c4, c5, c6, c7⟩ := hrest nl
            clear hrest
            have d1 := hd 1 (by simp)
            have d2 := hd 2 (by simp)
            have e4_3 := hc (4, 3) (by simp)
            clear hd hc
            obtain rfl := c1 d1
            obtain rfl := c2 d2
            have C := AK.out X LX.out
            go_simp
            refine C.mono ?_
            rintro e X5 ⟨u, rfl, m, l⟩
            go_simp
            refine hK _ _ ⟨_, _, _, _, _, _, _, _, _, g, c, by first | rfl | simp [Act.put], fun h => (nl (h.resolve_left (by decide))).elim, fun _ => ⟨Lib.hid (lo_on LX.out l), ?c0, ?c1, ?c2, ?c3, ?c4, ?c5, ?c6, ?c7⟩⟩
            case c0 => exact fun h0 => c0 (h0.resolve_left (by decide))
            case c1 => exact fun h1 => c1 (h1.resolve_left (by decide))
            case c2 => exact fun h2 => c2 (h2.resolve_left (by decide))
            case c3 => exact fun h3 => ⟨rfl, m⟩
            case c4 => exact fun h4 => (hn (e4_3 (h4.resolve_left (by decide)))).elim
            case c5 => exact fun h5 => c5 (h5.resolve_left (by decide))
            case c6 => exact fun h6 => c6 (h6.resolve_left (by decide))
            case c7 => exact fun h7 => c7 (h7.resolve_left (by decide))
          · refine step_of _ [] [(8, 2)] rfl (by kernel_rfl) (by kernel_rfl) ?_
            rintro D a X hn hd hc ⟨t34, t35, t36, t37, t38, t39, t40, t41, t12, g, c, rfl, _, hrest⟩ K' hK
            have nl : ¬ D 8 := fun h => hn (hc (8, 2) (by simp) h)
            obtain ⟨LX, c0, c1, c2, c3, c4, c5, c6, c7⟩ := hrest nl
            clear hrest
            clear hd hc
            go_simp
            refine hK _ _ ⟨_, _, _, _, _, _, _, _, _, g, c, by first | rfl | simp [Act.put], fun h => (nl (h.resolve_left (by decide))).elim, fun _ => ⟨LX, ?c0, ?c1, ?c2, ?c3, ?c4, ?c5, ?c6, ?c7⟩⟩
            case c0 => exact fun h0 => c0 (h0.resolve_left (by decide))
            case c1 => exact fun h1 => c1 (h1.resolve_left (by decide))
            case c2 => exact fun h2 => rfl
            case c3 => exact fun h3 => c3 (h3.resolve_left (by decide))
            case c4 => exact fun h4 => c4 (h4.resolve_left (by decide))
            case c5 => exact fun h5 => c5 (h5.resolve_left (by decide))
            case c6 => exact fun h6 => c6 (h6.resolve_left (by decide))
            case c7 => exact fun h7 => c7 (h7.resolve_left (by decide))
          · refine step_of _ [] [(8, 1)] rfl (by kernel_rfl) (by kernel_rfl) ?_
            rintro D a X hn hd hc ⟨t34, t35, t36, t37, t38, t39, t40, t41, t12, g, c, rfl, _, hrest⟩ K' hK
            have nl : ¬ D 8 := fun h => hn (hc (8, 1) (by simp) h)
            obtain ⟨LX, c0, c1, c2, c3, c4, c5, c6, c7⟩ := hrest nl
            clear hrest
            clear hd hc
            go_simp
            refine hK _ _ ⟨_, _, _, _, _, _, _, _, _, g, c, by first | rfl | simp [Act.put], fun h => (nl (h.resolve_left (by decide))).elim, fun _ => ⟨LX, ?c0, ?c1, ?c2, ?c3, ?c4, ?c5, ?c6, ?c7⟩⟩
            case c0 => exact fun h0 => c0 (h0.resolve_left (by decide))
            case c1 => exact fun h1 => rfl
            case c2 => exact fun h2 => c2 (h2.resolve_left (by decide))
            case c3 => exact fun h3 => c3 (h3.resolve_left (by decide))
            case c4 => exact fun h4 => c4 (h4.resolve_left (by decide))
            case c5 => exact fun h5 => c5 (h5.resolve_left (by decide))
            case c6 => exact fun h6 => c6 (h6.resolve_left (by decide))
            case c7 => exact fun h7 => c7 (h7.resolve_left (by decide))
          · refine step_of _ [] [(8, 0)] rfl (by kernel_rfl) (by kernel_rfl) ?_
            rintro D a X hn hd hc ⟨t34, t35, t36, t37, t38, t39, t40, t41, t12, g, c, rfl, _, hrest⟩ K' hK
            have nl : ¬ D 8 := fun h => hn (hc (8, 0) (by simp) h)
            obtain ⟨LX, c0, c1, c2, c3, c4, c5, c6, c7⟩ := hrest nl
            clear hrest
            clear hd hc
            obtain ⟨_, x0, x1, x2⟩ := B2.out.lo LX.out
            go_simp
            refine hK _ _ ⟨_, _, _, _, _, _, _, _, _, g, c, by first | rfl | simp [Act.put], fun h => (nl (h.resolve_left (by decide))).elim, fun _ => ⟨LX, ?c0, ?c1, ?c2, ?c3, ?c4, ?c5, ?c6, ?c7⟩⟩
            case c0 => exact fun h0 => rfl
            case c1 => exact fun h1 => c1 (h1.resolve_left (by decide))
            case c2 => exact fun h2 => c2 (h2.resolve_left (by decide))
            case c3 => exact fun h3 => c3 (h3.resolve_left (by decide))
            case c4 => exact fun h4 => c4 (h4.resolve_left (by decide))
            case c5 => exact fun h5 => c5 (h5.resolve_left (by decide))
            case c6 => exact fun h6 => c6 (h6.resolve_left (by decide))
            case c7 => exact fun h7 => c7 (h7.resolve_left (by decide))
        · rintro D a X hall ⟨t34, t35, t36, t37, t38, t39, t40, t41, t12, g, c, rfl, hfin, _⟩
          have HFIN := Lib.hid (hfin (hall 8 (by decide)))
          clear hfin hall
          obtain ⟨rfl, L6⟩ := HFIN.out
          go_wp2
          go_roundw
          case rel => exact ⟨k + 1, by omega, by go_num, by rw [HSy.out, HX.out], by rw [HAn.out, if_neg (by omega), HSy.out, HYk.out, if_neg HK0.out], L6⟩
          case measure => simp [intOf]; omega
    · obtain rfl : k = L + 1 := by omega
      have hge : ¬ ((L : Int) + 1 ≤ (L : Int)) := by omega
      have HAk := HA.out (L + 1)
      rw [if_neg (by omega)] at HAk
      rw [HAk]
      clear HAk
      go_wp2
      go_ret3
      exact ⟨rfl, lo_on L2.out HL.out⟩
end Go.Proofs.Ythncgcdnljoakaa
