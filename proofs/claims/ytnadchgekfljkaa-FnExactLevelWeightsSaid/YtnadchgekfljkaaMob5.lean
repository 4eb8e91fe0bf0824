/- The contract of the model's FixLeaf. -/
import Derived.Test.YtnadchgekfljkaaMob4
namespace Go.Proofs.Ytnadchgekfljkaa
open Go.RowKit
noncomputable def rodB (m : MobV) (i e : Int) : Bool := goodB m && (decide (0 ≤ i) && decide (i ≤ (m.am.length : Int) - 1)) && (decide (0 ≤ e) && decide (e ≤ 1))
set_option maxRecDepth 100000 in
set_option maxHeartbeats 1600000 in
theorem l5Rod_any (v : Value) (m : MobV) (i e : Int) (w : World) (hv : MobRow w v m) (hs : SmallM m) (hb : BndM m) :
    Calls Try.prog 109 #[v, .int .i64 i, .int .i64 e] w fun q w' => q = .returned (.bool (rodB m i e)) ∧ Below w.heap.size w w' := by
  have D := Lib.hid (fun w1 (l : Below w.heap.size w w1) => l5Good_any v m w1 (hv.lo l) hs hb)
  have A1 := Lib.hid (fun w => l1In_is i 0 ((m.am.length : Int) - 1) _ rfl w)
  have A2 := Lib.hid (fun w => l1In_is e 0 1 _ rfl w)
  have hn0 := hs.1
  unfold rodB
  obtain ⟨a, b, c, d, rfl⟩ := hv.form
  obtain ⟨W, hW⟩ : ∃ W, w.alloc (.cells #[.slice a m.am.length c, .slice b m.hu.length d] 27) = W := ⟨_, rfl⟩
  have LW := Lib.hid (show Below w.heap.size w W by rw [← hW]; exact (Below.refl _ _).alloc (Nat.le_refl _) _)
  have BX := Lib.hid (show Box2 W w.heap.size (.slice a m.am.length c) (.slice b m.hu.length d) by rw [← hW]; exact box2_new _ _ _ _)
  have D1 := Lib.hid (D.out W LW.out)
  generalize (decide (0 ≤ i) && decide (i ≤ (m.am.length : Int) - 1)) = p at *
  generalize (decide (0 ≤ e) && decide (e ≤ 1)) = q at *
  generalize goodB m = r at *
  generalize m.am.length = n at *
  generalize m.hu.length = n2 at *
  clear hv hs hb D
  obtain ⟨_, u0, u1⟩ := BX.out
  cases r with
  | false =>
    go_enter Try.func109, Try.ntmps109
    go_wp2_with fail
    clear hW u0 u1
    refine D1.out.mono ?_
    rintro e' w1 ⟨rfl, l1⟩
    have L1 := Lib.hid (lo_on LW.out l1)
    clear l1 D1
    go_wp2
    go_ret
    exact ⟨rfl, L1.out⟩
  | true =>
    cases p with
    | false =>
      go_enter Try.func109, Try.ntmps109
      go_wp2_with fail
      clear hW u0 u1
      refine D1.out.mono ?_
      rintro e' w1 ⟨rfl, l1⟩
      have L1 := Lib.hid (lo_on LW.out l1)
      obtain ⟨_, u0, u1⟩ := BX.out.lo l1
      clear l1 D1
      go_wp2_with fail
      refine (A1.out _).mono ?_
      rintro e' w' ⟨rfl, rfl⟩
      go_wp2
      go_ret
      exact ⟨rfl, L1.out⟩
    | true =>
      go_enter Try.func109, Try.ntmps109
      go_wp2_with fail
      clear hW u0 u1
      refine D1.out.mono ?_
      rintro e' w1 ⟨rfl, l1⟩
      have L1 := Lib.hid (lo_on LW.out l1)
      obtain ⟨_, u0, u1⟩ := BX.out.lo l1
      clear l1 D1
      go_wp2_with fail
      refine (A1.out _).mono ?_
      rintro e' w' ⟨rfl, rfl⟩
      go_wp2_with fail
      refine (A2.out _).mono ?_
      rintro e' w' ⟨rfl, rfl⟩
      go_wp2
      go_ret
      exact ⟨by simp, L1.out⟩
/-- The other end of an end, and what is asked there. -/
def othM (t : Nat) : Nat := if t % 2 = 0 then t + 1 else t - 1
noncomputable def fixO (m : MobV) (t : Nat) : Int := avM m (othM t) * atM (hvM m (othM t)) (wtM m)
noncomputable def fixB (m : MobV) (i e : Int) : Bool := rodB m i e && (decide (0 ≤ hvM m (2 * i.toNat + e.toNat)) && (decide (fixO m (2 * i.toNat + e.toNat) % avM m (2 * i.toNat + e.toNat) = 0) && decide (fixO m (2 * i.toNat + e.toNat) / avM m (2 * i.toNat + e.toNat) ≤ 99)))
noncomputable def fixV (m : MobV) (i e : Int) : Int := if fixB m i e = true then fixO m (2 * i.toNat + e.toNat) / avM m (2 * i.toNat + e.toNat) else 0
set_option maxRecDepth 100000 in
set_option maxHeartbeats 3200000 in
theorem specFix_yes (v : Value) (m : MobV) (k e : Nat) (w : World) (hv : MobRow w v m) (hb : BndM m) (hf : MobF m) (hk : k < m.am.length) (he : e < 2) :
    Calls Try.prog 44 #[v, .int .i64 (k : Int), .int .i64 (e : Int)] w fun q w' => q = .returned (.tuple #[.int .i64 (fixV m k e), .bool (fixB m k e)]) ∧ Below w.heap.size w w' := by
  have hg : goodB m = true := (goodB_iff m).2 hf
  have h1 := hf.one
  have h6 := hf.short
  have hs := hf.same
  have hr : rodB m (k : Int) (e : Int) = true := by unfold rodB; rw [hg]; simp; omega
  have D := Lib.hid (fun w1 (l : Below w.heap.size w w1) => l5Rod_any v m (k : Int) (e : Int) w1 (hv.lo l) hf.small hb)
  rw [hr] at D
  have HFB := Lib.hid (show fixB m (k : Int) (e : Int) = (decide (0 ≤ hvM m (2 * k + e)) && (decide (fixO m (2 * k + e) % avM m (2 * k + e) = 0) && decide (fixO m (2 * k + e) / avM m (2 * k + e) ≤ 99))) by unfold fixB; rw [hr]; simp)
  have HFV := Lib.hid (show fixV m (k : Int) (e : Int) = if fixB m (k : Int) (e : Int) = true then fixO m (2 * k + e) / avM m (2 * k + e) else 0 by unfold fixV; simp)
  have WT := Lib.hid (fun w1 (l : Below w.heap.size w w1) => l5Weights_any v m w1 (hv.lo l) hf)
  obtain ⟨av, bv, rfl, ha, hh⟩ := hv
  obtain ⟨g, off, c, rfl, hgg, hca⟩ := pair_at ha (by omega)
  obtain ⟨g', off', c', rfl, hgg', hch⟩ := pair_at hh (by omega)
  obtain ⟨n, hn⟩ : ∃ n, m.am.length = n := ⟨_, rfl⟩
  have EC := Lib.hid (fun i e (h1 : i < n) (h2 : e < 2) => end_cells hn (hs.trans hn) hca hch i e h1 h2)
  have n1 := hf.ends (2 * k + e) (by omega)
  have n2 := hf.ends (2 * k + (1 - e)) (by omega)
  unfold EndF at n1 n2
  rw [hn] at n1 n2
  rw [show (2 * k + e) / 2 = k by omega] at n1
  rw [show (2 * k + (1 - e)) / 2 = k by omega] at n2
  have hoth : othM (2 * k + e) = 2 * k + (1 - e) := by unfold othM; split <;> omega
  have HSM := Lib.hid (show ∀ j, 0 ≤ wtM m j ∧ wtM m j ≤ 6336 from fun j => wsM_small hf m.am.length (Nat.le_refl _) j)
  have HFO := Lib.hid (show fixO m (2 * k + e) = avM m (2 * k + (1 - e)) * atM (hvM m (2 * k + (1 - e))) (wtM m) by unfold fixO; rw [hoth])
  obtain ⟨W, hW⟩ : ∃ W, w.alloc (.cells #[.slice (some ⟨g, off, none⟩) n c, .slice (some ⟨g', off', none⟩) n c'] 27) = W := ⟨_, rfl⟩
  have LW := Lib.hid (show Below w.heap.size w W by rw [← hW]; exact (Below.refl _ _).alloc (Nat.le_refl _) _)
  have BX := Lib.hid (show Box2 W w.heap.size (.slice (some ⟨g, off, none⟩) n c) (.slice (some ⟨g', off', none⟩) n c') by rw [← hW]; exact box2_new _ _ _ _)
  rw [hs, hn] at WT D
  rw [hs, hn]
  rw [hn] at h1 h6 hk
  have D1 := Lib.hid (D.out W LW.out)
  have E1 := Lib.hid (EC.out k e hk he)
  have E2 := Lib.hid (EC.out k (1 - e) hk (by omega))
  obtain ⟨x, hx⟩ : ∃ x, avM m (2 * k + e) = x := ⟨_, rfl⟩
  obtain ⟨h, hh2⟩ : ∃ x, hvM m (2 * k + e) = x := ⟨_, rfl⟩
  obtain ⟨y, hy⟩ : ∃ x, avM m (2 * k + (1 - e)) = x := ⟨_, rfl⟩
  obtain ⟨p, hp⟩ : ∃ x, hvM m (2 * k + (1 - e)) = x := ⟨_, rfl⟩
  obtain ⟨f, hff⟩ : ∃ f, wtM m = f := ⟨_, rfl⟩
  rw [hx, hh2] at E1 n1
  rw [hy, hp] at E2 n2
  rw [hx, hh2] at HFB
  rw [hx] at HFV
  rw [hy, hp, hff] at HFO
  rw [hff] at HSM
  have HFF := Lib.hid hff
  have hb2 := atM_bnd p f 6336 (by omega) (by omega) HSM.out
  obtain ⟨b, hbb⟩ : ∃ b, atM p f = b := ⟨_, rfl⟩
  rw [hbb] at hb2 HFO
  have HBB := Lib.hid hbb
  have m1 := mul_bnd y b (by omega) (by omega) hb2.1 hb2.2
  obtain ⟨o, ho⟩ : ∃ o, y * b = o := ⟨_, rfl⟩
  have H1 := Lib.hid (show IntKind.i64.wrap (y * b) = o from (wrap_mid (y * b) (by omega) (by omega)).trans ho)
  rw [HFO.out, ho] at HFB HFV
  rw [ho] at m1
  obtain ⟨rb, hrb⟩ : ∃ r, fixB m (k : Int) (e : Int) = r := ⟨_, rfl⟩
  obtain ⟨rv, hrv⟩ : ∃ r, fixV m (k : Int) (e : Int) = r := ⟨_, rfl⟩
  rw [hrb] at HFB HFV ⊢
  rw [hrv] at HFV ⊢
  have bx0 : w.heap.size < W.heap.size := BX.out.1
  have hk' : (k : Int) < (n : Int) := by omega
  have he' : (e : Int) < 2 := by omega
  obtain ⟨d, hd⟩ : ∃ d, 1 - e = d := ⟨_, rfl⟩
  rw [hd] at E2
  have hd2 : (d : Int) < 2 := by omega
  have hdw : IntKind.i64.wrap (1 - (e : Int)) = (d : Int) := by rw [wrap_mid _ (by omega) (by omega)]; omega
  have hz0 : (0 : Int) ≤ (k : Int) := by omega
  have hz1 : (0 : Int) ≤ (e : Int) := by omega
  have hz2 : (0 : Int) ≤ (d : Int) := by omega
  have hx0 : ¬ x = 0 := by omega
  have hm1 : o % x = Int.tmod o x := (Int.tmod_eq_emod_of_nonneg m1.1).symm
  have hm2 : o / x = Int.tdiv o x := (Int.tdiv_eq_ediv_of_nonneg m1.1).symm
  have hr1 := Int.emod_nonneg o hx0
  have hr2 := Int.emod_lt_of_pos o (show 0 < x by omega)
  have hq1 := Int.ediv_nonneg m1.1 (show 0 ≤ x by omega)
  have hq2 := Int.ediv_le_self x m1.1
  rw [hm1] at hr1 hr2 HFB
  rw [hm2] at hq1 hq2 HFB HFV
  obtain ⟨r, hrr⟩ : ∃ r, Int.tmod o x = r := ⟨_, rfl⟩
  obtain ⟨q, hqq⟩ : ∃ r, Int.tdiv o x = r := ⟨_, rfl⟩
  rw [hrr] at hr1 hr2 HFB
  rw [hqq] at hq1 hq2 HFB HFV
  clear ha hh hca hch hs hn hf hg hr hoth hx hh2 hy hp hff hbb ho hrb hrv EC D HFO hb HSM hm1 hm2
  obtain ⟨_, u0, u1⟩ := BX.out
  go_enter Try.func44, Try.ntmps44
  go_wp2_with fail
  clear hW u0 u1
  refine D1.out.mono ?_
  rintro eq1 w1 ⟨rfl, l1⟩
  have L1 := Lib.hid l1
  obtain ⟨_, u0, u1⟩ := BX.out.lo l1
  have LX := LW.out.trans (l1.mono LW.out.size)
  obtain ⟨e1a, e1h⟩ := E1.out
  obtain ⟨e2a, e2h⟩ := E2.out
  rw [← LX.cell (p := ⟨g, off + k * 2 + e, none⟩) hgg] at e1a
  rw [← LX.cell (p := ⟨g', off' + k * 2 + e, none⟩) hgg'] at e1h
  rw [← LX.cell (p := ⟨g, off + k * 2 + d, none⟩) hgg] at e2a
  rw [← LX.cell (p := ⟨g', off' + k * 2 + d, none⟩) hgg'] at e2h
  have LXH := Lib.hid LX
  clear l1 D1 LX
  by_cases hneg : h < 0
  · have e1 : rb = false := by rw [HFB.out]; simp; omega
    subst e1
    have e2 : rv = 0 := by rw [HFV.out]; rfl
    subst e2
    go_wp2
    go_ret2
    exact ⟨rfl, LXH.out⟩
  · go_wp2
    have WT1 := Lib.hid (WT.out w1.drew (lo_on LXH.out (drew_below w1)))
    have hh1 := H1.out
    go_region_held3 (fun w' => w'.cell? ⟨w.heap.size, 0, none⟩ = some (.slice (some ⟨g, off, none⟩) n c) ∧ w'.cell? ⟨w.heap.size, 1, none⟩ = some (.slice (some ⟨g', off', none⟩) n c') ∧ w'.cell? ⟨g, off + k * 2 + d, none⟩ = some (.int .i64 y) ∧ w'.cell? ⟨g', off' + k * 2 + d, none⟩ = some (.int .i64 p))
      (first
        | exact ⟨u0, u1, e2a, e2h⟩
        | exact ⟨q0, q1, q2, q3⟩
        | go_keep)
      (first
        | (go_at_call 80; refine (WT1.out).mono ?_; rintro e5 v5 ⟨gw, rfl, hgw0, hgw1, hcw, _, hl⟩; have q0 := (hl.cell (p := ⟨w.heap.size, 0, none⟩) (by simpa using ‹w.heap.size < w1.heap.size›)).trans u0; have q1 := (hl.cell (p := ⟨w.heap.size, 1, none⟩) (by simpa using ‹w.heap.size < w1.heap.size›)).trans u1; have q2 := (hl.cell (p := ⟨g, off + k * 2 + d, none⟩) (by simp; omega)).trans e2a; have q3 := (hl.cell (p := ⟨g', off' + k * 2 + d, none⟩) (by simp; omega)).trans e2h)
        | (go_at_call 107; refine (l5At_any p gw n n f v5 (by omega) (by omega) h6 (fun h => ⟨by omega, by rw [← HFF.out]; exact hcw _ (by omega)⟩)).mono ?_; rw [HBB.out]; rintro e6 v6 ⟨rfl, rfl⟩))
    have L6 := Lib.hid (lo_on LXH.out (lo_on (drew_below w1) hl))
    have f0 := (hl.cell (p := ⟨g, off + k * 2 + e, none⟩) (by simp; omega)).trans e1a
    have hwr := wrap_mid r (by omega) (by omega)
    have hwq := wrap_mid q (by omega) (by omega)
    clear u0 u1 e1a e1h e2a e2h WT1 hcw
    by_cases hr0 : r = 0
    · by_cases hq9 : q ≤ 99
      · have e1 : rb = true := by rw [HFB.out]; simp; omega
        subst e1
        have e2 : rv = q := by rw [HFV.out]; rfl
        subst e2
        go_wp2
        go_ret2
        exact ⟨rfl, L6.out⟩
      · have e1 : rb = false := by rw [HFB.out]; simp; omega
        subst e1
        have e2 : rv = 0 := by rw [HFV.out]; rfl
        subst e2
        go_wp2
        go_ret2
        exact ⟨rfl, L6.out⟩
    · have e1 : rb = false := by rw [HFB.out]; simp; omega
      subst e1
      have e2 : rv = 0 := by rw [HFV.out]; rfl
      subst e2
      go_wp2
      go_ret2
      exact ⟨rfl, L6.out⟩
set_option maxRecDepth 100000 in
set_option maxHeartbeats 1600000 in
theorem specFix_no (v : Value) (m : MobV) (i e : Int) (w : World) (hv : MobRow w v m) (hs : SmallM m) (hb : BndM m) (hr : rodB m i e = false) :
    Calls Try.prog 44 #[v, .int .i64 i, .int .i64 e] w fun q w' => q = .returned (.tuple #[.int .i64 0, .bool false]) ∧ Below w.heap.size w w' := by
  have D := Lib.hid (fun w1 (l : Below w.heap.size w w1) => l5Rod_any v m i e w1 (hv.lo l) hs hb)
  rw [hr] at D
  obtain ⟨a, b, c, d, rfl⟩ := hv.form
  obtain ⟨W, hW⟩ : ∃ W, w.alloc (.cells #[.slice a m.am.length c, .slice b m.hu.length d] 27) = W := ⟨_, rfl⟩
  have LW := Lib.hid (show Below w.heap.size w W by rw [← hW]; exact (Below.refl _ _).alloc (Nat.le_refl _) _)
  have BX := Lib.hid (show Box2 W w.heap.size (.slice a m.am.length c) (.slice b m.hu.length d) by rw [← hW]; exact box2_new _ _ _ _)
  have D1 := Lib.hid (D.out W LW.out)
  generalize m.am.length = n at *
  generalize m.hu.length = n2 at *
  clear hv hs hb D hr
  obtain ⟨_, u0, u1⟩ := BX.out
  go_enter Try.func44, Try.ntmps44
  go_wp2_with fail
  clear hW u0 u1
  refine D1.out.mono ?_
  rintro e' w1 ⟨rfl, l1⟩
  have L1 := Lib.hid (lo_on LW.out l1)
  clear l1 D1
  go_wp2
  go_ret2
  exact ⟨rfl, L1.out⟩
theorem specFix_any (v : Value) (m : MobV) (i e : Int) (w : World) (hv : MobRow w v m) (hs : SmallM m) (hb : BndM m) :
    Calls Try.prog 44 #[v, .int .i64 i, .int .i64 e] w fun q w' => q = .returned (.tuple #[.int .i64 (fixV m i e), .bool (fixB m i e)]) ∧ Below w.heap.size w w' := by
  cases hr : rodB m i e with
  | false =>
    have e1 : fixB m i e = false := by unfold fixB; rw [hr]; rfl
    have e2 : fixV m i e = 0 := by unfold fixV; rw [e1]; rfl
    rw [e1, e2]
    exact specFix_no v m i e w hv hs hb hr
  | true =>
    have h := hr
    unfold rodB at h
    simp only [Bool.and_eq_true, decide_eq_true_eq] at h
    obtain ⟨⟨h1, h2, h3⟩, h4, h5⟩ := h
    have hf := (goodB_iff m).1 h1
    have a1 : ((i.toNat : Nat) : Int) = i := by omega
    have a2 : ((e.toNat : Nat) : Int) = e := by omega
    have := specFix_yes v m i.toNat e.toNat w hv hb hf (by omega) (by omega)
    rw [a1, a2] at this
    exact this
end Go.Proofs.Ytnadchgekfljkaa
