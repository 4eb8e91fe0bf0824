/- FhN, as one text. -/
import Derived.Test.YthncgcdnljoakaaG28
namespace Go.Proofs.Ythncgcdnljoakaa
open Go.RowKit
theorem rowS_snoc {w : World} {B g c : Nat} {xs : List Int} {x : Int} (h : w.ownsRow B 3 1 (.slice (some ⟨g, 0, none⟩) (xs.length + 1) c) (xs.length + 1) (icells (xs ++ [x]))) (hl : g < w.heap.size) : RowS w (.slice (some ⟨g, 0, none⟩) (xs.length + 1) c) (xs ++ [x]) :=
  ⟨g, 0, c, by rw [List.length_append]; rfl, hl, fun j hj => by rw [Nat.zero_add]; exact own_part h (by rw [List.length_append]; rfl) j (by rw [List.length_append] at hj; exact hj)⟩
set_option maxRecDepth 100000 in
set_option maxHeartbeats 6400000 in
theorem more_step {m : MobV} (hf : MobF m) (vm : Value) (K : Nat) (begun left : List Int) (vb vl : Value) (w : World) (hl : left.length = K + 1) (hbl : begun.length + (K + 1) = m.am.length + 1) (hx : Wts begun) (hy : Wts left) (hv : MobRow w vm m) (hvb : RowS w vb begun) (hvl : OwnI w 0 vl left)
    (IH : ∀ (begun left : List Int) (vb vl : Value) (w : World), left.length = K → begun.length + K = m.am.length + 1 → Wts begun → Wts left → MobRow w vm m → RowS w vb begun → OwnI w 0 vl left →
      Calls Try.prog 109 #[vm, vb, vl] w fun e w' => MoreP m begun left w e w') :
    Calls Try.prog 109 #[vm, vb, vl] w fun e w' => MoreP m begun left w e w' := by
  have h6 := hf.short
  obtain ⟨N, hN⟩ : ∃ N, K + 1 = N := ⟨_, rfl⟩
  rw [hN] at hl
  have hvl' : w.ownsRow 0 3 1 vl N (icells left) := by
    have h := hvl
    unfold OwnI at h
    rw [hl] at h
    exact h
  obtain ⟨gl, cl, rfl, _, hgl⟩ := hvl'.form (by omega)
  have hcp := own_cap hvl'
  have CL := Lib.hid (fun j (hj : j < N) => own_part hvl' hl j hj)
  have HV := Lib.hid (fun w1 (l : Below w.heap.size w w1) => hv.lo l)
  obtain ⟨gb, ob, cb, rfl, hgb, hcb⟩ := hvb
  have HB := Lib.hid (fun w1 (l : Below w.heap.size w w1) => (show RowS w1 (.slice (some ⟨gb, ob, none⟩) begun.length cb) begun from RowS.lo ⟨gb, ob, cb, rfl, hgb, hcb⟩ l))
  have OB := Lib.hid (fun w1 (l : Below w.heap.size w w1) => l1Own_any _ begun w1 (HB.out w1 l) (by omega))
  have HI := Lib.hid IH
  have HNS := Lib.hid (fun j (h1 : j + 1 < N) (he : left.getD (j + 1) 0 = left.getD j 0) (h : NoLev m (begun ++ [left.getD j 0]) (restL left j)) => noLev_same (by omega) he h)
  have HNA := Lib.hid (fun (h : ∀ k, k < N → NoLev m (begun ++ [left.getD k 0]) (restL left k)) => noLev_all (begun := begun) (left := left) (m := m) (by omega) (fun k hk => h k (by omega)))
  have HST := Lib.hid (fun k (hk : k < N) all (h : HasLev m (begun ++ [left.getD k 0]) (restL left k) all) => hasLev_step (by omega) h)
  have HRL := Lib.hid (fun k (hk : k < N) => show (restL left k).length = K by have := restL_len left k (by omega); omega)
  have HWB := Lib.hid (fun k (hk : k < N) => show Wts (begun ++ [left.getD k 0]) from fun x hm => by
    rcases List.mem_append.1 hm with h | h
    · exact hx x h
    · rw [List.mem_singleton.1 h]; exact hy _ (getD_mem left 0 k (by omega)))
  have HWR := Lib.hid (fun k (hk : k < N) => show Wts (restL left k) from fun x hm => hy x ((restL_perm left k (by omega)).subset (List.mem_cons_of_mem _ hm)))
  obtain ⟨a, c0, c, d, rfl⟩ := hv.form
  obtain ⟨W, hW⟩ : ∃ W, w.alloc (.cells #[.slice a m.am.length c, .slice c0 m.hu.length d] 62) = W := ⟨_, rfl⟩
  have LW := Lib.hid (show Below w.heap.size w W by rw [← hW]; exact (Below.refl _ _).alloc (Nat.le_refl _) _)
  have BX := Lib.hid (show Box2 W w.heap.size (.slice a m.am.length c) (.slice c0 m.hu.length d) by rw [← hW]; exact box2_new _ _ _ _)
  have hN0 : 0 < N := by omega
  have hN7 : N ≤ 7 := by omega
  have hNz : ¬ N = 0 := by omega
  have hNzi : ((N : Int) == 0) = false := by simp; omega
  clear hv hvl hvl' hcb hx hy IH
  go_enter Try.func109, Try.ntmps109
  go_wp2
  clear hW
  go_loopw [8] (fun x wr => ∃ i : Nat, i ≤ N ∧ x = .int .i64 i ∧ Hid (∀ k, k < i → NoLev m (begun ++ [left.getD k 0]) (restL left k)) ∧ Hid (Below W.heap.size W wr)) (fun x _ => N - (intOf x).toNat)
  case atStart => exact ⟨0, Nat.zero_le _, rfl, Lib.hid (fun k hk => by omega), Lib.hid (Below.refl _ _)⟩
  case round =>
    obtain ⟨i, hi, rfl, HN, HL⟩ := hrel
    obtain ⟨wq, rfl⟩ : ∃ wq : World, wq = wr := ⟨_, rfl⟩
    by_cases hlt : i < N
    · have hlt' : (i : Int) < (N : Int) := by omega
      have hglq : gl < wq.heap.size := by have := LW.out.size; have := HL.out.size; omega
      have LQ := Lib.hid (lo_on LW.out HL.out)
      have cx := (LQ.out.cell (p := ⟨gl, i, none⟩) hgl).trans (CL.out i hlt)
      by_cases h0 : 0 < i ∧ left.getD i 0 = left.getD (i - 1) 0
      · obtain ⟨j, rfl⟩ : ∃ j, i = j + 1 := ⟨i - 1, by omega⟩
        have cy := (LQ.out.cell (p := ⟨gl, j, none⟩) hgl).trans (CL.out j (by omega))
        have hxy := h0.2
        rw [Nat.add_sub_cancel] at hxy
        have HN2 := Lib.hid (show ∀ k, k < j + 1 + 1 → NoLev m (begun ++ [left.getD k 0]) (restL left k) from fun k hk => by
          by_cases e : k = j + 1
          · subst e; exact HNS.out j hlt hxy (HN.out j (by omega))
          · exact HN.out k (by omega))
        rw [hxy] at cx
        generalize left.getD j 0 = y at cx cy
        have hk0 : (0 : Int) < ((j + 1 : Nat) : Int) := by omega
        have hk2 : (j : Int) < (N : Int) := by omega
        have hk3 : (0 : Int) < (j : Int) + 1 := by omega
        have hk5 : IntKind.i64.wrap (j : Int) = (j : Int) := wrap_mid _ (by omega) (by omega)
        have hyy : (y == y) = true := by simp
        clear h0 hxy
        go_wp2
        go_quiet (fail)
        go_wp2
        go_roundw
        case rel => exact ⟨j + 1 + 1, by omega, by go_num, HN2, Lib.hid (lo_drewN HL.out nq)⟩
        case measure => simp [intOf]; omega
      · have hc2 : ¬ 0 < i ∨ ∃ j, i = j + 1 ∧ ¬ left.getD i 0 = left.getD j 0 := by
          by_cases hk0 : 0 < i
          · exact .inr ⟨i - 1, by omega, fun h => h0 ⟨hk0, h⟩⟩
          · exact .inl hk0
        clear h0
        obtain ⟨x, hx⟩ : ∃ x, left.getD i 0 = x := ⟨_, rfl⟩
        rw [hx] at cx hc2
        have HXX := Lib.hid hx
        clear hx
        rcases hc2 with hk0 | ⟨j, hij, hne⟩
        focus
          have hk0' : ¬ (0 : Int) < (i : Int) := by omega
          go_wp2
          go_quiet (fail)
          go_wp2
          clear hk0' hk0
        rotate_left
        focus
          have cy := (LQ.out.cell (p := ⟨gl, j, none⟩) hgl).trans (CL.out j (by omega))
          generalize left.getD j 0 = y at cy hne
          have hk0 : (0 : Int) < (i : Int) := by omega
          have hk0n : 0 < i := by omega
          have hk1 : IntKind.i64.wrap ((i : Int) - 1) = (j : Int) := by rw [wrap_mid _ (by omega) (by omega)]; omega
          have hk2 : (j : Int) < (N : Int) := by omega
          have hxy : (x == y) = false := by simpa using hne
          clear hij
          go_wp2
          go_quiet (fail)
          go_wp2
          clear cy hne hk1 hk2 hk0n hk0 hxy
        all_goals
          have HL8 := Lib.hid (lo_drewN HL.out nq)
          have LQ8 := Lib.hid (lo_drewN LQ.out nq)
          have cx8 : (wq.drewN nq).cell? ⟨gl, i, none⟩ = some (.int .i64 x) := cx
          have hgl8 : gl < (wq.drewN nq).heap.size := hglq
          clear cx hglq
          generalize wq.drewN nq = wz at *
          have CLz := Lib.hid (fun w1 (l : Below wz.heap.size wz w1) j (hj : j < N) => (l.cell (p := ⟨gl, j, none⟩) hgl8).trans ((LQ8.out.cell (p := ⟨gl, j, none⟩) hgl).trans (CL.out j hj)))
          have hti : (left.take i).length = i := by rw [List.length_take]; omega
          have htd : (left.drop (i + 1)).length = N - (i + 1) := by rw [List.length_drop]; omega
          have YD := Lib.hid (fun j (hj : j < N - (i + 1)) => show left.getD (i + 1 + j) 0 = (left.drop (i + 1)).getD j 0 from by simp [List.getD, List.getElem?_drop])
          have OW := Lib.hid (fun w1 (l : Below wz.heap.size wz w1) => (by
            have h := l1Own_any (.slice (some ⟨gl, 0, none⟩) i cl) (left.take i) w1 ⟨gl, 0, cl, by rw [hti], Nat.lt_of_lt_of_le hgl8 l.size, fun j hj => by
              have hji : j < i := by omega
              rw [Nat.zero_add, CLz.out w1 l j (by omega), show (left.take i).getD j 0 = left.getD j 0 by simp [List.getD, hji]]⟩ (by omega)
            exact h : Calls Try.prog 139 #[.slice (some ⟨gl, 0, none⟩) i cl] w1 fun e w' => ∃ v', e = .returned v' ∧ OwnI w' w1.heap.size v' (left.take i) ∧ Below w1.heap.size w1 w'))
          have hwi : IntKind.i64.wrap ((i : Int) + 1) = ((i + 1 : Nat) : Int) := by rw [wrap_mid _ (by omega) (by omega)]; omega
          have hwi2 : IntKind.i64.wrap ((i : Int) + 1) = (i : Int) + 1 := wrap_mid _ (by omega) (by omega)
          have hi00 : (0 : Int) ≤ (i : Int) := by omega
          have hi01 : (0 : Int) ≤ (i : Int) + 1 := by omega
          have hin1 : (i : Int) + 1 ≤ (N : Int) := by omega
          have hic : (i : Int) ≤ (cl : Int) := by omega
          have hnc : (N : Int) ≤ (cl : Int) := by omega
          have hcz : ¬ cl = 0 := by omega
          rcases (show ¬ cl = i + 1 ∨ cl = i + 1 by omega) with hck | hck
          focus
            go_region_held3 (fun _ => True)
              (exact trivial)
              (first
                | (go_at_call 139; refine (OW.out _ (drew_below wz)).mono ?_; rintro e5 v5 ⟨va, rfl, oa0, l5⟩
                   have LB5 : Below wz.heap.size wz v5 := (drew_below wz).trans l5
                   have oa : v5.ownsRow wz.heap.size 3 1 va i (icells (left.take i)) := by
                     have h := oa0
                     unfold OwnI at h
                     rw [hti] at h
                     exact h)
                | (refine step_app_intsV (by rfl) _ _ (by rfl) wz.heap.size va i (left.take i) (by rfl) oa gl (i + 1) (N - (i + 1)) _ (left.drop (i + 1)) (by rfl) htd (fun j hj => by
                     rw [CLz.out v5 LB5 (i + 1 + j) (by omega), YD.out j hj]) K (by omega) (by omega) LB5.size ?_
                   intro vr w6 o6 gr6)
                | (refine step_app_intsV (by rfl) _ _ (by rfl) wz.heap.size va i (left.take i) (by rfl) oa gl 0 (N - (i + 1)) _ (left.drop (i + 1)) (by rfl) htd (fun j hj => by omega) K (by omega) (by omega) LB5.size ?_
                   intro vr w6 o6 gr6)
                | (refine step_app_intsV (by rfl) _ _ (by rfl) wz.heap.size va i (left.take i) (by rfl) oa gl 0 0 _ (left.drop (i + 1)) (by rfl) (by omega) (fun j hj => by omega) K (by omega) (by omega) LB5.size ?_
                   intro vr w6 o6 gr6))
            have LB6 : Below wz.heap.size wz w6 := LB5.grown gr6 LB5.size (fun q hq => (oa.lt q hq).1)
            clear oa oa0 l5 LB5 gr6
          rotate_left
          focus
            subst hck
            have hic2 : (i : Int) ≤ (i : Int) + 1 := by omega
            have hnc2 : (N : Int) ≤ (i : Int) + 1 := by omega
            have hi11 : ¬ i + 1 = 0 := by omega
            go_region_held3 (fun _ => True)
              (exact trivial)
              (first
                | (go_at_call 139; refine (OW.out _ (drew_below wz)).mono ?_; rintro e5 v5 ⟨va, rfl, oa0, l5⟩
                   have LB5 : Below wz.heap.size wz v5 := (drew_below wz).trans l5
                   have oa : v5.ownsRow wz.heap.size 3 1 va i (icells (left.take i)) := by
                     have h := oa0
                     unfold OwnI at h
                     rw [hti] at h
                     exact h)
                | (refine step_app_intsV (by rfl) _ _ (by rfl) wz.heap.size va i (left.take i) (by rfl) oa gl (i + 1) (N - (i + 1)) _ (left.drop (i + 1)) (by rfl) htd (fun j hj => by
                     rw [CLz.out v5 LB5 (i + 1 + j) (by omega), YD.out j hj]) K (by omega) (by omega) LB5.size ?_
                   intro vr w6 o6 gr6)
                | (refine step_app_intsV (by rfl) _ _ (by rfl) wz.heap.size va i (left.take i) (by rfl) oa gl 0 (N - (i + 1)) _ (left.drop (i + 1)) (by rfl) htd (fun j hj => by omega) K (by omega) (by omega) LB5.size ?_
                   intro vr w6 o6 gr6)
                | (refine step_app_intsV (by rfl) _ _ (by rfl) wz.heap.size va i (left.take i) (by rfl) oa gl 0 0 _ (left.drop (i + 1)) (by rfl) (by omega) (fun j hj => by omega) K (by omega) (by omega) LB5.size ?_
                   intro vr w6 o6 gr6))
            have LB6 : Below wz.heap.size wz w6 := LB5.grown gr6 LB5.size (fun q hq => (oa.lt q hq).1)
            clear oa oa0 l5 LB5 gr6
          all_goals
            have L6 := Lib.hid (lo_on LQ8.out LB6)
            have O6 := Lib.hid (show OwnI w6 0 vr (restL left i) by
              have h : w6.ownsRow 0 3 1 vr K (icells (left.take i ++ left.drop (i + 1))) := ⟨o6.1, o6.2.imp id (fun ⟨g', cap, cur, a1, a2, a3⟩ => ⟨g', cap, cur, a1, Nat.zero_le _, a3⟩)⟩
              unfold OwnI
              rw [HRL.out i hlt]
              exact h)
            have cx6 : w6.cell? ⟨gl, i, none⟩ = some (.int .i64 x) := (LB6.cell (p := ⟨gl, i, none⟩) hgl8).trans cx8
            have hgl6 : gl < w6.heap.size := Nat.lt_of_lt_of_le hgl8 LB6.size
            obtain ⟨hbw, u0, u1⟩ := BX.out.lo (HL8.out.trans (LB6.mono HL8.out.size))
            have HL6 := Lib.hid (HL8.out.trans (LB6.mono HL8.out.size))
            have IC := Lib.hid (fun vb w1 (l : Below w.heap.size w w1) (l6 : Below w6.heap.size w6 w1) (hvb : RowS w1 vb (begun ++ [x])) => HI.out (begun ++ [x]) (restL left i) vb vr w1 (HRL.out i hlt) (by rw [List.length_append]; simp only [List.length_cons, List.length_nil]; omega) (by have := HWB.out i hlt; rw [HXX.out] at this; exact this) (HWR.out i hlt) (HV.out w1 l) hvb (ownsRow_lo O6.out l6))
            obtain ⟨ar, cr, hvr⟩ := own_form0 o6
            subst hvr
            clear o6 LB6 cx8 hgl8
            go_wp2
            have hbgn : begun.length ≤ 7 := by omega
            go_region_held3 (fun w' => w'.cell? ⟨gl, i, none⟩ = some (.int .i64 x) ∧ w'.cell? ⟨w.heap.size, 0, none⟩ = some (.slice a m.am.length c) ∧ w'.cell? ⟨w.heap.size, 1, none⟩ = some (.slice c0 m.hu.length d))
              (first
                | exact ⟨cx6, u0, u1⟩
                | exact ⟨r0, r1, r2⟩
                | exact ⟨ra0 _, ra1 _, ra2 _⟩
                | exact ⟨s0, s1, s2⟩
                | exact ⟨t0, t1, t2⟩
                | go_keep)
              (first
                | (go_at_call 139; refine (OB.out _ (lo_on L6.out (by first | exact drew_below w6 | exact ((Below.refl _ _).alloc (Nat.le_refl _) _).drew))).mono ?_; rintro e5 v5 ⟨va, rfl, oa0, l5⟩
                   have LB5 : Below w6.heap.size w6 v5 := by first | exact (drew_below w6).trans l5 | exact (show Below w6.heap.size w6 (w6.alloc (.cells #[.int .i64 x] 3)).drew from ((Below.refl _ _).alloc (Nat.le_refl _) _).drew).trans (l5.mono (by simp))
                   have oa : v5.ownsRow w6.heap.size 3 1 va begun.length (icells begun) := ⟨oa0.1, oa0.2.imp id (fun ⟨g', cap, cur, a1, a2, a3⟩ => ⟨g', cap, cur, a1, Nat.le_trans (by simp) a2, a3⟩)⟩
                   have hv5 : w6.heap.size ≤ v5.heap.size := LB5.size
                   have r0 : v5.cell? ⟨gl, i, none⟩ = some (.int .i64 x) := (LB5.cell (p := ⟨gl, i, none⟩) hgl6).trans cx6
                   have r1 : v5.cell? ⟨w.heap.size, 0, none⟩ = some (.slice a m.am.length c) := (LB5.cell (p := ⟨w.heap.size, 0, none⟩) hbw).trans u0
                   have r2 : v5.cell? ⟨w.heap.size, 1, none⟩ = some (.slice c0 m.hu.length d) := (LB5.cell (p := ⟨w.heap.size, 1, none⟩) hbw).trans u1
                   have ra0 : ∀ o, (v5.alloc o).cell? ⟨gl, i, none⟩ = some (.int .i64 x) := fun o => (World.cell?_of_block (a := ⟨gl, i, none⟩) (Below.heap_alloc _ _ _ (show gl < v5.heap.size by omega))).trans r0
                   have ra1 : ∀ o, (v5.alloc o).cell? ⟨w.heap.size, 0, none⟩ = some (.slice a m.am.length c) := fun o => (World.cell?_of_block (a := ⟨w.heap.size, 0, none⟩) (Below.heap_alloc _ _ _ (show w.heap.size < v5.heap.size by omega))).trans r1
                   have ra2 : ∀ o, (v5.alloc o).cell? ⟨w.heap.size, 1, none⟩ = some (.slice c0 m.hu.length d) := fun o => (World.cell?_of_block (a := ⟨w.heap.size, 1, none⟩) (Below.heap_alloc _ _ _ (show w.heap.size < v5.heap.size by omega))).trans r2
                   try (have y5 : v5.cell? ⟨w6.heap.size, 0, none⟩ = some (.int .i64 x) := (l5.cell (p := ⟨w6.heap.size, 0, none⟩) (by simp)).trans ((World.cell?_alloc_at _ _ _ _ rfl).trans rfl)))
                | (refine step_app_ints (by rfl) _ _ (by rfl) w6.heap.size va begun.length begun (by rfl) (oa.alloc _) v5.heap.size 0 1 1 [x] (by rfl) rfl (fun j hj => app_new v5 x j hj) (begun.length + 1) rfl (by omega) (by omega) (by simp; omega) ?_
                   intro ga ca w7 o7 gr7 hb7 hl7
                   have LB7 : Below w6.heap.size w6 w7 := (LB5.alloc hv5 _).grown gr7 (by simp; omega) (fun q hq => (oa.lt q hq).1)
                   have s0 : w7.cell? ⟨gl, i, none⟩ = some (.int .i64 x) := (LB7.cell (p := ⟨gl, i, none⟩) hgl6).trans cx6
                   have s1 : w7.cell? ⟨w.heap.size, 0, none⟩ = some (.slice a m.am.length c) := (LB7.cell (p := ⟨w.heap.size, 0, none⟩) hbw).trans u0
                   have s2 : w7.cell? ⟨w.heap.size, 1, none⟩ = some (.slice c0 m.hu.length d) := (LB7.cell (p := ⟨w.heap.size, 1, none⟩) hbw).trans u1)
                | (refine step_app_ints (by rfl) _ _ (by rfl) w6.heap.size va begun.length begun (by rfl) oa w6.heap.size 0 1 1 [x] (by rfl) rfl (fun j hj => app_old v5 x _ j hj y5) (begun.length + 1) rfl (by omega) (by omega) hv5 ?_
                   intro ga ca w7 o7 gr7 hb7 hl7
                   have LB7 : Below w6.heap.size w6 w7 := LB5.grown gr7 hv5 (fun q hq => (oa.lt q hq).1)
                   have s0 : w7.cell? ⟨gl, i, none⟩ = some (.int .i64 x) := (LB7.cell (p := ⟨gl, i, none⟩) hgl6).trans cx6
                   have s1 : w7.cell? ⟨w.heap.size, 0, none⟩ = some (.slice a m.am.length c) := (LB7.cell (p := ⟨w.heap.size, 0, none⟩) hbw).trans u0
                   have s2 : w7.cell? ⟨w.heap.size, 1, none⟩ = some (.slice c0 m.hu.length d) := (LB7.cell (p := ⟨w.heap.size, 1, none⟩) hbw).trans u1)
                | (go_at_call 109; refine (IC.out (.slice (some ⟨ga, 0, none⟩) (begun.length + 1) ca) w7 (lo_on L6.out LB7) LB7 (rowS_snoc o7 hl7)).mono ?_; rintro e8 v8 ⟨u, ok, rfl, HM, l8⟩
                   have LB8 : Below w6.heap.size w6 v8 := lo_on LB7 l8
                   have t0 : v8.cell? ⟨gl, i, none⟩ = some (.int .i64 x) := (LB8.cell (p := ⟨gl, i, none⟩) hgl6).trans cx6
                   have t1 : v8.cell? ⟨w.heap.size, 0, none⟩ = some (.slice a m.am.length c) := (LB8.cell (p := ⟨w.heap.size, 0, none⟩) hbw).trans u0
                   have t2 : v8.cell? ⟨w.heap.size, 1, none⟩ = some (.slice c0 m.hu.length d) := (LB8.cell (p := ⟨w.heap.size, 1, none⟩) hbw).trans u1))
            all_goals
              have LF8 := Lib.hid (lo_on L6.out LB8)
              have HW8 := Lib.hid (HL6.out.trans (LB8.mono HL6.out.size))
              have HMH := Lib.hid HM
              clear HM l8 LB8 LB7 o7 gr7 oa oa0 l5 LB5 r0 r1 r2 ra0 ra1 ra2 s0 s1 s2 t0 t1 t2
              cases ok with
              | true =>
                obtain ⟨all, hir, hT, _⟩ := HMH.out
                have HIR := Lib.hid hir
                have HTT := Lib.hid (hT rfl)
                clear hir hT HMH
                go_wp2
                go_ret2
                unfold MoreP
                exact ⟨_, true, rfl, ⟨all, HIR.out, (fun _ => HST.out i hlt all (by rw [HXX.out]; exact HTT.out)), fun h => by cases h⟩, LF8.out⟩
              | false =>
                obtain ⟨_, _, _, hF⟩ := HMH.out
                have HN2 := Lib.hid (show ∀ k, k < i + 1 → NoLev m (begun ++ [left.getD k 0]) (restL left k) from fun k hk => by
                  by_cases e : k = i
                  · subst e; rw [HXX.out]; exact (hF rfl).1
                  · exact HN.out k (by omega))
                clear HMH hF
                go_wp2
                go_roundw
                case rel => exact ⟨i + 1, by omega, by go_num, HN2, HW8⟩
                case measure => simp [intOf]; omega
    · obtain rfl : N = i := by omega
      have hge : ¬ (N : Int) < (N : Int) := by omega
      have HF := Lib.hid (HNA.out HN.out)
      have LF := Lib.hid (show Below w.heap.size w (wq.alloc (.cells #[] 3)) from (lo_on LW.out HL.out).alloc (lo_on LW.out HL.out).size _)
      go_wp2
      go_ret2
      unfold MoreP
      exact ⟨_, false, rfl, ⟨[], intRow_nil _ _ _, (fun h => by cases h), fun _ => ⟨HF.out, fun _ => rfl⟩⟩, LF.out⟩
end Go.Proofs.Ythncgcdnljoakaa
