/- The contracts of the model's RodTurns, IsLevel and LeavesOf. -/
import Derived.Test.YtnadchgekfljkaaMob3
namespace Go.Proofs.Ytnadchgekfljkaa
open Go.RowKit
noncomputable def levelB (m : MobV) : Bool := propB (∀ i, i < m.am.length → turnM m i = 0)
theorem turnsL_len (m : MobV) : (turnsL m).length = m.am.length := by simp [turnsL]
theorem turnsL_at (m : MobV) (i : Nat) (h : i < m.am.length) : (turnsL m).getD i 0 = turnM m i := by simp [turnsL, List.getD, h]
theorem cellI_of {w : World} {B : Nat} {u : Value} {xs : List Int} (h : OwnI w B u xs) (h0 : 0 < xs.length) : ∃ g c, u = .slice (some ⟨g, 0, none⟩) xs.length c ∧ B ≤ g ∧ g < w.heap.size ∧ ∀ j, j < xs.length → w.cell? ⟨g, j, none⟩ = some (.int .i64 (xs.getD j 0)) := by
  unfold OwnI at h
  have h' := h
  obtain ⟨g, cap, rfl, hb, hl⟩ := h.form h0
  exact ⟨g, cap, rfl, hb, hl, fun j hj => by rw [h'.cellAt j (by omega)]; exact icells_at xs j hj⟩
set_option maxRecDepth 100000 in
set_option maxHeartbeats 1600000 in
theorem l5Level_any (v : Value) (m : MobV) (w : World) (hv : MobRow w v m) (hf : MobF m) :
    Calls Try.prog 86 #[v] w fun e w' => e = .returned (.bool (levelB m)) ∧ Below w.heap.size w w' := by
  have h1 := hf.one
  have h6 := hf.short
  have TN := Lib.hid (fun w1 (l : Below w.heap.size w w1) => l5Turns_any v m w1 (hv.lo l) hf)
  obtain ⟨a, b, c, d, rfl⟩ := hv.form
  obtain ⟨W, hW⟩ : ∃ W, w.alloc (.cells #[.slice a m.am.length c, .slice b m.hu.length d] 27) = W := ⟨_, rfl⟩
  have LW := Lib.hid (show Below w.heap.size w W by rw [← hW]; exact (Below.refl _ _).alloc (Nat.le_refl _) _)
  have BX := Lib.hid (show Box2 W w.heap.size (.slice a m.am.length c) (.slice b m.hu.length d) by rw [← hW]; exact box2_new _ _ _ _)
  have T1 := Lib.hid (TN.out W LW.out)
  have HTL := Lib.hid (turnsL_len m)
  have HTA := Lib.hid (fun i h => turnsL_at m i h)
  have HYES := Lib.hid (fun (h : ∀ i, i < m.am.length → turnM m i = 0) => show levelB m = true from propB_yes h)
  have HNO := Lib.hid (fun i (hi : i < m.am.length) (h : turnM m i ≠ 0) => show levelB m = false from propB_no (fun f => h (f i hi)))
  obtain ⟨r, hr⟩ : ∃ r, levelB m = r := ⟨_, rfl⟩
  rw [hr] at HYES HNO ⊢
  generalize m.am.length = n at *
  generalize m.hu.length = n2 at *
  clear hv hf TN hr
  obtain ⟨_, u0, u1⟩ := BX.out
  go_enter Try.func86, Try.ntmps86
  go_wp2_with fail
  clear hW u0 u1
  refine T1.out.mono ?_
  rintro e w1 ⟨u, rfl, ho, l1⟩
  have L1 := Lib.hid (lo_on LW.out l1)
  obtain ⟨g, cc, rfl, _, hg, hc⟩ := cellI_of ho (by rw [HTL.out]; omega)
  rw [HTL.out] at hc ⊢
  have HC := Lib.hid hc
  clear ho hc l1 T1
  go_wp2
  go_loopw [4] (fun x wr => ∃ k : Nat, k ≤ n ∧ x = .int .i64 k ∧ Hid (∀ i, i < k → turnM m i = 0) ∧ wr = w1) (fun x _ => n - (intOf x).toNat)
  case atStart => exact ⟨0, Nat.zero_le _, rfl, Lib.hid (fun i h => by omega), rfl⟩
  case round =>
    obtain ⟨k, hk, rfl, HZ, rfl⟩ := hrel
    by_cases hlt : k < n
    · have hlt' : (k : Int) < (n : Int) := by omega
      have ck := HC.out k hlt
      rw [HTA.out k hlt] at ck
      have HNk := Lib.hid (HNO.out k hlt)
      obtain ⟨z, hz⟩ : ∃ z, turnM m k = z := ⟨_, rfl⟩
      rw [hz] at ck HNk
      by_cases z0 : z = 0
      · subst z0
        have HZN := Lib.hid (show ∀ i, i < k + 1 → turnM m i = 0 from fun i hi => by
          by_cases e : i = k
          · rw [e]; exact hz
          · exact HZ.out i (by omega))
        clear hz
        go_wp2
        go_roundw
        case rel => exact ⟨k + 1, by omega, by go_num, HZN, by trivial⟩
        case measure => simp [intOf]; omega
      · have hgf := HNk.out z0
        subst hgf
        have hneb : (z != 0) = true := by simp [z0]
        clear hz
        go_wp2
        go_ret
        exact ⟨rfl, L1.out⟩
    · obtain rfl : k = n := by omega
      have hgt := HYES.out HZ.out
      subst hgt
      go_wp2
      go_ret
      exact ⟨rfl, L1.out⟩
theorem leavesF_len (m : MobV) : ∀ T, (leavesF m T).length ≤ T := by
  intro T
  induction T with
  | zero => exact Nat.le_refl _
  | succ T ih =>
    rw [leavesF]
    split
    · rw [List.length_append]; simp; omega
    · omega
set_option maxRecDepth 100000 in
set_option maxHeartbeats 3200000 in
theorem l5Leaves_any (v : Value) (m : MobV) (w : World) (hv : MobRow w v m) (hf : MobF m) :
    Calls Try.prog 89 #[v] w fun e w' => ∃ u, e = .returned u ∧ OwnI w' w.heap.size u (leavesF m (2 * m.am.length)) ∧ Below w.heap.size w w' := by
  have h1 := hf.one
  have h6 := hf.short
  have hs := hf.same
  obtain ⟨av, bv, rfl, ha, hh⟩ := hv
  obtain ⟨g, off, c, rfl, hg, hca⟩ := pair_at ha (by omega)
  obtain ⟨g', off', c', rfl, hg', hch⟩ := pair_at hh (by omega)
  obtain ⟨n, hn⟩ : ∃ n, m.am.length = n := ⟨_, rfl⟩
  have EC := Lib.hid (fun i e (h1 : i < n) (h2 : e < 2) => (end_cells hn (hs.trans hn) hca hch i e h1 h2).2)
  have HLL := Lib.hid (leavesF_len m)
  have HSY := Lib.hid (fun T (h : 0 < hvM m T) => show leavesF m (T + 1) = leavesF m T ++ [hvM m T] by rw [leavesF, if_pos h])
  have HSN := Lib.hid (fun T (h : ¬ 0 < hvM m T) => show leavesF m (T + 1) = leavesF m T by rw [leavesF, if_neg h])
  obtain ⟨W, hW⟩ : ∃ W, w.alloc (.cells #[.slice (some ⟨g, off, none⟩) n c, .slice (some ⟨g', off', none⟩) n c'] 27) = W := ⟨_, rfl⟩
  have LW := Lib.hid (show Below w.heap.size w W by rw [← hW]; exact (Below.refl _ _).alloc (Nat.le_refl _) _)
  have BX := Lib.hid (show Box2 W w.heap.size (.slice (some ⟨g, off, none⟩) n c) (.slice (some ⟨g', off', none⟩) n c') by rw [← hW]; exact box2_new _ _ _ _)
  rw [hs, hn]
  rw [hn] at h1 h6
  obtain ⟨i0, hi, hz0, hz1, hz2⟩ := info_parts infoInt
  obtain ⟨W1, hW1⟩ : ∃ X, W.alloc (.cells #[] 3) = X := ⟨_, rfl⟩
  have R0 := Lib.hid (show W1.ownsRow W.heap.size 3 1 (.slice (some ⟨W.heap.size, 0, none⟩) 0 0) (leavesF m 0).length (icells (leavesF m 0)) by rw [← hW1]; exact World.ownsRow_lit W #[] 0 (Nat.le_refl _) (by decide) rfl)
  have L1 := Lib.hid (show Below W.heap.size W W1 by rw [← hW1]; exact (Below.refl _ _).alloc (Nat.le_refl _) _)
  have bx0 : w.heap.size < W.heap.size := BX.out.1
  clear ha hh hca hch hs hn hf
  obtain ⟨bx, u0, u1⟩ := BX.out
  go_enter Try.func89, Try.ntmps89
  go_wp2
  clear hW hW1 u0 u1
  go_loopw [3, 4] (fun t x wr => ∃ k : Nat, k ≤ n ∧ x = .int .i64 k ∧ Hid (wr.ownsRow W.heap.size 3 1 t (leavesF m (2 * k)).length (icells (leavesF m (2 * k)))) ∧ Hid (Below W.heap.size W wr)) (fun _ x _ => n - (intOf x).toNat)
  case atStart => exact ⟨0, Nat.zero_le _, rfl, R0, L1⟩
  case round =>
    obtain ⟨k, hk, rfl, HR, HL⟩ := hrel
    obtain ⟨wq, rfl⟩ : ∃ wq : World, wq = wr := ⟨_, rfl⟩
    clear R0 L1
    obtain ⟨_, u0, u1⟩ := BX.out.lo HL.out
    by_cases hlt : k < n
    · have hlt' : (k : Int) < (n : Int) := by omega
      go_wp2
      go_loopw [3, 5] (fun t x wr => ∃ e : Nat, e ≤ 2 ∧ x = .int .i64 e ∧ Hid (wr.ownsRow W.heap.size 3 1 t (leavesF m (2 * k + e)).length (icells (leavesF m (2 * k + e)))) ∧ Hid (Below W.heap.size W wr)) (fun _ x _ => 2 - (intOf x).toNat)
      case atStart => exact ⟨0, Nat.zero_le _, rfl, HR, HL⟩
      case round =>
        obtain ⟨e, he, rfl, HRe, HLe⟩ := hrel
        obtain ⟨wx, rfl⟩ : ∃ wx : World, wx = wr := ⟨_, rfl⟩
        clear HR
        by_cases hel : e < 2
        · have hel' : (e : Int) < 2 := by omega
          have hkn : ((k : Nat) : Int) < (n : Int) := hlt'
          clear u0 u1
          obtain ⟨_, u0, u1⟩ := BX.out.lo HLe.out
          have LX := LW.out.trans (HLe.out.mono LW.out.size)
          have e2 := EC.out k e hlt hel
          rw [← LX.cell (p := ⟨g', off' + k * 2 + e, none⟩) hg'] at e2
          obtain ⟨t, ht⟩ : ∃ t, 2 * k + e = t := ⟨_, rfl⟩
          rw [ht] at HRe e2
          have HT := Lib.hid ht
          have ht12 : t < 12 := by omega
          have hll := HLL.out t
          have HY := Lib.hid (HSY.out t)
          have HN := Lib.hid (HSN.out t)
          obtain ⟨h, hh⟩ : ∃ h, hvM m t = h := ⟨_, rfl⟩
          rw [hh] at e2 HY HN
          obtain ⟨X, hX⟩ : ∃ X, leavesF m t = X := ⟨_, rfl⟩
          rw [hX] at HRe HY HN hll
          obtain ⟨L, hL⟩ : ∃ L, X.length = L := ⟨_, rfl⟩
          rw [hL] at HRe hll
          have HLN := Lib.hid hL
          obtain ⟨ta, tc, htv⟩ := own_slice HRe.out
          subst htv
          have hwx := HLe.out.size
          clear LX hh ht hX hL
          by_cases hpos : 0 < h
          · have HYY := Lib.hid (HY.out hpos)
            have hL12 : L ≤ 12 := by omega
            clear HY HN hll
            go_wp2_with (at_builtin; refine wpList_append_lies _ rfl _ _ 31 rfl W.heap.size 3 i0 (.int .i64 0) 1 8 Try.underlying31 hi hz0 hz1 hz2 rfl (by decide) (.slice ta L tc) L (icells X) rfl (HRe.out.alloc _) ⟨wx.heap.size, 0, none⟩ 1 1 [.int .i64 h] rfl rfl (World.news_of_block (cs := #[.int .i64 h]) (t := 3) (fr := (0, 0)) (heap_alloc_new wx _)) (by simp [Value.oneCell']) (by omega) (by unfold maxLen; omega) (by omega) (by simp; omega) (wx.heap.size + 1) (by simp) ?_; intro g7 cap7 w7 hown7 hgrow7 hat7 hlt7)
            have HNN := Lib.hid (show w7.ownsRow W.heap.size 3 1 (.slice (some ⟨g7, 0, none⟩) (L + 1) cap7) (leavesF m (t + 1)).length (icells (leavesF m (t + 1))) by rw [HYY.out, icells_app, List.length_append, HLN.out]; exact hown7)
            have HB := Lib.hid (show Below W.heap.size W w7 from (HLe.out.alloc hwx _).grown hgrow7 (by simp; omega) (fun q hq => (HRe.out.lt q hq).1))
            clear hown7 hgrow7 hat7
            go_wp2
            go_roundw
            case rel => exact ⟨e + 1, by omega, by go_num, by rw [show 2 * k + (e + 1) = t + 1 by have := HT.out; omega]; exact HNN, HB⟩
            case measure => simp [intOf]; omega
          · have HNN := Lib.hid (HN.out (by first | exact hpos | omega))
            clear HY HN hll
            have HR2 := Lib.hid (show wx.ownsRow W.heap.size 3 1 (.slice ta L tc) (leavesF m (t + 1)).length (icells (leavesF m (t + 1))) by rw [HNN.out, HLN.out]; exact HRe.out)
            go_wp2
            go_roundw
            case rel => exact ⟨e + 1, by omega, by go_num, by rw [show 2 * k + (e + 1) = t + 1 by have := HT.out; omega]; exact HR2, HLe⟩
            case measure => simp [intOf]; omega
        · obtain rfl : e = 2 := by omega
          clear u0 u1
          go_wp2
          go_roundw
          case rel => exact ⟨k + 1, by omega, by go_num, by rw [show 2 * (k + 1) = 2 * k + 2 by omega]; exact HRe, HLe⟩
          case measure => simp [intOf]; omega
    · obtain rfl : k = n := by omega
      have hge : ¬ (k : Int) < (k : Int) := by omega
      have LF := Lib.hid (LW.out.trans (HL.out.mono LW.out.size))
      have HOF := Lib.hid (show OwnI wq w.heap.size u3 (leavesF m (2 * k)) by
        unfold OwnI
        obtain ⟨h3, h4⟩ := HR.out
        refine ⟨h3, ?_⟩
        rcases h4 with h | ⟨g', cap', cur, e, hb', r⟩
        · exact .inl h
        · exact .inr ⟨g', cap', cur, e, by omega, r⟩)
      clear HLL HSY HSN
      go_wp2
      go_ret
      exact ⟨_, rfl, HOF.out, LF.out⟩
set_option maxRecDepth 100000 in
set_option maxHeartbeats 1600000 in
theorem specTurns_any (v : Value) (m : MobV) (w : World) (hv : MobRow w v m) (hs : SmallM m) (hb : BndM m) :
    Calls Try.prog 30 #[v] w fun e w' => ∃ u, e = .returned (.tuple #[u, .bool (goodB m)]) ∧ IntRow w' u (rodsL m (turnsL m)) ∧ Below w.heap.size w w' := by
  have D := Lib.hid (fun w1 (l : Below w.heap.size w w1) => l5Good_any v m w1 (hv.lo l) hs hb)
  cases hg : goodB m with
  | false =>
    rw [hg] at D
    rw [rodsL_no hg]
    obtain ⟨a, b, c, d, rfl⟩ := hv.form
    obtain ⟨W, hW⟩ : ∃ W, w.alloc (.cells #[.slice a m.am.length c, .slice b m.hu.length d] 27) = W := ⟨_, rfl⟩
    have LW := Lib.hid (show Below w.heap.size w W by rw [← hW]; exact (Below.refl _ _).alloc (Nat.le_refl _) _)
    have BX := Lib.hid (show Box2 W w.heap.size (.slice a m.am.length c) (.slice b m.hu.length d) by rw [← hW]; exact box2_new _ _ _ _)
    have D1 := Lib.hid (D.out W LW.out)
    clear hv hs hb D hg
    obtain ⟨_, u0, u1⟩ := BX.out
    go_enter Try.func30, Try.ntmps30
    go_wp2_with fail
    clear hW u0 u1
    refine D1.out.mono ?_
    rintro e w1 ⟨rfl, l1⟩
    have L1 := Lib.hid ((lo_on LW.out l1).alloc (by have := LW.out.size; have := l1.size; omega) (.cells #[] 3))
    clear l1 D1
    go_wp2
    go_ret2
    exact ⟨_, rfl, intRow_nil _ _ _, L1.out⟩
  | true =>
    have hf := (goodB_iff m).1 hg
    rw [hg] at D
    rw [rodsL_yes hg]
    have WT := Lib.hid (fun w1 (l : Below w.heap.size w w1) => l5Turns_any v m w1 (hv.lo l) hf)
    obtain ⟨a, b, c, d, rfl⟩ := hv.form
    obtain ⟨W, hW⟩ : ∃ W, w.alloc (.cells #[.slice a m.am.length c, .slice b m.hu.length d] 27) = W := ⟨_, rfl⟩
    have LW := Lib.hid (show Below w.heap.size w W by rw [← hW]; exact (Below.refl _ _).alloc (Nat.le_refl _) _)
    have BX := Lib.hid (show Box2 W w.heap.size (.slice a m.am.length c) (.slice b m.hu.length d) by rw [← hW]; exact box2_new _ _ _ _)
    have D1 := Lib.hid (D.out W LW.out)
    clear hv hs hb D hg hf
    obtain ⟨_, u0, u1⟩ := BX.out
    go_enter Try.func30, Try.ntmps30
    go_wp2_with fail
    clear hW u0 u1
    refine D1.out.mono ?_
    rintro e w1 ⟨rfl, l1⟩
    have W1 := Lib.hid (WT.out w1 (lo_on LW.out l1))
    have L1 := Lib.hid (lo_on LW.out l1)
    obtain ⟨_, u0, u1⟩ := BX.out.lo l1
    clear l1 D1 WT
    go_wp2_with fail
    refine W1.out.mono ?_
    rintro e w2 ⟨u, rfl, ho, l2⟩
    have HR := Lib.hid ho.mine.row
    have L2 := Lib.hid (lo_on L1.out l2)
    clear ho l2 W1 u0 u1
    go_wp2
    go_ret2
    exact ⟨_, rfl, HR.out, L2.out⟩
set_option maxRecDepth 100000 in
set_option maxHeartbeats 1600000 in
theorem specLeaves_any (v : Value) (m : MobV) (w : World) (hv : MobRow w v m) (hs : SmallM m) (hb : BndM m) :
    Calls Try.prog 34 #[v] w fun e w' => ∃ u, e = .returned (.tuple #[u, .bool (goodB m)]) ∧ IntRow w' u (rodsL m (leavesF m (2 * m.am.length))) ∧ Below w.heap.size w w' := by
  have D := Lib.hid (fun w1 (l : Below w.heap.size w w1) => l5Good_any v m w1 (hv.lo l) hs hb)
  cases hg : goodB m with
  | false =>
    rw [hg] at D
    rw [rodsL_no hg]
    obtain ⟨a, b, c, d, rfl⟩ := hv.form
    obtain ⟨W, hW⟩ : ∃ W, w.alloc (.cells #[.slice a m.am.length c, .slice b m.hu.length d] 27) = W := ⟨_, rfl⟩
    have LW := Lib.hid (show Below w.heap.size w W by rw [← hW]; exact (Below.refl _ _).alloc (Nat.le_refl _) _)
    have BX := Lib.hid (show Box2 W w.heap.size (.slice a m.am.length c) (.slice b m.hu.length d) by rw [← hW]; exact box2_new _ _ _ _)
    have D1 := Lib.hid (D.out W LW.out)
    clear hv hs hb D hg
    obtain ⟨_, u0, u1⟩ := BX.out
    go_enter Try.func34, Try.ntmps34
    go_wp2_with fail
    clear hW u0 u1
    refine D1.out.mono ?_
    rintro e w1 ⟨rfl, l1⟩
    have L1 := Lib.hid ((lo_on LW.out l1).alloc (by have := LW.out.size; have := l1.size; omega) (.cells #[] 3))
    clear l1 D1
    go_wp2
    go_ret2
    exact ⟨_, rfl, intRow_nil _ _ _, L1.out⟩
  | true =>
    have hf := (goodB_iff m).1 hg
    rw [hg] at D
    rw [rodsL_yes hg]
    have WT := Lib.hid (fun w1 (l : Below w.heap.size w w1) => l5Leaves_any v m w1 (hv.lo l) hf)
    obtain ⟨a, b, c, d, rfl⟩ := hv.form
    obtain ⟨W, hW⟩ : ∃ W, w.alloc (.cells #[.slice a m.am.length c, .slice b m.hu.length d] 27) = W := ⟨_, rfl⟩
    have LW := Lib.hid (show Below w.heap.size w W by rw [← hW]; exact (Below.refl _ _).alloc (Nat.le_refl _) _)
    have BX := Lib.hid (show Box2 W w.heap.size (.slice a m.am.length c) (.slice b m.hu.length d) by rw [← hW]; exact box2_new _ _ _ _)
    have D1 := Lib.hid (D.out W LW.out)
    clear hv hs hb D hg hf
    obtain ⟨_, u0, u1⟩ := BX.out
    go_enter Try.func34, Try.ntmps34
    go_wp2_with fail
    clear hW u0 u1
    refine D1.out.mono ?_
    rintro e w1 ⟨rfl, l1⟩
    have W1 := Lib.hid (WT.out w1 (lo_on LW.out l1))
    have L1 := Lib.hid (lo_on LW.out l1)
    obtain ⟨_, u0, u1⟩ := BX.out.lo l1
    clear l1 D1 WT
    go_wp2_with fail
    refine W1.out.mono ?_
    rintro e w2 ⟨u, rfl, ho, l2⟩
    have HR := Lib.hid ho.mine.row
    have L2 := Lib.hid (lo_on L1.out l2)
    clear ho l2 W1 u0 u1
    go_wp2
    go_ret2
    exact ⟨_, rfl, HR.out, L2.out⟩
set_option maxRecDepth 100000 in
set_option maxHeartbeats 1600000 in
theorem specLevel_any (v : Value) (m : MobV) (w : World) (hv : MobRow w v m) (hs : SmallM m) (hb : BndM m) :
    Calls Try.prog 32 #[v] w fun e w' => e = .returned (.tuple #[.bool (goodB m && levelB m), .bool (goodB m)]) ∧ Below w.heap.size w w' := by
  have D := Lib.hid (fun w1 (l : Below w.heap.size w w1) => l5Good_any v m w1 (hv.lo l) hs hb)
  cases hg : goodB m with
  | false =>
    rw [hg] at D
    rw [Bool.false_and]
    obtain ⟨a, b, c, d, rfl⟩ := hv.form
    obtain ⟨W, hW⟩ : ∃ W, w.alloc (.cells #[.slice a m.am.length c, .slice b m.hu.length d] 27) = W := ⟨_, rfl⟩
    have LW := Lib.hid (show Below w.heap.size w W by rw [← hW]; exact (Below.refl _ _).alloc (Nat.le_refl _) _)
    have BX := Lib.hid (show Box2 W w.heap.size (.slice a m.am.length c) (.slice b m.hu.length d) by rw [← hW]; exact box2_new _ _ _ _)
    have D1 := Lib.hid (D.out W LW.out)
    clear hv hs hb D hg
    obtain ⟨_, u0, u1⟩ := BX.out
    go_enter Try.func32, Try.ntmps32
    go_wp2_with fail
    clear hW u0 u1
    refine D1.out.mono ?_
    rintro e w1 ⟨rfl, l1⟩
    have L1 := Lib.hid (lo_on LW.out l1)
    clear l1 D1
    go_wp2
    go_ret2
    exact ⟨rfl, L1.out⟩
  | true =>
    have hf := (goodB_iff m).1 hg
    rw [hg] at D
    rw [Bool.true_and]
    have WT := Lib.hid (fun w1 (l : Below w.heap.size w w1) => l5Level_any v m w1 (hv.lo l) hf)
    obtain ⟨a, b, c, d, rfl⟩ := hv.form
    obtain ⟨W, hW⟩ : ∃ W, w.alloc (.cells #[.slice a m.am.length c, .slice b m.hu.length d] 27) = W := ⟨_, rfl⟩
    have LW := Lib.hid (show Below w.heap.size w W by rw [← hW]; exact (Below.refl _ _).alloc (Nat.le_refl _) _)
    have BX := Lib.hid (show Box2 W w.heap.size (.slice a m.am.length c) (.slice b m.hu.length d) by rw [← hW]; exact box2_new _ _ _ _)
    have D1 := Lib.hid (D.out W LW.out)
    clear hv hs hb D hg hf
    obtain ⟨_, u0, u1⟩ := BX.out
    go_enter Try.func32, Try.ntmps32
    go_wp2_with fail
    clear hW u0 u1
    refine D1.out.mono ?_
    rintro e w1 ⟨rfl, l1⟩
    have W1 := Lib.hid (WT.out w1 (lo_on LW.out l1))
    have L1 := Lib.hid (lo_on LW.out l1)
    obtain ⟨_, u0, u1⟩ := BX.out.lo l1
    clear l1 D1 WT
    go_wp2_with fail
    refine W1.out.mono ?_
    rintro e w2 ⟨rfl, l2⟩
    have L2 := Lib.hid (lo_on L1.out l2)
    clear l2 W1 u0 u1
    go_wp2
    go_ret2
    exact ⟨rfl, L2.out⟩
end Go.Proofs.Ytnadchgekfljkaa
