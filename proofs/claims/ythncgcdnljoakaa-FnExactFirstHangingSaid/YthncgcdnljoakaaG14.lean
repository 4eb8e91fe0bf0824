/- Mob3, Mob4, Rod3, as one text. -/
import Derived.Test.YthncgcdnljoakaaG11
import Derived.Deep.AppendLies
import Derived.Deep.RegionHeld3
import Derived.Test.YthncgcdnljoakaaG13
import Derived.OwnWalk
namespace Go.Proofs.Ythncgcdnljoakaa
open Go.RowKit
theorem range_snoc (m : Nat) (f : Nat → Int) : (List.range (m + 1)).map f = (List.range m).map f ++ [f m] := by simp [List.range_succ]
theorem icells_app (xs : List Int) (x : Int) : icells (xs ++ [x]) = icells xs ++ [.int .i64 x] := by unfold icells; rw [List.map_append]; rfl
theorem own_slice {w : World} {B : Nat} {e : TypeId} {s : Nat} {v : Value} {n : Nat} {xs : List Value} (h : w.ownsRow B e s v n xs) : ∃ a c, v = .slice a n c := by
  rcases h.2 with ⟨e1, e2⟩ | ⟨g, cap, _, e1, _⟩
  · exact ⟨none, 0, by rw [e1, e2]⟩
  · exact ⟨_, cap, e1⟩
theorem ownsRow_lo {w w' : World} {B : Nat} {e : TypeId} {s : Nat} {v : Value} {n : Nat} {xs : List Value} (h : w.ownsRow B e s v n xs) (l : Below w.heap.size w w') : w'.ownsRow B e s v n xs := by
  refine ⟨h.1, ?_⟩
  rcases h.2 with h | ⟨g, cap, cur, e, hb, hg, r⟩
  · exact .inl h
  · exact .inr ⟨g, cap, cur, e, hb, (l.block g (Array.getElem?_eq_some_iff.1 hg).1).trans hg, r⟩
theorem mul_bnd (x a : Int) (x0 : 1 ≤ x) (x1 : x ≤ 12) (a0 : 0 ≤ a) (a1 : a ≤ 6336) : 0 ≤ x * a ∧ x * a ≤ 76032 :=
  ⟨Int.mul_nonneg (by omega) a0, Int.le_trans (Int.mul_le_mul x1 a1 a0 (by omega)) (by omega)⟩
theorem turnM_bnd {m : MobV} (hf : MobF m) (i : Nat) (hi : i < m.am.length) : -76032 ≤ turnM m i ∧ turnM m i ≤ 76032 := by
  have hw := fun j => wsM_small hf m.am.length (Nat.le_refl _) j
  have h1 := hf.ends (2 * i) (by omega)
  have h2 := hf.ends (2 * i + 1) (by omega)
  have b1 := atM_bnd (hvM m (2 * i)) (wtM m) 6336 (by omega) (by have := h1.2; omega) hw
  have b2 := atM_bnd (hvM m (2 * i + 1)) (wtM m) 6336 (by omega) (by have := h2.2; omega) hw
  have m1 := mul_bnd (avM m (2 * i)) _ h1.1.1 h1.1.2 b1.1 b1.2
  have m2 := mul_bnd (avM m (2 * i + 1)) _ h2.1.1 h2.1.2 b2.1 b2.2
  unfold turnM
  omega
set_option maxRecDepth 100000 in
set_option maxHeartbeats 6400000 in
theorem l5Turns_any (v : Value) (m : MobV) (w : World) (hv : MobRow w v m) (hf : MobF m) :
    Calls Try.prog 164 #[v] w fun e w' => ∃ u, e = .returned u ∧ OwnI w' w.heap.size u (turnsL m) ∧ Below w.heap.size w w' := by
  have h1 := hf.one
  have h6 := hf.short
  have hs := hf.same
  have WT := Lib.hid (fun w1 (l : Below w.heap.size w w1) => l5Weights_any v m w1 (hv.lo l) hf)
  obtain ⟨av, bv, rfl, ha, hh⟩ := hv
  obtain ⟨g, off, c, rfl, hg, hca⟩ := pair_at ha (by omega)
  obtain ⟨g', off', c', rfl, hg', hch⟩ := pair_at hh (by omega)
  obtain ⟨n, hn⟩ : ∃ n, m.am.length = n := ⟨_, rfl⟩
  have EC := Lib.hid (fun i e (h1 : i < n) (h2 : e < 2) => end_cells hn (hs.trans hn) hca hch i e h1 h2)
  have HEN := Lib.hid (fun t (ht : t < 2 * n) => show (1 ≤ avM m t ∧ avM m t ≤ 12) ∧ ((1 ≤ hvM m t ∧ hvM m t ≤ 99) ∨ (hvM m t < 0 ∧ ((t / 2 : Nat) : Int) + 1 ≤ -hvM m t ∧ -hvM m t ≤ (n : Int) - 1)) by have := hf.ends t (by omega); unfold EndF at this; rw [hn] at this; exact this)
  have HSM := Lib.hid (show ∀ j, 0 ≤ wtM m j ∧ wtM m j ≤ 6336 from fun j => wsM_small hf m.am.length (Nat.le_refl _) j)
  have HTN := Lib.hid (fun i => show turnM m i = avM m (2 * i + 1) * atM (hvM m (2 * i + 1)) (wtM m) - avM m (2 * i) * atM (hvM m (2 * i)) (wtM m) from rfl)
  have HTL := Lib.hid (show turnsL m = (List.range n).map (turnM m) by unfold turnsL; rw [hn])
  obtain ⟨W, hW⟩ : ∃ W, w.alloc (.cells #[.slice (some ⟨g, off, none⟩) n c, .slice (some ⟨g', off', none⟩) n c'] 62) = W := ⟨_, rfl⟩
  have LW := Lib.hid (show Below w.heap.size w W by rw [← hW]; exact (Below.refl _ _).alloc (Nat.le_refl _) _)
  have BX := Lib.hid (show Box2 W w.heap.size (.slice (some ⟨g, off, none⟩) n c) (.slice (some ⟨g', off', none⟩) n c') by rw [← hW]; exact box2_new _ _ _ _)
  rw [hs, hn] at WT
  rw [hs, hn]
  rw [hn] at h1 h6
  obtain ⟨i0, hi, hz0, hz1, hz2⟩ := info_parts infoInt
  obtain ⟨W1, hW1⟩ : ∃ X, W.alloc (.cells #[] 3) = X := ⟨_, rfl⟩
  have R0 := Lib.hid (show W1.ownsRow W.heap.size 3 1 (.slice (some ⟨W.heap.size, 0, none⟩) 0 0) 0 (icells ((List.range 0).map (turnM m))) by rw [← hW1]; exact World.ownsRow_lit W #[] 0 (Nat.le_refl _) (by decide) rfl)
  have L1 := Lib.hid (show Below W.heap.size W W1 by rw [← hW1]; exact (Below.refl _ _).alloc (Nat.le_refl _) _)
  have SZ := Lib.hid (show W1.heap.size = W.heap.size + 1 by rw [← hW1]; simp)
  have W1T := Lib.hid (WT.out W1 (LW.out.trans (L1.out.mono LW.out.size)))
  clear ha hh hca hch hs hn hf WT
  obtain ⟨bx, u0, u1⟩ := BX.out.lo L1.out
  have h1' : (1 : Int) ≤ (n : Int) := by omega
  go_enter Try.func164, Try.ntmps164
  go_wp2_with fail
  clear hW hW1 u0 u1
  refine W1T.out.mono ?_
  rintro e w2 ⟨gw, rfl, hgw0, hgw1, hcw, _, l2⟩
  have HCW := Lib.hid hcw
  have hgw : W.heap.size + 1 ≤ gw := by have := SZ.out; omega
  have L2 := Lib.hid (lo_on L1.out l2)
  have R2 := Lib.hid (ownsRow_lo R0.out l2)
  have hlw := LW.out.size
  have bx0 : w.heap.size < W.heap.size := BX.out.1
  clear hcw l2 R0 W1T L1 SZ hgw0
  go_wp2
  go_loopw [3, 5] (fun t x wr => ∃ k : Nat, k ≤ n ∧ x = .int .i64 k ∧ Hid (wr.ownsRow W.heap.size 3 1 t k (icells ((List.range k).map (turnM m)))) ∧ Hid (t.ownBlock ≠ some gw) ∧ Hid (gw < wr.heap.size ∧ ∀ j, j < n → wr.cell? ⟨gw, j, none⟩ = some (.int .i64 (wtM m j))) ∧ Hid (Below W.heap.size W wr)) (fun _ x _ => n - (intOf x).toNat)
  case atStart => exact ⟨0, Nat.zero_le _, rfl, R2, Lib.hid (fun e => by have : W.heap.size = gw := Option.some.inj e; omega), Lib.hid ⟨hgw1, HCW.out⟩, L2⟩
  case round =>
    obtain ⟨k, hk, rfl, HR, HO, HC, HL⟩ := hrel
    obtain ⟨wx, rfl⟩ : ∃ wx : World, wx = wr := ⟨_, rfl⟩
    clear R2 L2 HCW
    obtain ⟨_, u0, u1⟩ := BX.out.lo HL.out
    by_cases hlt : k < n
    · have hlt' : (k : Int) < (n : Int) := by omega
      have LX := LW.out.trans (HL.out.mono LW.out.size)
      have e1 := (EC.out k 0 hlt (by omega))
      have e2 := (EC.out k 1 hlt (by omega))
      rw [← LX.cell (p := ⟨g, off + k * 2 + 0, none⟩) hg, ← LX.cell (p := ⟨g', off' + k * 2 + 0, none⟩) hg'] at e1
      rw [← LX.cell (p := ⟨g, off + k * 2 + 1, none⟩) hg, ← LX.cell (p := ⟨g', off' + k * 2 + 1, none⟩) hg'] at e2
      simp only [Nat.add_zero] at e1
      obtain ⟨e1a, e1h⟩ := e1
      obtain ⟨e2a, e2h⟩ := e2
      have n1 := HEN.out (2 * k) (by omega)
      have n2 := HEN.out (2 * k + 1) (by omega)
      rw [show 2 * k / 2 = k by omega] at n1
      rw [show (2 * k + 1) / 2 = k by omega] at n2
      have HT := Lib.hid (HTN.out k)
      have HSN := Lib.hid (range_snoc k (turnM m))
      obtain ⟨p, hp⟩ : ∃ p, hvM m (2 * k) = p := ⟨_, rfl⟩
      obtain ⟨q, hq⟩ : ∃ q, hvM m (2 * k + 1) = q := ⟨_, rfl⟩
      obtain ⟨x, hx⟩ : ∃ p, avM m (2 * k) = p := ⟨_, rfl⟩
      obtain ⟨y, hy⟩ : ∃ q, avM m (2 * k + 1) = q := ⟨_, rfl⟩
      rw [hp] at e1h n1 HT
      rw [hq] at e2h n2 HT
      rw [hx] at e1a n1 HT
      rw [hy] at e2a n2 HT
      obtain ⟨f, hff⟩ : ∃ f, wtM m = f := ⟨_, rfl⟩
      rw [hff] at HC HT
      have hb := HSM.out
      rw [hff] at hb
      have A1 := Lib.hid (l5At_any p gw n n f wx.drew (by omega) (by omega) h6 (fun h => ⟨by omega, HC.out.2 _ (by omega)⟩))
      have A2 := Lib.hid (l5At_any q gw n n f wx.drew (by omega) (by omega) h6 (fun h => ⟨by omega, HC.out.2 _ (by omega)⟩))
      have b1 := atM_bnd p f 6336 (by omega) (by omega) hb
      have b2 := atM_bnd q f 6336 (by omega) (by omega) hb
      generalize atM p f = a at *
      generalize atM q f = b at *
      have m1 := mul_bnd x a (by omega) (by omega) b1.1 b1.2
      have m2 := mul_bnd y b (by omega) (by omega) b2.1 b2.2
      have H1 := Lib.hid (wrap_mid (x * a) (by omega) (by omega))
      have H2 := Lib.hid (wrap_mid (y * b) (by omega) (by omega))
      have H3 := Lib.hid (wrap_mid (y * b - x * a) (by omega) (by omega))
      obtain ⟨ta, tc, htv⟩ := own_slice HR.out
      subst htv
      have HCF := Lib.hid (show ∀ j, j < n → wx.cell? ⟨gw, j, none⟩ = some (.int .i64 (f j)) from HC.out.2)
      have hgx := HC.out.1
      have HFF := Lib.hid hff
      have hwx := HL.out.size
      have OWD := Lib.hid (ownsRow_lo HR.out (drew_below wx))
      clear LX hff hp hq hx hy n1 n2 hb m1 m2 b1 b2 HC HR
      go_wp2
      have hw1 := H1.out
      have hw2 := H2.out
      have hw3 := H3.out
      have HNE := Lib.hid (show ∀ b, b < W.heap.size → some b ≠ (Value.slice ta k tc).ownBlock from fun b hb e => by have := (OWD.out.lt b e.symm).1; omega)
      have hgWb : w.heap.size < W.heap.size := bx0
      have hgW : g < W.heap.size := by omega
      have hgW' : g' < W.heap.size := by omega
      go_region_held3 (fun w' => w'.cell? ⟨w.heap.size, 0, none⟩ = some (.slice (some ⟨g, off, none⟩) n c) ∧ w'.cell? ⟨w.heap.size, 1, none⟩ = some (.slice (some ⟨g', off', none⟩) n c') ∧ w'.cell? ⟨g, off + k * 2, none⟩ = some (.int .i64 x) ∧ w'.cell? ⟨g, off + k * 2 + 1, none⟩ = some (.int .i64 y) ∧ w'.cell? ⟨g', off' + k * 2, none⟩ = some (.int .i64 p) ∧ w'.cell? ⟨g', off' + k * 2 + 1, none⟩ = some (.int .i64 q))
        (first
          | exact ⟨u0, u1, e1a, e2a, e1h, e2h⟩
          | go_keep
          | (go_split_ands
             refine ⟨?_, ?_, ?_, ?_, ?_, ?_⟩ <;> (rw [hgrow7.cell_far _ (by simp; omega) (HNE.out _ (by simp only; omega))]; assumption)))
        (first
          | (go_at_call_of 177 (Value.int IntKind.i64 q); refine (A2.out).mono ?_; rintro e v5 ⟨rfl, rfl⟩)
          | (go_at_call_of 177 (Value.int IntKind.i64 p); refine (A1.out).mono ?_; rintro e v5 ⟨rfl, rfl⟩)
          | (refine step_append_lies _ (by rfl) _ _ _ (by rfl) W.heap.size 3 i0 _ 1 8 Try.underlying38 hi hz0 hz1 hz2 rfl (by omega) (.slice ta k tc) k (icells ((List.range k).map (turnM m))) (by rfl) (OWD.out.alloc _) ⟨wx.heap.size, 0, none⟩ 1 1 [.int .i64 (y * b - x * a)] (by rfl) (by rfl) (World.news_of_block (cs := #[.int .i64 (y * b - x * a)]) (t := 3) (fr := (0, 0)) (heap_alloc_new wx.drew _)) (by simp [Value.oneCell']) (by omega) (by unfold maxLen; omega) (by omega) (by simp; omega) (wx.heap.size + 1) (by simp) ?_; intro g7 cap7 w7 hown7 hgrow7 hat7 hlt7))
      have HLD := Lib.hid (lo_on HL.out (drew_below wx))
      have hgd : gw < wx.drew.heap.size := hgx
      have hwd : W.heap.size ≤ wx.drew.heap.size := hwx
      have HCD := Lib.hid (show ∀ j, j < n → wx.drew.cell? ⟨gw, j, none⟩ = some (.int .i64 (f j)) from HCF.out)
      have HN := Lib.hid (show w7.ownsRow W.heap.size 3 1 (.slice (some ⟨g7, 0, none⟩) (k + 1) cap7) (k + 1) (icells ((List.range (k + 1)).map (turnM m))) by rw [HSN.out, icells_app, HT.out]; exact hown7)
      have HON := Lib.hid (show (Value.slice (some ⟨g7, 0, none⟩) (k + 1) cap7).ownBlock ≠ some gw from fun e => by
        have e7 : g7 = gw := Option.some.inj e
        rcases hat7 with h | h
        · exact HO.out (by rw [h, e7])
        · omega)
      have HB := Lib.hid (show Below W.heap.size W w7 from (HLD.out.alloc hwd _).grown hgrow7 (by simp; omega) (fun q hq => (OWD.out.lt q hq).1))
      have HCN := Lib.hid (show gw < w7.heap.size ∧ ∀ j, j < n → w7.cell? ⟨gw, j, none⟩ = some (.int .i64 (wtM m j)) from ⟨by have := hgrow7.size; simp at this; omega, fun j hj => by
        rw [hgrow7.cell_far _ (by simp; omega) (fun e => HO.out e.symm), World.cell?_of_block (Below.heap_alloc wx.drew _ gw hgd), HFF.out]
        exact HCD.out j hj⟩)
      clear hown7 hgrow7 hat7 HSN HT
      go_wp2
      go_roundw
      case rel => exact ⟨k + 1, by omega, by go_num, HN, HON, HCN, HB⟩
      case measure => simp [intOf]; omega
    · obtain rfl : k = n := by omega
      have hge : ¬ (k : Int) < (k : Int) := by omega
      have LF := Lib.hid (LW.out.trans (HL.out.mono LW.out.size))
      have HOF := Lib.hid (show OwnI wx w.heap.size u3 (turnsL m) by
        rw [HTL.out]
        unfold OwnI
        rw [List.length_map, List.length_range]
        obtain ⟨h3, h4⟩ := HR.out
        refine ⟨h3, ?_⟩
        rcases h4 with h | ⟨g', cap', cur, e, hb', r⟩
        · exact .inl h
        · exact .inr ⟨g', cap', cur, e, by omega, r⟩)
      go_wp2
      go_ret
      exact ⟨_, rfl, HOF.out, LF.out⟩
end Go.Proofs.Ythncgcdnljoakaa
namespace Go.Proofs.Ythncgcdnljoakaa
open Go.RowKit
noncomputable def levelB (m : MobV) : Bool := propB (∀ i, i < m.am.length → turnM m i = 0)
theorem turnsL_len (m : MobV) : (turnsL m).length = m.am.length := by simp [turnsL]
theorem turnsL_at (m : MobV) (i : Nat) (h : i < m.am.length) : (turnsL m).getD i 0 = turnM m i := by simp [turnsL, List.getD, h]
theorem cellI_of {w : World} {B : Nat} {u : Value} {xs : List Int} (h : OwnI w B u xs) (h0 : 0 < xs.length) : ∃ g c, u = .slice (some ⟨g, 0, none⟩) xs.length c ∧ B ≤ g ∧ g < w.heap.size ∧ ∀ j, j < xs.length → w.cell? ⟨g, j, none⟩ = some (.int .i64 (xs.getD j 0)) := by
  unfold OwnI at h
  have h' := h
  obtain ⟨g, cap, rfl, hb, hl⟩ := h.form h0
  exact ⟨g, cap, rfl, hb, hl, fun j hj => by rw [h'.cellAt j (by omega)]; exact icells_at xs j hj⟩
set_option maxRecDepth 100000 in
set_option maxHeartbeats 1600000 in
theorem l5Level_any (v : Value) (m : MobV) (w : World) (hv : MobRow w v m) (hf : MobF m) :
    Calls Try.prog 137 #[v] w fun e w' => e = .returned (.bool (levelB m)) ∧ Below w.heap.size w w' := by
  have h1 := hf.one
  have h6 := hf.short
  have TN := Lib.hid (fun w1 (l : Below w.heap.size w w1) => l5Turns_any v m w1 (hv.lo l) hf)
  obtain ⟨a, b, c, d, rfl⟩ := hv.form
  obtain ⟨W, hW⟩ : ∃ W, w.alloc (.cells #[.slice a m.am.length c, .slice b m.hu.length d] 62) = W := ⟨_, rfl⟩
  have LW := Lib.hid (show Below w.heap.size w W by rw [← hW]; exact (Below.refl _ _).alloc (Nat.le_refl _) _)
  have BX := Lib.hid (show Box2 W w.heap.size (.slice a m.am.length c) (.slice b m.hu.length d) by rw [← hW]; exact box2_new _ _ _ _)
  have T1 := Lib.hid (TN.out W LW.out)
  have HTL := Lib.hid (turnsL_len m)
  have HTA := Lib.hid (fun i h => turnsL_at m i h)
  have HYES := Lib.hid (fun (h : ∀ i, i < m.am.length → turnM m i = 0) => show levelB m = true from propB_yes h)
  have HNO := Lib.hid (fun i (hi : i < m.am.length) (h : turnM m i ≠ 0) => show levelB m = false from propB_no (fun f => h (f i hi)))
  obtain ⟨r, hr⟩ : ∃ r, levelB m = r := ⟨_, rfl⟩
  rw [hr] at HYES HNO ⊢
  generalize m.am.length = n at *
  generalize m.hu.length = n2 at *
  clear hv hf TN hr
  obtain ⟨_, u0, u1⟩ := BX.out
  go_enter Try.func137, Try.ntmps137
  go_wp2_with fail
  clear hW u0 u1
  refine T1.out.mono ?_
  rintro e w1 ⟨u, rfl, ho, l1⟩
  have L1 := Lib.hid (lo_on LW.out l1)
  obtain ⟨g, cc, rfl, _, hg, hc⟩ := cellI_of ho (by rw [HTL.out]; omega)
  rw [HTL.out] at hc ⊢
  have HC := Lib.hid hc
  clear ho hc l1 T1
  go_wp2
  go_loopw [4] (fun x wr => ∃ k : Nat, k ≤ n ∧ x = .int .i64 k ∧ Hid (∀ i, i < k → turnM m i = 0) ∧ wr = w1) (fun x _ => n - (intOf x).toNat)
  case atStart => exact ⟨0, Nat.zero_le _, rfl, Lib.hid (fun i h => by omega), rfl⟩
  case round =>
    obtain ⟨k, hk, rfl, HZ, rfl⟩ := hrel
    by_cases hlt : k < n
    · have hlt' : (k : Int) < (n : Int) := by omega
      have ck := HC.out k hlt
      rw [HTA.out k hlt] at ck
      have HNk := Lib.hid (HNO.out k hlt)
      obtain ⟨z, hz⟩ : ∃ z, turnM m k = z := ⟨_, rfl⟩
      rw [hz] at ck HNk
      by_cases z0 : z = 0
      · subst z0
        have HZN := Lib.hid (show ∀ i, i < k + 1 → turnM m i = 0 from fun i hi => by
          by_cases e : i = k
          · rw [e]; exact hz
          · exact HZ.out i (by omega))
        clear hz
        go_wp2
        go_roundw
        case rel => exact ⟨k + 1, by omega, by go_num, HZN, by trivial⟩
        case measure => simp [intOf]; omega
      · have hgf := HNk.out z0
        subst hgf
        have hneb : (z != 0) = true := by simp [z0]
        clear hz
        go_wp2
        go_ret
        exact ⟨rfl, L1.out⟩
    · obtain rfl : k = n := by omega
      have hgt := HYES.out HZ.out
      subst hgt
      go_wp2
      go_ret
      exact ⟨rfl, L1.out⟩
theorem leavesF_len (m : MobV) : ∀ T, (leavesF m T).length ≤ T := by
  intro T
  induction T with
  | zero => exact Nat.le_refl _
  | succ T ih =>
    rw [leavesF]
    split
    · rw [List.length_append]; simp; omega
    · omega
end Go.Proofs.Ythncgcdnljoakaa
namespace Go.Proofs.Ythncgcdnljoakaa
open Go.RowKit
theorem RodsTo.lo {w w' : World} {B g k n : Nat} {b : Nat → Nat} {S : RodF} (h : RodsTo w B g k n b S) (l : Below w.heap.size w w') : RodsTo w' B g k n b S where
  rods := h.rods.lo l
  row := fun j hj => by rw [l.cell (p := ⟨g, j, none⟩) h.lt]; exact h.row j hj
  fz := fun j => by rw [l.frozen (p := ⟨g, j, none⟩) h.lt]; exact h.fz j
  lt := Nat.lt_of_lt_of_le h.lt l.size
  apart := h.apart
/-- A row of integers with room, just made. -/
theorem ownI_room (w : World) (n B : Nat) (hB : B ≤ w.heap.size) (hn : n ≤ 2000000) : OwnI (w.alloc (.cells (madeCells #[.int .i64 0] n) 3)) B (.slice (some ⟨w.heap.size, 0, none⟩) 0 n) [] := by
  unfold OwnI
  refine ⟨rfl, .inr ⟨w.heap.size, n, madeCells #[.int .i64 0] n, rfl, hB, ?_, Nat.zero_le _, by unfold maxLen; omega, ?_, rfl⟩⟩
  · exact heap_alloc_new w _
  · rw [← Array.length_toList, toList_madeCells_one]; simp
theorem owns_drewN {w : World} {B k s : Nat} {e : TypeId} {v : Value} {xs : List Value} (h : w.ownsRow B e s v k xs) (q : Nat) (w2 : World) (hw : w2 = w.drewN q) : w2.ownsRow B e s v k xs := by subst hw; exact h
theorem make_room (n : Nat) (hn : n ≤ 2000000) (u : World) :
    (Instr.makeSlice 38 (.int .i64 0) (.int .i64 (n : Int))).run Try.prog u = .ok (.slice (some ⟨u.heap.size, 0, none⟩) 0 n) (u.alloc (.cells (madeCells #[.int .i64 0] n) 3)) := by
  obtain ⟨i0, hi, hz0, hz1, hz2⟩ := info_parts infoInt
  have h := run_make (P := Try.prog) u 38 3 i0 (.int .i64 0) Try.underlying38 hi hz0 .i64 .i64 0 (n : Int) (by omega) (by omega) (by rw [hz2]; omega) (by omega)
  simpa [hz1, Value.cells] using h
theorem map_snoc (f : Nat → Int) (k : Nat) : (List.range (k + 1)).map f = (List.range k).map f ++ [f k] := by rw [List.range_succ, List.map_append]; rfl
theorem ar_rodF {m : MobV} (hf : MobF m) (t : Nat) (ht : t < 2 * m.am.length) : 0 ≤ (rodF m).ar t ∧ (rodF m).ar t ≤ 24 := by
  have := (hf.ends t ht).1
  simp only [rodF]
  omega
theorem turnR_rodF {m : MobV} (hf : MobF m) (i : Nat) (hi : i < m.am.length) : turnR (rodF m) (wtM m) i = turnM m i := by
  unfold turnR turnM
  rw [atR_rodF hf _ (by omega), atR_rodF hf _ (by omega)]
  rfl
/-- The first turn that is not 0, or -1. -/
def FirstTurn (xs : List Int) (w : World) (e : Ending) (w' : World) : Prop := ∃ z : Int, e = .returned (.int .i64 z) ∧ (0 ≤ z ↔ ¬ ∀ j, j < xs.length → xs.getD j 0 = 0) ∧ Below w.heap.size w w'
end Go.Proofs.Ythncgcdnljoakaa
