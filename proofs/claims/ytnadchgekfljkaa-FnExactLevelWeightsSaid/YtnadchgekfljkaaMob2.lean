/- The contracts of the model's RodWeights. -/
import Derived.Test.YtnadchgekfljkaaMob1
import Derived.StillTailTactics
namespace Go.Proofs.Ytnadchgekfljkaa
open Go.RowKit
theorem wrap_mid (x : Int) (h : -1000000000 ≤ x) (k : x ≤ 1000000000) : IntKind.i64.wrap x = x := by rw [IntKind.wrap_i64]; omega
theorem l5At_any (h : Int) (g n c : Nat) (f : Nat → Int) (w : World) (h0 : -100 ≤ h) (h1 : h ≤ 100) (hn : n ≤ 6) (hc : h < 0 → (-h).toNat < n ∧ w.cell? ⟨g, (-h).toNat, none⟩ = some (.int .i64 (f (-h).toNat))) :
    Calls Try.prog 107 #[.int .i64 h, .slice (some ⟨g, 0, none⟩) n c] w fun e w' => e = .returned (.int .i64 (atM h f)) ∧ w' = w := by
  by_cases hneg : h < 0
  · obtain ⟨hq, hcell⟩ := hc hneg
    have hat : atM h f = f (-h).toNat := by unfold atM; rw [if_pos hneg]
    rw [hat]
    obtain ⟨q, hqq⟩ : ∃ q, (-h).toNat = q := ⟨_, rfl⟩
    rw [hqq] at hq hcell ⊢
    have hh : h = -(q : Int) := by omega
    subst hh
    have hq' : (q : Int) < (n : Int) := by omega
    have hq6 : (q : Int) ≤ 6 := by omega
    generalize f q = x at *
    clear hat hqq hc
    go_enter Try.func107, Try.ntmps107
    go_wp2
    go_ret
    exact ⟨rfl, rfl⟩
  · have hat : atM h f = h := by unfold atM; rw [if_neg hneg]
    rw [hat]
    clear hat hc
    go_enter Try.func107, Try.ntmps107
    go_wp2
    go_ret
    exact ⟨rfl, rfl⟩
theorem atM_bnd (h : Int) (f : Nat → Int) (B : Int) (hB : 99 ≤ B) (h1 : h ≤ 99) (hf : ∀ j, 0 ≤ f j ∧ f j ≤ B) : 0 ≤ atM h f ∧ atM h f ≤ B := by
  unfold atM
  split
  · exact hf _
  · omega
theorem wsM_bnd {m : MobV} (hf : MobF m) : ∀ k, k ≤ m.am.length → ∀ j, 0 ≤ wsM m k j ∧ wsM m k j ≤ 99 * 2 ^ k := by
  intro k
  induction k with
  | zero => intro _ j; simp [wsM]
  | succ k ih =>
    intro hk j
    have ih := ih (by omega)
    have hp : (1 : Int) ≤ 2 ^ k := by
      have : (0 : Int) < 2 ^ k := Int.pow_pos (by decide)
      omega
    have h99 : ∀ t, t < 2 * m.am.length → hvM m t ≤ 99 := fun t ht => by have := (hf.ends t ht).2; omega
    simp only [wsM]
    split
    · have a := atM_bnd (hvM m (2 * (m.am.length - 1 - k))) (wsM m k) (99 * 2 ^ k) (by omega) (h99 _ (by omega)) ih
      have b := atM_bnd (hvM m (2 * (m.am.length - 1 - k) + 1)) (wsM m k) (99 * 2 ^ k) (by omega) (h99 _ (by omega)) ih
      rw [Int.pow_succ]
      omega
    · have := ih j
      rw [Int.pow_succ]
      omega
theorem wsM_small {m : MobV} (hf : MobF m) (k : Nat) (hk : k ≤ m.am.length) (j : Nat) : 0 ≤ wsM m k j ∧ wsM m k j ≤ 6336 := by
  have h := wsM_bnd hf k hk j
  have h6 := hf.short
  have hp : (2 : Int) ^ k ≤ 2 ^ 6 := by
    have := Nat.pow_le_pow_right (show 0 < 2 by decide) (show k ≤ 6 by omega)
    exact_mod_cast this
  omega
set_option maxRecDepth 100000 in
set_option maxHeartbeats 3200000 in
theorem l5Weights_any (v : Value) (m : MobV) (w : World) (hv : MobRow w v m) (hf : MobF m) :
    Calls Try.prog 80 #[v] w fun e w' => ∃ g, e = .returned (.slice (some ⟨g, 0, none⟩) m.am.length m.am.length) ∧ w.heap.size ≤ g ∧ g < w'.heap.size ∧ (∀ j, j < m.am.length → w'.cell? ⟨g, j, none⟩ = some (.int .i64 (wtM m j))) ∧ (∀ j, w'.frozen? ⟨g, j, none⟩ = false) ∧ Below w.heap.size w w' := by
  have h1 := hf.one
  have h6 := hf.short
  have hs := hf.same
  obtain ⟨av, bv, rfl, ha, hh⟩ := hv
  obtain ⟨g, off, c, rfl, hg, hca⟩ := pair_at ha (by omega)
  obtain ⟨g', off', c', rfl, hg', hch⟩ := pair_at hh (by omega)
  obtain ⟨n, hn⟩ : ∃ n, m.am.length = n := ⟨_, rfl⟩
  have EC := Lib.hid (fun i e (h1 : i < n) (h2 : e < 2) => end_cells hn (hs.trans hn) hca hch i e h1 h2)
  have HEN := Lib.hid (fun t (ht : t < 2 * n) => show (1 ≤ hvM m t ∧ hvM m t ≤ 99) ∨ (hvM m t < 0 ∧ ((t / 2 : Nat) : Int) + 1 ≤ -hvM m t ∧ -hvM m t ≤ (n : Int) - 1) by have := (hf.ends t (by omega)).2; rw [hn] at this; exact this)
  have HSM := Lib.hid (fun k (hk : k ≤ n) j => wsM_small hf k (by omega) j)
  have HWS := Lib.hid (fun k j => show wsM m (k + 1) j = if j = n - 1 - k then atM (hvM m (2 * (n - 1 - k))) (wsM m k) + atM (hvM m (2 * (n - 1 - k) + 1)) (wsM m k) else wsM m k j by rw [wsM, hn])
  have HWT := Lib.hid (show wtM m = wsM m n by unfold wtM; rw [hn])
  obtain ⟨W, hW⟩ : ∃ W, w.alloc (.cells #[.slice (some ⟨g, off, none⟩) n c, .slice (some ⟨g', off', none⟩) n c'] 27) = W := ⟨_, rfl⟩
  have LW := Lib.hid (show Below w.heap.size w W by rw [← hW]; exact (Below.refl _ _).alloc (Nat.le_refl _) _)
  have BX := Lib.hid (show Box2 W w.heap.size (.slice (some ⟨g, off, none⟩) n c) (.slice (some ⟨g', off', none⟩) n c') by rw [← hW]; exact box2_new _ _ _ _)
  rw [hs, hn]
  rw [hn] at h1 h6
  have HM := make_ints n (by omega)
  obtain ⟨W1, hW1⟩ : ∃ X, W.alloc (.cells (madeCells #[.int .i64 0] n) 3) = X := ⟨_, rfl⟩
  have CZ := Lib.hid (show ∀ j, j < n → W1.cell? ⟨W.heap.size, j, none⟩ = some (.int .i64 (wsM m 0 j)) from fun j hj => by rw [← hW1, World.cell?_alloc_at _ _ _ _ rfl]; exact made_int _ _ hj)
  have FZ := Lib.hid (show ∀ j, W1.frozen? ⟨W.heap.size, j, none⟩ = false from fun j => by rw [← hW1]; exact World.frozen?_alloc_at _ _ _ _ rfl)
  have SZ := Lib.hid (show W.heap.size < W1.heap.size by rw [← hW1]; simp)
  have L1 := Lib.hid (show Below W.heap.size W W1 by rw [← hW1]; exact (Below.refl _ _).alloc (Nat.le_refl _) _)
  clear ha hh hca hch hs hn hf
  obtain ⟨bx, u0, u1⟩ := BX.out
  have h1' : (1 : Int) ≤ (n : Int) := by omega
  go_enter Try.func80, Try.ntmps80
  go_wp2
  clear hW hW1 u0 u1
  go_loopw [4] (fun x wr => ∃ k : Nat, k ≤ n ∧ x = .int .i64 ((n : Int) - 1 - k) ∧ Hid (∀ j, j < n → wr.cell? ⟨W.heap.size, j, none⟩ = some (.int .i64 (wsM m k j))) ∧ Hid (∀ j, wr.frozen? ⟨W.heap.size, j, none⟩ = false) ∧ Hid (Below W.heap.size W wr) ∧ Hid (W.heap.size < wr.heap.size)) (fun x _ => (intOf x + 1).toNat)
  case atStart => exact ⟨0, Nat.zero_le _, by simp, CZ, FZ, L1, SZ⟩
  case round =>
    obtain ⟨k, hk, rfl, HC, HF, HL, HS⟩ := hrel
    obtain ⟨wx, rfl⟩ : ∃ wx : World, wx = wr := ⟨_, rfl⟩
    clear CZ FZ L1 SZ
    by_cases hlt : k < n
    · obtain ⟨i, hi⟩ : ∃ i : Nat, (n : Int) - 1 - k = (i : Int) := ⟨n - 1 - k, by omega⟩
      rw [hi]
      have HI := Lib.hid hi
      have hin : i < n := by omega
      have hin' : (i : Int) < (n : Int) := by omega
      have hi0 : (0 : Int) ≤ (i : Int) := by omega
      obtain ⟨_, u0, u1⟩ := BX.out.lo HL.out
      have LX := LW.out.trans (HL.out.mono LW.out.size)
      have e1 := (EC.out i 0 hin (by omega)).2
      have e2 := (EC.out i 1 hin (by omega)).2
      rw [← LX.cell (p := ⟨g', off' + i * 2 + 0, none⟩) hg'] at e1
      rw [← LX.cell (p := ⟨g', off' + i * 2 + 1, none⟩) hg'] at e2
      simp only [Nat.add_zero] at e1
      have n1 := HEN.out (2 * i) (by omega)
      have n2 := HEN.out (2 * i + 1) (by omega)
      rw [show 2 * i / 2 = i by omega] at n1
      rw [show (2 * i + 1) / 2 = i by omega] at n2
      have HWK := Lib.hid (fun j => HWS.out k j)
      rw [show n - 1 - k = i by omega] at HWK
      have hb := HSM.out k hk
      obtain ⟨f, hfk⟩ : ∃ f, wsM m k = f := ⟨_, rfl⟩
      rw [hfk] at HC hb HWK
      obtain ⟨p, hp⟩ : ∃ p, hvM m (2 * i) = p := ⟨_, rfl⟩
      obtain ⟨q, hq⟩ : ∃ q, hvM m (2 * i + 1) = q := ⟨_, rfl⟩
      rw [hp] at e1 n1 HWK
      rw [hq] at e2 n2 HWK
      have A1 := Lib.hid (l5At_any p W.heap.size n n f wx.drew (by omega) (by omega) h6 (fun h => ⟨by omega, HC.out _ (by omega)⟩))
      have A2 := Lib.hid (l5At_any q W.heap.size n n f wx.drew (by omega) (by omega) h6 (fun h => ⟨by omega, HC.out _ (by omega)⟩))
      have b1 := atM_bnd p f 6336 (by omega) (by omega) hb
      have b2 := atM_bnd q f 6336 (by omega) (by omega) hb
      have ci := HC.out i hin
      have fi := HF.out i
      have OS := Lib.hid (fun u => one_set wx W.heap.size i u ci)
      generalize atM p f = a at *
      generalize atM q f = b at *
      have HW1 := Lib.hid (wrap_mid (a + b) (by omega) (by omega))
      clear LX hfk hp hq n1 n2 hb hi
      go_wp2
      have hw := HW1.out
      refine wp_region_still_tail 20 (by kernel_rfl) (by kernel_rfl) ?_
      simp only [List.take_succ_cons, List.take_zero, List.drop_succ_cons, List.drop_zero]
      change wpStill _ _ wx.drew _ _ _
      repeat still_step
      still_call A1.out
      repeat still_step
      still_call A2.out
      repeat still_step
      refine wpStill_nil ?_
      change wpList _ _ _ _ _ wx.drew
      have HLD := Lib.hid (lo_on HL.out (drew_below wx))
      have HCD := Lib.hid (show ∀ j, j < n → wx.drew.cell? ⟨W.heap.size, j, none⟩ = some (.int .i64 (f j)) from HC.out)
      have HFD := Lib.hid (show ∀ j, wx.drew.frozen? ⟨W.heap.size, j, none⟩ = false from HF.out)
      have HSD := Lib.hid (show W.heap.size < wx.drew.heap.size from HS.out)
      have OSD := Lib.hid (one_set wx.drew W.heap.size i (.int .i64 (a + b)) ci)
      have cd : wx.drew.cell? ⟨W.heap.size, i, none⟩ = _ := ci
      have fd : wx.drew.frozen? ⟨W.heap.size, i, none⟩ = false := fi
      clear A1 A2 OS ci fi e1 e2 u0 u1 HC HF HL HS
      generalize wx.drew = wd at *
      go_wp2
      go_roundw
      case rel =>
        refine ⟨k + 1, by omega, by exact congrArg (Value.int .i64) (by have := HI.out; omega), Lib.hid (fun j hj => ?_), Lib.hid (fun j => by rw [World.frozen?_setCell]; exact HFD.out j), Lib.hid (HLD.out.setCell (p := ⟨W.heap.size, i, none⟩) (Nat.le_refl _) _), Lib.hid (by have := HSD.out; simpa using this)⟩
        rw [HWK.out j]
        by_cases e : j = i
        · rw [if_pos e, e]; exact OSD.out.1
        · rw [if_neg e, OSD.out.2 j e]; exact HCD.out j hj
      case measure => have := HI.out; simp only [intOf]; omega
    · obtain rfl : k = n := by omega
      have hneg : (k : Int) - 1 - k = -1 := by omega
      rw [hneg]
      have LF := Lib.hid (LW.out.trans (HL.out.mono LW.out.size))
      have hsz := LW.out.size
      go_wp2
      go_ret
      exact ⟨_, rfl, hsz, HS.out, by rw [HWT.out]; exact HC.out, HF.out, LF.out⟩
noncomputable def rodsL (m : MobV) (l : List Int) : List Int := if goodB m = true then l else []
theorem rodsL_yes {m : MobV} (h : goodB m = true) (l : List Int) : rodsL m l = l := by unfold rodsL; rw [if_pos h]
theorem rodsL_no {m : MobV} (h : goodB m = false) (l : List Int) : rodsL m l = [] := by unfold rodsL; rw [if_neg (by rw [h]; simp)]
theorem rodsL_small (m : MobV) (l : List Int) (h : goodB m = true → l.length ≤ 2000000) : (rodsL m l).length ≤ 2000000 := by
  unfold rodsL
  split
  · exact h (by assumption)
  · simp
theorem row_of_cells {w : World} {g n c : Nat} {f : Nat → Int} (hg : g < w.heap.size) (h : ∀ j, j < n → w.cell? ⟨g, j, none⟩ = some (.int .i64 (f j))) : IntRow w (.slice (some ⟨g, 0, none⟩) n c) ((List.range n).map f) := by
  refine ⟨_, c, by rw [List.length_map, List.length_range], .inr ⟨g, 0, rfl, hg, fun j hj => ?_⟩⟩
  rw [List.length_map, List.length_range] at hj
  rw [Nat.zero_add, h j hj]
  simp [List.getD, hj]
set_option maxRecDepth 100000 in
set_option maxHeartbeats 1600000 in
theorem specWeights_any (v : Value) (m : MobV) (w : World) (hv : MobRow w v m) (hs : SmallM m) (hb : BndM m) :
    Calls Try.prog 24 #[v] w fun e w' => ∃ u, e = .returned (.tuple #[u, .bool (goodB m)]) ∧ IntRow w' u (rodsL m (weightsL m)) ∧ Below w.heap.size w w' := by
  have D := Lib.hid (fun w1 (l : Below w.heap.size w w1) => l5Good_any v m w1 (hv.lo l) hs hb)
  cases hg : goodB m with
  | false =>
    rw [hg] at D
    rw [rodsL_no hg]
    obtain ⟨a, b, c, d, rfl⟩ := hv.form
    obtain ⟨W, hW⟩ : ∃ W, w.alloc (.cells #[.slice a m.am.length c, .slice b m.hu.length d] 27) = W := ⟨_, rfl⟩
    have LW := Lib.hid (show Below w.heap.size w W by rw [← hW]; exact (Below.refl _ _).alloc (Nat.le_refl _) _)
    have BX := Lib.hid (show Box2 W w.heap.size (.slice a m.am.length c) (.slice b m.hu.length d) by rw [← hW]; exact box2_new _ _ _ _)
    have D1 := Lib.hid (D.out W LW.out)
    clear hv hs hb D hg
    obtain ⟨_, u0, u1⟩ := BX.out
    go_enter Try.func24, Try.ntmps24
    go_wp2_with fail
    clear hW u0 u1
    refine D1.out.mono ?_
    rintro e w1 ⟨rfl, l1⟩
    have L1 := Lib.hid ((lo_on LW.out l1).alloc (by have := LW.out.size; have := l1.size; omega) (.cells #[] 3))
    clear l1 D1
    go_wp2
    go_ret2
    exact ⟨_, rfl, intRow_nil _ _ _, L1.out⟩
  | true =>
    have hf := (goodB_iff m).1 hg
    rw [hg] at D
    rw [rodsL_yes hg]
    have WT := Lib.hid (fun w1 (l : Below w.heap.size w w1) => l5Weights_any v m w1 (hv.lo l) hf)
    obtain ⟨a, b, c, d, rfl⟩ := hv.form
    obtain ⟨W, hW⟩ : ∃ W, w.alloc (.cells #[.slice a m.am.length c, .slice b m.hu.length d] 27) = W := ⟨_, rfl⟩
    have LW := Lib.hid (show Below w.heap.size w W by rw [← hW]; exact (Below.refl _ _).alloc (Nat.le_refl _) _)
    have BX := Lib.hid (show Box2 W w.heap.size (.slice a m.am.length c) (.slice b m.hu.length d) by rw [← hW]; exact box2_new _ _ _ _)
    have D1 := Lib.hid (D.out W LW.out)
    have HWL := Lib.hid (show weightsL m = (List.range m.am.length).map (wtM m) from rfl)
    clear hv hs hb D hg hf
    generalize m.am.length = n at *
    generalize m.hu.length = n2 at *
    obtain ⟨_, u0, u1⟩ := BX.out
    go_enter Try.func24, Try.ntmps24
    go_wp2_with fail
    clear hW u0 u1
    refine D1.out.mono ?_
    rintro e w1 ⟨rfl, l1⟩
    have W1 := Lib.hid (WT.out w1 (lo_on LW.out l1))
    have L1 := Lib.hid (lo_on LW.out l1)
    obtain ⟨_, u0, u1⟩ := BX.out.lo l1
    clear l1 D1 WT
    go_wp2_with fail
    refine W1.out.mono ?_
    rintro e w2 ⟨g, rfl, hg0, hg1, hc, hfz, l2⟩
    have HR := Lib.hid (row_of_cells (c := n) hg1 hc)
    have L2 := Lib.hid (lo_on L1.out l2)
    clear hc hfz l2 W1 u0 u1
    go_wp2
    go_ret2
    exact ⟨_, rfl, by rw [HWL.out]; exact HR.out, L2.out⟩
end Go.Proofs.Ytnadchgekfljkaa
