/- Mob2, RodP, as one text. -/
import Derived.Test.YthncgcdnljoakaaG10
import Derived.StillTailTactics
import Derived.Test.YthncgcdnljoakaaG7
namespace Go.Proofs.Ythncgcdnljoakaa
open Go.RowKit
theorem wrap_mid (x : Int) (h : -1000000000 ≤ x) (k : x ≤ 1000000000) : IntKind.i64.wrap x = x := by rw [IntKind.wrap_i64]; omega
theorem l5At_any (h : Int) (g n c : Nat) (f : Nat → Int) (w : World) (h0 : -100 ≤ h) (h1 : h ≤ 100) (hn : n ≤ 6) (hc : h < 0 → (-h).toNat < n ∧ w.cell? ⟨g, (-h).toNat, none⟩ = some (.int .i64 (f (-h).toNat))) :
    Calls Try.prog 177 #[.int .i64 h, .slice (some ⟨g, 0, none⟩) n c] w fun e w' => e = .returned (.int .i64 (atM h f)) ∧ w' = w := by
  by_cases hneg : h < 0
  · obtain ⟨hq, hcell⟩ := hc hneg
    have hat : atM h f = f (-h).toNat := by unfold atM; rw [if_pos hneg]
    rw [hat]
    obtain ⟨q, hqq⟩ : ∃ q, (-h).toNat = q := ⟨_, rfl⟩
    rw [hqq] at hq hcell ⊢
    have hh : h = -(q : Int) := by omega
    subst hh
    have hq' : (q : Int) < (n : Int) := by omega
    have hq6 : (q : Int) ≤ 6 := by omega
    generalize f q = x at *
    clear hat hqq hc
    go_enter Try.func177, Try.ntmps177
    go_wp2
    go_ret
    exact ⟨rfl, rfl⟩
  · have hat : atM h f = h := by unfold atM; rw [if_neg hneg]
    rw [hat]
    clear hat hc
    go_enter Try.func177, Try.ntmps177
    go_wp2
    go_ret
    exact ⟨rfl, rfl⟩
theorem atM_bnd (h : Int) (f : Nat → Int) (B : Int) (hB : 99 ≤ B) (h1 : h ≤ 99) (hf : ∀ j, 0 ≤ f j ∧ f j ≤ B) : 0 ≤ atM h f ∧ atM h f ≤ B := by
  unfold atM
  split
  · exact hf _
  · omega
theorem wsM_bnd {m : MobV} (hf : MobF m) : ∀ k, k ≤ m.am.length → ∀ j, 0 ≤ wsM m k j ∧ wsM m k j ≤ 99 * 2 ^ k := by
  intro k
  induction k with
  | zero => intro _ j; simp [wsM]
  | succ k ih =>
    intro hk j
    have ih := ih (by omega)
    have hp : (1 : Int) ≤ 2 ^ k := by
      have : (0 : Int) < 2 ^ k := Int.pow_pos (by decide)
      omega
    have h99 : ∀ t, t < 2 * m.am.length → hvM m t ≤ 99 := fun t ht => by have := (hf.ends t ht).2; omega
    simp only [wsM]
    split
    · have a := atM_bnd (hvM m (2 * (m.am.length - 1 - k))) (wsM m k) (99 * 2 ^ k) (by omega) (h99 _ (by omega)) ih
      have b := atM_bnd (hvM m (2 * (m.am.length - 1 - k) + 1)) (wsM m k) (99 * 2 ^ k) (by omega) (h99 _ (by omega)) ih
      rw [Int.pow_succ]
      omega
    · have := ih j
      rw [Int.pow_succ]
      omega
theorem wsM_small {m : MobV} (hf : MobF m) (k : Nat) (hk : k ≤ m.am.length) (j : Nat) : 0 ≤ wsM m k j ∧ wsM m k j ≤ 6336 := by
  have h := wsM_bnd hf k hk j
  have h6 := hf.short
  have hp : (2 : Int) ^ k ≤ 2 ^ 6 := by
    have := Nat.pow_le_pow_right (show 0 < 2 by decide) (show k ≤ 6 by omega)
    exact_mod_cast this
  omega
set_option maxRecDepth 100000 in
set_option maxHeartbeats 3200000 in
theorem l5Weights_any (v : Value) (m : MobV) (w : World) (hv : MobRow w v m) (hf : MobF m) :
    Calls Try.prog 176 #[v] w fun e w' => ∃ g, e = .returned (.slice (some ⟨g, 0, none⟩) m.am.length m.am.length) ∧ w.heap.size ≤ g ∧ g < w'.heap.size ∧ (∀ j, j < m.am.length → w'.cell? ⟨g, j, none⟩ = some (.int .i64 (wtM m j))) ∧ (∀ j, w'.frozen? ⟨g, j, none⟩ = false) ∧ Below w.heap.size w w' := by
  have h1 := hf.one
  have h6 := hf.short
  have hs := hf.same
  obtain ⟨av, bv, rfl, ha, hh⟩ := hv
  obtain ⟨g, off, c, rfl, hg, hca⟩ := pair_at ha (by omega)
  obtain ⟨g', off', c', rfl, hg', hch⟩ := pair_at hh (by omega)
  obtain ⟨n, hn⟩ : ∃ n, m.am.length = n := ⟨_, rfl⟩
  have EC := Lib.hid (fun i e (h1 : i < n) (h2 : e < 2) => end_cells hn (hs.trans hn) hca hch i e h1 h2)
  have HEN := Lib.hid (fun t (ht : t < 2 * n) => show (1 ≤ hvM m t ∧ hvM m t ≤ 99) ∨ (hvM m t < 0 ∧ ((t / 2 : Nat) : Int) + 1 ≤ -hvM m t ∧ -hvM m t ≤ (n : Int) - 1) by have := (hf.ends t (by omega)).2; rw [hn] at this; exact this)
  have HSM := Lib.hid (fun k (hk : k ≤ n) j => wsM_small hf k (by omega) j)
  have HWS := Lib.hid (fun k j => show wsM m (k + 1) j = if j = n - 1 - k then atM (hvM m (2 * (n - 1 - k))) (wsM m k) + atM (hvM m (2 * (n - 1 - k) + 1)) (wsM m k) else wsM m k j by rw [wsM, hn])
  have HWT := Lib.hid (show wtM m = wsM m n by unfold wtM; rw [hn])
  obtain ⟨W, hW⟩ : ∃ W, w.alloc (.cells #[.slice (some ⟨g, off, none⟩) n c, .slice (some ⟨g', off', none⟩) n c'] 62) = W := ⟨_, rfl⟩
  have LW := Lib.hid (show Below w.heap.size w W by rw [← hW]; exact (Below.refl _ _).alloc (Nat.le_refl _) _)
  have BX := Lib.hid (show Box2 W w.heap.size (.slice (some ⟨g, off, none⟩) n c) (.slice (some ⟨g', off', none⟩) n c') by rw [← hW]; exact box2_new _ _ _ _)
  rw [hs, hn]
  rw [hn] at h1 h6
  have HM := make_ints n (by omega)
  obtain ⟨W1, hW1⟩ : ∃ X, W.alloc (.cells (madeCells #[.int .i64 0] n) 3) = X := ⟨_, rfl⟩
  have CZ := Lib.hid (show ∀ j, j < n → W1.cell? ⟨W.heap.size, j, none⟩ = some (.int .i64 (wsM m 0 j)) from fun j hj => by rw [← hW1, World.cell?_alloc_at _ _ _ _ rfl]; exact made_int _ _ hj)
  have FZ := Lib.hid (show ∀ j, W1.frozen? ⟨W.heap.size, j, none⟩ = false from fun j => by rw [← hW1]; exact World.frozen?_alloc_at _ _ _ _ rfl)
  have SZ := Lib.hid (show W.heap.size < W1.heap.size by rw [← hW1]; simp)
  have L1 := Lib.hid (show Below W.heap.size W W1 by rw [← hW1]; exact (Below.refl _ _).alloc (Nat.le_refl _) _)
  clear ha hh hca hch hs hn hf
  obtain ⟨bx, u0, u1⟩ := BX.out
  have h1' : (1 : Int) ≤ (n : Int) := by omega
  go_enter Try.func176, Try.ntmps176
  go_wp2
  clear hW hW1 u0 u1
  go_loopw [4] (fun x wr => ∃ k : Nat, k ≤ n ∧ x = .int .i64 ((n : Int) - 1 - k) ∧ Hid (∀ j, j < n → wr.cell? ⟨W.heap.size, j, none⟩ = some (.int .i64 (wsM m k j))) ∧ Hid (∀ j, wr.frozen? ⟨W.heap.size, j, none⟩ = false) ∧ Hid (Below W.heap.size W wr) ∧ Hid (W.heap.size < wr.heap.size)) (fun x _ => (intOf x + 1).toNat)
  case atStart => exact ⟨0, Nat.zero_le _, by simp, CZ, FZ, L1, SZ⟩
  case round =>
    obtain ⟨k, hk, rfl, HC, HF, HL, HS⟩ := hrel
    obtain ⟨wx, rfl⟩ : ∃ wx : World, wx = wr := ⟨_, rfl⟩
    clear CZ FZ L1 SZ
    by_cases hlt : k < n
    · obtain ⟨i, hi⟩ : ∃ i : Nat, (n : Int) - 1 - k = (i : Int) := ⟨n - 1 - k, by omega⟩
      rw [hi]
      have HI := Lib.hid hi
      have hin : i < n := by omega
      have hin' : (i : Int) < (n : Int) := by omega
      have hi0 : (0 : Int) ≤ (i : Int) := by omega
      obtain ⟨_, u0, u1⟩ := BX.out.lo HL.out
      have LX := LW.out.trans (HL.out.mono LW.out.size)
      have e1 := (EC.out i 0 hin (by omega)).2
      have e2 := (EC.out i 1 hin (by omega)).2
      rw [← LX.cell (p := ⟨g', off' + i * 2 + 0, none⟩) hg'] at e1
      rw [← LX.cell (p := ⟨g', off' + i * 2 + 1, none⟩) hg'] at e2
      simp only [Nat.add_zero] at e1
      have n1 := HEN.out (2 * i) (by omega)
      have n2 := HEN.out (2 * i + 1) (by omega)
      rw [show 2 * i / 2 = i by omega] at n1
      rw [show (2 * i + 1) / 2 = i by omega] at n2
      have HWK := Lib.hid (fun j => HWS.out k j)
      rw [show n - 1 - k = i by omega] at HWK
      have hb := HSM.out k hk
      obtain ⟨f, hfk⟩ : ∃ f, wsM m k = f := ⟨_, rfl⟩
      rw [hfk] at HC hb HWK
      obtain ⟨p, hp⟩ : ∃ p, hvM m (2 * i) = p := ⟨_, rfl⟩
      obtain ⟨q, hq⟩ : ∃ q, hvM m (2 * i + 1) = q := ⟨_, rfl⟩
      rw [hp] at e1 n1 HWK
      rw [hq] at e2 n2 HWK
      have A1 := Lib.hid (l5At_any p W.heap.size n n f wx.drew (by omega) (by omega) h6 (fun h => ⟨by omega, HC.out _ (by omega)⟩))
      have A2 := Lib.hid (l5At_any q W.heap.size n n f wx.drew (by omega) (by omega) h6 (fun h => ⟨by omega, HC.out _ (by omega)⟩))
      have b1 := atM_bnd p f 6336 (by omega) (by omega) hb
      have b2 := atM_bnd q f 6336 (by omega) (by omega) hb
      have ci := HC.out i hin
      have fi := HF.out i
      have OS := Lib.hid (fun u => one_set wx W.heap.size i u ci)
      generalize atM p f = a at *
      generalize atM q f = b at *
      have HW1 := Lib.hid (wrap_mid (a + b) (by omega) (by omega))
      clear LX hfk hp hq n1 n2 hb hi
      go_wp2
      have hw := HW1.out
      refine wp_region_still_tail 20 (by kernel_rfl) (by kernel_rfl) ?_
      simp only [List.take_succ_cons, List.take_zero, List.drop_succ_cons, List.drop_zero]
      change wpStill _ _ wx.drew _ _ _
      repeat still_step
      still_call A1.out
      repeat still_step
      still_call A2.out
      repeat still_step
      refine wpStill_nil ?_
      change wpList _ _ _ _ _ wx.drew
      have HLD := Lib.hid (lo_on HL.out (drew_below wx))
      have HCD := Lib.hid (show ∀ j, j < n → wx.drew.cell? ⟨W.heap.size, j, none⟩ = some (.int .i64 (f j)) from HC.out)
      have HFD := Lib.hid (show ∀ j, wx.drew.frozen? ⟨W.heap.size, j, none⟩ = false from HF.out)
      have HSD := Lib.hid (show W.heap.size < wx.drew.heap.size from HS.out)
      have OSD := Lib.hid (one_set wx.drew W.heap.size i (.int .i64 (a + b)) ci)
      have cd : wx.drew.cell? ⟨W.heap.size, i, none⟩ = _ := ci
      have fd : wx.drew.frozen? ⟨W.heap.size, i, none⟩ = false := fi
      clear A1 A2 OS ci fi e1 e2 u0 u1 HC HF HL HS
      generalize wx.drew = wd at *
      go_wp2
      go_roundw
      case rel =>
        refine ⟨k + 1, by omega, by exact congrArg (Value.int .i64) (by have := HI.out; omega), Lib.hid (fun j hj => ?_), Lib.hid (fun j => by rw [World.frozen?_setCell]; exact HFD.out j), Lib.hid (HLD.out.setCell (p := ⟨W.heap.size, i, none⟩) (Nat.le_refl _) _), Lib.hid (by have := HSD.out; simpa using this)⟩
        rw [HWK.out j]
        by_cases e : j = i
        · rw [if_pos e, e]; exact OSD.out.1
        · rw [if_neg e, OSD.out.2 j e]; exact HCD.out j hj
      case measure => have := HI.out; simp only [intOf]; omega
    · obtain rfl : k = n := by omega
      have hneg : (k : Int) - 1 - k = -1 := by omega
      rw [hneg]
      have LF := Lib.hid (LW.out.trans (HL.out.mono LW.out.size))
      have hsz := LW.out.size
      go_wp2
      go_ret
      exact ⟨_, rfl, hsz, HS.out, by rw [HWT.out]; exact HC.out, HF.out, LF.out⟩
noncomputable def rodsL (m : MobV) (l : List Int) : List Int := if goodB m = true then l else []
theorem rodsL_yes {m : MobV} (h : goodB m = true) (l : List Int) : rodsL m l = l := by unfold rodsL; rw [if_pos h]
theorem rodsL_no {m : MobV} (h : goodB m = false) (l : List Int) : rodsL m l = [] := by unfold rodsL; rw [if_neg (by rw [h]; simp)]
theorem rodsL_small (m : MobV) (l : List Int) (h : goodB m = true → l.length ≤ 2000000) : (rodsL m l).length ≤ 2000000 := by
  unfold rodsL
  split
  · exact h (by assumption)
  · simp
theorem row_of_cells {w : World} {g n c : Nat} {f : Nat → Int} (hg : g < w.heap.size) (h : ∀ j, j < n → w.cell? ⟨g, j, none⟩ = some (.int .i64 (f j))) : IntRow w (.slice (some ⟨g, 0, none⟩) n c) ((List.range n).map f) := by
  refine ⟨_, c, by rw [List.length_map, List.length_range], .inr ⟨g, 0, rfl, hg, fun j hj => ?_⟩⟩
  rw [List.length_map, List.length_range] at hj
  rw [Nat.zero_add, h j hj]
  simp [List.getD, hj]
end Go.Proofs.Ythncgcdnljoakaa
namespace Go.Proofs.Ythncgcdnljoakaa
open Go.RowKit
theorem wsM_step (m : MobV) (k j : Nat) : wsM m (k + 1) j = if j = m.am.length - 1 - k then atM (hvM m (2 * (m.am.length - 1 - k))) (wsM m k) + atM (hvM m (2 * (m.am.length - 1 - k) + 1)) (wsM m k) else wsM m k j := rfl
theorem wsM_keep (m : MobV) (k j : Nat) (hj : m.am.length ≤ j + k) : ∀ d, k + d ≤ m.am.length → wsM m (k + d) j = wsM m k j := by
  intro d
  induction d with
  | zero => intro _; rfl
  | succ d ih =>
    intro hd
    rw [show k + (d + 1) = (k + d) + 1 by omega, wsM_step, if_neg (by omega)]
    exact ih (by omega)
theorem wsM_wt (m : MobV) (k j : Nat) (hj : m.am.length ≤ j + k) (hk : k ≤ m.am.length) : wsM m k j = wtM m j := by
  unfold wtM
  have := wsM_keep m k j hj (m.am.length - k) (by omega)
  rw [show k + (m.am.length - k) = m.am.length by omega] at this
  exact this.symm
theorem wtM_eq {m : MobV} (hf : MobF m) (i : Nat) (hi : i < m.am.length) : wtM m i = atM (hvM m (2 * i)) (wtM m) + atM (hvM m (2 * i + 1)) (wtM m) := by
  have at_eq : ∀ t, t < 2 * m.am.length → t / 2 = i → atM (hvM m t) (wsM m (m.am.length - 1 - i)) = atM (hvM m t) (wtM m) := by
    intro t ht hti
    unfold atM
    by_cases h : hvM m t < 0
    · rw [if_pos h, if_pos h]
      have := (hf.ends t ht).2
      exact wsM_wt m _ _ (by omega) (by omega)
    · rw [if_neg h, if_neg h]
  rw [← wsM_wt m (m.am.length - 1 - i + 1) i (by omega) (by omega), wsM_step, if_pos (by omega), show m.am.length - 1 - (m.am.length - 1 - i) = i by omega, at_eq _ (by omega) (by omega), at_eq _ (by omega) (by omega)]
/-- What rods hold, end by end: arms, leaves (0 where a rod hangs), and the rods that hang there (0: none). -/
structure RodF where
  ar : Nat → Int
  le : Nat → Int
  be : Nat → Nat
def rodF (m : MobV) : RodF := ⟨avM m, fun t => if 0 < hvM m t then hvM m t else 0, fun t => (-hvM m t).toNat⟩
def ptrR (b : Nat → Nat) (k : Nat) : Value := .pointer (if k = 0 then none else some ⟨b k, 0, none⟩)
theorem ptrR_none (b : Nat → Nat) {k : Nat} (h : k = 0) : ptrR b k = .pointer none := by unfold ptrR; rw [if_pos h]
theorem ptrR_some (b : Nat → Nat) {k : Nat} (h : k ≠ 0) : ptrR b k = .pointer (some ⟨b k, 0, none⟩) := by unfold ptrR; rw [if_neg h]
/-- Block g is a rod; its arms, leaves and rods by ends. -/
structure RodAt (w : World) (b : Nat → Nat) (g : Nat) (nu : Int) (a l : Nat → Int) (r : Nat → Nat) : Prop where
  num : w.cell? ⟨g, 0, none⟩ = some (.int .i64 nu)
  arm : ∀ e, e < 2 → w.cell? ⟨g, 1 + e, none⟩ = some (.int .i64 (a e))
  leaf : ∀ e, e < 2 → w.cell? ⟨g, 3 + e, none⟩ = some (.int .i64 (l e))
  below : ∀ e, e < 2 → w.cell? ⟨g, 5 + e, none⟩ = some (ptrR b (r e))
  fz : ∀ j, w.frozen? ⟨g, j, none⟩ = false
  lt : g < w.heap.size
theorem RodAt.keep {w w' : World} {b : Nat → Nat} {g : Nat} {nu : Int} {a l : Nat → Int} {r : Nat → Nat} (h : RodAt w b g nu a l r) (hs : w.heap.size ≤ w'.heap.size) (hc : w'.heap[g]? = w.heap[g]?) : RodAt w' b g nu a l r := by
  have e : ∀ j, w'.cell? ⟨g, j, none⟩ = w.cell? ⟨g, j, none⟩ := fun j => World.cell?_of_block hc
  have f : ∀ j, w'.frozen? ⟨g, j, none⟩ = w.frozen? ⟨g, j, none⟩ := fun j => World.frozen?_of_block hc
  exact ⟨(e 0).trans h.num, fun j hj => (e _).trans (h.arm j hj), fun j hj => (e _).trans (h.leaf j hj), fun j hj => (e _).trans (h.below j hj), fun j => (f j).trans (h.fz j), Nat.lt_of_lt_of_le h.lt hs⟩
theorem RodAt.congr {w : World} {b b' : Nat → Nat} {g : Nat} {nu : Int} {a l a' l' : Nat → Int} {r r' : Nat → Nat} (h : RodAt w b g nu a l r) (ha : ∀ e, e < 2 → a e = a' e) (hl : ∀ e, e < 2 → l e = l' e) (hr : ∀ e, e < 2 → ptrR b (r e) = ptrR b' (r' e)) : RodAt w b' g nu a' l' r' :=
  ⟨h.num, fun e he => by rw [← ha e he]; exact h.arm e he, fun e he => by rw [← hl e he]; exact h.leaf e he, fun e he => by rw [← hr e he]; exact h.below e he, h.fz, h.lt⟩
/-- A cell of a rod is set. -/
theorem cell_set (w : World) (g o : Nat) (u : Value) {x : Value} (h1 : w.cell? ⟨g, o, none⟩ = some x) : (w.setCell ⟨g, o, none⟩ u).cell? ⟨g, o, none⟩ = some u := World.cell?_setCell_same' _ _ _ (by rw [h1]; rfl)
theorem cell_keep (w : World) (g o : Nat) (u : Value) (j : Nat) (h : j ≠ o) : (w.setCell ⟨g, o, none⟩ u).cell? ⟨g, j, none⟩ = w.cell? ⟨g, j, none⟩ :=
  World.cell?_setCell_other _ _ _ _ (fun hh => h (congrArg Addr.off hh).symm)
theorem RodAt.set_leaf {w : World} {b : Nat → Nat} {g : Nat} {nu : Int} {a l : Nat → Int} {r : Nat → Nat} (h : RodAt w b g nu a l r) (e : Nat) (he : e < 2) (x : Int) : RodAt (w.setCell ⟨g, 3 + e, none⟩ (.int .i64 x)) b g nu a (fun j => if j = e then x else l j) r where
  num := by rw [cell_keep _ _ _ _ _ (by omega)]; exact h.num
  arm := fun j hj => by rw [cell_keep _ _ _ _ _ (by omega)]; exact h.arm j hj
  leaf := fun j hj => by
    by_cases hje : j = e
    · subst hje; rw [if_pos rfl]; exact cell_set _ _ _ _ (h.leaf j hj)
    · rw [if_neg hje, cell_keep _ _ _ _ _ (by omega)]; exact h.leaf j hj
  below := fun j hj => by rw [cell_keep _ _ _ _ _ (by omega)]; exact h.below j hj
  fz := fun j => by rw [World.frozen?_setCell]; exact h.fz j
  lt := by simpa using h.lt
theorem RodAt.set_arm {w : World} {b : Nat → Nat} {g : Nat} {nu : Int} {a l : Nat → Int} {r : Nat → Nat} (h : RodAt w b g nu a l r) (e : Nat) (he : e < 2) (x : Int) : RodAt (w.setCell ⟨g, 1 + e, none⟩ (.int .i64 x)) b g nu (fun j => if j = e then x else a j) l r where
  num := by rw [cell_keep _ _ _ _ _ (by omega)]; exact h.num
  leaf := fun j hj => by rw [cell_keep _ _ _ _ _ (by omega)]; exact h.leaf j hj
  arm := fun j hj => by
    by_cases hje : j = e
    · subst hje; rw [if_pos rfl]; exact cell_set _ _ _ _ (h.arm j hj)
    · rw [if_neg hje, cell_keep _ _ _ _ _ (by omega)]; exact h.arm j hj
  below := fun j hj => by rw [cell_keep _ _ _ _ _ (by omega)]; exact h.below j hj
  fz := fun j => by rw [World.frozen?_setCell]; exact h.fz j
  lt := by simpa using h.lt
theorem RodAt.set_below {w : World} {b : Nat → Nat} {g : Nat} {nu : Int} {a l : Nat → Int} {r : Nat → Nat} (h : RodAt w b g nu a l r) (e : Nat) (he : e < 2) (x : Nat) : RodAt (w.setCell ⟨g, 5 + e, none⟩ (ptrR b x)) b g nu a l (fun j => if j = e then x else r j) where
  num := by rw [cell_keep _ _ _ _ _ (by omega)]; exact h.num
  arm := fun j hj => by rw [cell_keep _ _ _ _ _ (by omega)]; exact h.arm j hj
  leaf := fun j hj => by rw [cell_keep _ _ _ _ _ (by omega)]; exact h.leaf j hj
  below := fun j hj => by
    by_cases hje : j = e
    · subst hje; rw [if_pos rfl]; exact cell_set _ _ _ _ (h.below j hj)
    · rw [if_neg hje, cell_keep _ _ _ _ _ (by omega)]; exact h.below j hj
  fz := fun j => by rw [World.frozen?_setCell]; exact h.fz j
  lt := by simpa using h.lt
theorem RodAt.set_num {w : World} {b : Nat → Nat} {g : Nat} {nu : Int} {a l : Nat → Int} {r : Nat → Nat} (h : RodAt w b g nu a l r) (x : Int) : RodAt (w.setCell ⟨g, 0, none⟩ (.int .i64 x)) b g x a l r where
  num := cell_set _ _ _ _ h.num
  arm := fun j hj => by rw [cell_keep _ _ _ _ _ (by omega)]; exact h.arm j hj
  leaf := fun j hj => by rw [cell_keep _ _ _ _ _ (by omega)]; exact h.leaf j hj
  below := fun j hj => by rw [cell_keep _ _ _ _ _ (by omega)]; exact h.below j hj
  fz := fun j => by rw [World.frozen?_setCell]; exact h.fz j
  lt := by simpa using h.lt
/-- Rods k .. n - 1, each in its own block from B on. -/
structure RodsIn (w : World) (B k n : Nat) (b : Nat → Nat) (nu : Nat → Int) (S : RodF) : Prop where
  rod : ∀ i, k ≤ i → i < n → RodAt w b (b i) (nu i) (fun e => S.ar (2 * i + e)) (fun e => S.le (2 * i + e)) (fun e => S.be (2 * i + e))
  far : ∀ i, k ≤ i → i < n → B ≤ b i
  apart : ∀ i j, k ≤ i → i < n → k ≤ j → j < n → b i = b j → i = j
theorem RodsIn.keep {w w' : World} {B k n : Nat} {b : Nat → Nat} {nu : Nat → Int} {S : RodF} (h : RodsIn w B k n b nu S) (hs : w.heap.size ≤ w'.heap.size) (hc : ∀ i, k ≤ i → i < n → w'.heap[b i]? = w.heap[b i]?) : RodsIn w' B k n b nu S :=
  ⟨fun i h1 h2 => (h.rod i h1 h2).keep hs (hc i h1 h2), h.far, h.apart⟩
theorem RodsIn.lo {w w' : World} {B k n : Nat} {b : Nat → Nat} {nu : Nat → Int} {S : RodF} (h : RodsIn w B k n b nu S) (l : Below w.heap.size w w') : RodsIn w' B k n b nu S :=
  h.keep l.size (fun i h1 h2 => l.block _ (h.rod i h1 h2).lt)
/-- Another block is set. -/
theorem RodsIn.set {w : World} {B k n : Nat} {b : Nat → Nat} {nu : Nat → Int} {S : RodF} (h : RodsIn w B k n b nu S) (g o : Nat) (u : Value) (hg : ∀ i, k ≤ i → i < n → b i ≠ g) : RodsIn (w.setCell ⟨g, o, none⟩ u) B k n b nu S :=
  h.keep (by simp) (fun i h1 h2 => Below.heap_setCell _ _ _ _ (hg i h1 h2))
/-- One more rod in front. -/
theorem RodsIn.more {w : World} {B k n : Nat} {b b' : Nat → Nat} {nu : Nat → Int} {S : RodF} (h : RodsIn w B (k + 1) n b nu S) (hb : ∀ j, k < j → j < n → b' j = b j) (hn : ∀ j, k < j → j < n → b j ≠ b' k) (hB : B ≤ b' k)
    (hd : ∀ i e, k ≤ i → i < n → e < 2 → S.be (2 * i + e) = 0 ∨ (k < S.be (2 * i + e) ∧ S.be (2 * i + e) < n))
    (hr : RodAt w b' (b' k) (nu k) (fun e => S.ar (2 * k + e)) (fun e => S.le (2 * k + e)) (fun e => S.be (2 * k + e))) : RodsIn w B k n b' nu S where
  rod := fun i h1 h2 => by
    by_cases e : i = k
    · subst e; exact hr
    · rw [hb i (by omega) h2]
      refine (h.rod i (by omega) h2).congr (fun _ _ => rfl) (fun _ _ => rfl) (fun e he => ?_)
      rcases hd i e h1 h2 he with h0 | ⟨h0, h3⟩
      · rw [ptrR_none _ h0, ptrR_none _ h0]
      · rw [ptrR_some _ (by omega), ptrR_some _ (by omega), hb _ h0 h3]
  far := fun i h1 h2 => by
    by_cases e : i = k
    · subst e; exact hB
    · rw [hb i (by omega) h2]; exact h.far i (by omega) h2
  apart := fun i j h1 h2 h3 h4 e => by
    by_cases ei : i = k
    · by_cases ej : j = k
      · rw [ei, ej]
      · subst ei; rw [hb j (by omega) h4] at e; exact absurd e.symm (hn j (by omega) h4)
    · by_cases ej : j = k
      · subst ej; rw [hb i (by omega) h2] at e; exact absurd e (hn i (by omega) h2)
      · rw [hb i (by omega) h2, hb j (by omega) h4] at e; exact h.apart i j (by omega) h2 (by omega) h4 e
/-- A row of pointers to rods, in a block of its own. -/
structure RodRow (w : World) (B g n : Nat) (b : Nat → Nat) : Prop where
  at_ : ∀ i, i < n → w.cell? ⟨g, i, none⟩ = some (.pointer (some ⟨b i, 0, none⟩))
  fz : ∀ j, w.frozen? ⟨g, j, none⟩ = false
  lt : g < w.heap.size
  far : B ≤ g
  apart : ∀ i, i < n → b i ≠ g
theorem RodRow.keep {w w' : World} {B g n : Nat} {b : Nat → Nat} (h : RodRow w B g n b) (hs : w.heap.size ≤ w'.heap.size) (hc : w'.heap[g]? = w.heap[g]?) : RodRow w' B g n b :=
  ⟨fun i hi => (World.cell?_of_block hc).trans (h.at_ i hi), fun j => (World.frozen?_of_block hc).trans (h.fz j), Nat.lt_of_lt_of_le h.lt hs, h.far, h.apart⟩
theorem RodRow.lo {w w' : World} {B g n : Nat} {b : Nat → Nat} (h : RodRow w B g n b) (l : Below w.heap.size w w') : RodRow w' B g n b :=
  h.keep l.size (l.block _ h.lt)
/-- A function on rods that is their weight. -/
def atR (S : RodF) (W : Nat → Int) (t : Nat) : Int := if S.be t = 0 then S.le t else W (S.be t)
structure WtR (n : Nat) (S : RodF) (W : Nat → Int) : Prop where
  down : ∀ t, t < 2 * n → S.be t ≠ 0 → t / 2 < S.be t ∧ S.be t < n
  eq : ∀ i, i < n → W i = atR S W (2 * i) + atR S W (2 * i + 1)
  small : ∀ i, i < n → 0 ≤ W i ∧ W i ≤ 6336
  leaf : ∀ t, t < 2 * n → 0 ≤ S.le t ∧ S.le t ≤ 6336
theorem WtR.at_bnd {n : Nat} {S : RodF} {W : Nat → Int} (h : WtR n S W) (t : Nat) (ht : t < 2 * n) : 0 ≤ atR S W t ∧ atR S W t ≤ 6336 := by
  unfold atR
  split
  · exact h.leaf t ht
  · rename_i hne; exact h.small _ (h.down t ht hne).2
theorem atR_rodF {m : MobV} (hf : MobF m) (t : Nat) (ht : t < 2 * m.am.length) : atR (rodF m) (wtM m) t = atM (hvM m t) (wtM m) := by
  have := (hf.ends t ht).2
  unfold atR rodF atM
  simp only
  by_cases h : hvM m t < 0
  · rw [if_neg (by omega), if_pos h]
  · rw [if_pos (by omega), if_neg h, if_pos (by omega)]
theorem wtR_rodF {m : MobV} (hf : MobF m) : WtR m.am.length (rodF m) (wtM m) where
  down := fun t ht h => by
    have := (hf.ends t ht).2
    simp only [rodF] at h ⊢
    omega
  eq := fun i hi => by rw [atR_rodF hf _ (by omega), atR_rodF hf _ (by omega)]; exact wtM_eq hf i hi
  small := fun i _ => wsM_small hf _ (Nat.le_refl _) i
  leaf := fun t ht => by
    have := (hf.ends t ht).2
    simp only [rodF]
    split <;> omega
end Go.Proofs.Ythncgcdnljoakaa
