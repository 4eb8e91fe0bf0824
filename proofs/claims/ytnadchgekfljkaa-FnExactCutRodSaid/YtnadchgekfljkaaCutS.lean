/- The contract of the model's CutRod. -/
import Derived.Test.YtnadchgekfljkaaCut
import Derived.Test.YtnadchgekfljkaaHangP
import Derived.Test.YtnadchgekfljkaaMob5
import Derived.Test.YtnadchgekfljkaaHangS
namespace Go.Proofs.Ytnadchgekfljkaa
section
open Go.RowKit
/-- What is in a tree of rods is its root or hangs below another one in it. -/
theorem preR_up (S : RodF) (j : Nat) : ∀ k i, j ∈ preR S k i → j = i ∨ (j ≠ 0 ∧ ∃ t, S.be t = j ∧ t / 2 ∈ preR S k i) := by
  intro k
  induction k with
  | zero => intro i h; exact absurd h (by rw [preR]; exact List.not_mem_nil)
  | succ k ih =>
    intro i h
    have side : ∀ t, t / 2 = i → S.be t ≠ 0 → j ∈ preR S k (S.be t) → (∀ x, x ∈ preR S k (S.be t) → x ∈ preR S (k + 1) i) → j = i ∨ (j ≠ 0 ∧ ∃ t, S.be t = j ∧ t / 2 ∈ preR S (k + 1) i) := fun t ht h0 hj hs => by
      rcases ih _ hj with e | ⟨e0, u, eu, hu⟩
      · exact .inr ⟨by rw [e]; exact h0, t, e.symm, by rw [ht]; exact (preR_mem S k i i).2 (.inl rfl)⟩
      · exact .inr ⟨e0, u, eu, hs _ hu⟩
    rcases (preR_mem S k i j).1 h with e | ⟨e, he, h0, hj⟩
    · exact .inl e
    · exact side (2 * i + e) (by omega) h0 hj (fun x hx => (preR_mem S k i x).2 (.inr ⟨e, he, h0, hx⟩))
/-- Rod j is the first one, or hangs at one of the first T ends at a rod that stays. -/
def markR (n : Nat) (S : RodF) (T j : Nat) : Prop := j = 0 ∨ (j ≠ 0 ∧ ∃ t, t < T ∧ S.be t = j ∧ t / 2 ∈ preR S n 0)
theorem kept_mark {n : Nat} {S : RodF} (hT : TreeR n S) (h1 : 1 ≤ n) (i : Nat) (hi : i < n) : i ∈ preR S n 0 ↔ markR n S (2 * i) i := by
  constructor
  · intro h
    rcases preR_up S i n 0 h with e | ⟨e0, t, et, ht⟩
    · exact .inl e
    · refine .inr ⟨e0, t, ?_, et, ht⟩
      have htn : t / 2 < n := (preR_ge hT n 0 _ (by omega) ht).2
      have := (hT.down t (by omega) (by omega)).1
      omega
  · rintro (e | ⟨e0, t, ht, et, hp⟩)
    · subst e
      obtain ⟨k, rfl⟩ : ∃ k, n = k + 1 := ⟨n - 1, by omega⟩
      exact (preR_mem S k 0 0).2 (.inl rfl)
    · have htn : t / 2 < n := (preR_ge hT n 0 _ (by omega) hp).2
      have := preR_down hT n 0 t (by omega) (by omega) (by omega) (by omega) hp
      rwa [et] at this
theorem mark_more {n : Nat} {S : RodF} (T j : Nat) : markR n S (T + 1) j ↔ markR n S T j ∨ (j ≠ 0 ∧ S.be T = j ∧ T / 2 ∈ preR S n 0) := by
  unfold markR
  constructor
  · rintro (e | ⟨e0, t, ht, et, hp⟩)
    · exact .inl (.inl e)
    · by_cases h : t = T
      · subst h; exact .inr ⟨e0, et, hp⟩
      · exact .inl (.inr ⟨e0, t, by omega, et, hp⟩)
  · rintro ((e | ⟨e0, t, ht, et, hp⟩) | ⟨e0, et, hp⟩)
    · exact .inl e
    · exact .inr ⟨e0, t, by omega, et, hp⟩
    · exact .inr ⟨e0, T, by omega, et, hp⟩
/-- The rods before rod i that stay. -/
def kpT (n : Nat) (S : RodF) (i : Nat) : List Nat := (List.range i).filter (fun j => decide (j ∈ preR S n 0))
theorem kp_yes {n : Nat} {S : RodF} {i : Nat} (h : i ∈ preR S n 0) : kpT n S (i + 1) = kpT n S i ++ [i] := by unfold kpT; rw [List.range_succ, List.filter_append]; simp [h]
theorem kp_no {n : Nat} {S : RodF} {i : Nat} (h : ¬ i ∈ preR S n 0) : kpT n S (i + 1) = kpT n S i := by unfold kpT; rw [List.range_succ, List.filter_append]; simp [h]
theorem kp_more (n : Nat) (S : RodF) (T : Nat) : ∀ d, ∃ r, kpT n S (T + d) = kpT n S T ++ r := by
  intro d
  induction d with
  | zero => exact ⟨[], by simp⟩
  | succ d ih =>
    obtain ⟨r, hr⟩ := ih
    by_cases h : T + d ∈ preR S n 0
    · exact ⟨r ++ [T + d], by rw [← Nat.add_assoc, kp_yes h, hr, List.append_assoc]⟩
    · exact ⟨r, by rw [← Nat.add_assoc, kp_no h, hr]⟩
theorem kp_idx {n : Nat} {S : RodF} (i : Nat) (hi : i < n) (h : i ∈ preR S n 0) : (keptR n S).idxOf i = (kpT n S i).length := by
  have hk : keptR n S = kpT n S n := rfl
  obtain ⟨r, hr⟩ := kp_more n S (i + 1) (n - (i + 1))
  rw [show i + 1 + (n - (i + 1)) = n by omega, kp_yes h] at hr
  have hl : (kpT n S i).length < (keptR n S).length := by rw [hk, hr]; simp
  have hg : (keptR n S).getD (kpT n S i).length 0 = i := by rw [hk, hr]; simp [List.getD]
  have := pos_at (keptR_rise n S) hl
  rw [hg] at this
  exact this
theorem kp_len (n : Nat) (S : RodF) (i : Nat) : (kpT n S i).length ≤ i := by
  have := List.length_filter_le (fun j => decide (j ∈ preR S n 0)) (List.range i)
  unfold kpT
  simpa using this
open Classical in
/-- The numbers when the rods before rod i are done, and T ends have been looked at. -/
noncomputable def numS (n : Nat) (S : RodF) (i T j : Nat) : Int := if j < i then (if j ∈ preR S n 0 then ((keptR n S).idxOf j : Int) else -1) else (if markR n S T j then 0 else -1)
theorem numS_at {n : Nat} {S : RodF} (hT : TreeR n S) (h1 : 1 ≤ n) (i : Nat) (hi : i < n) : (i ∈ preR S n 0 → numS n S i (2 * i) i = 0) ∧ (¬ i ∈ preR S n 0 → numS n S i (2 * i) i = -1) := by
  have h := kept_mark hT h1 i hi
  unfold numS
  rw [if_neg (by omega)]
  exact ⟨fun k => if_pos (h.1 k), fun k => if_neg (fun q => k (h.2 q))⟩
theorem numS_no {n : Nat} {S : RodF} (hT : TreeR n S) (h1 : 1 ≤ n) (i j : Nat) (hi : i < n) (h : ¬ i ∈ preR S n 0) : numS n S (i + 1) (2 * (i + 1)) j = numS n S i (2 * i) j := by
  have hm : markR n S (2 * (i + 1)) j ↔ markR n S (2 * i) j := by
    rw [show 2 * (i + 1) = 2 * i + 1 + 1 by omega, mark_more, mark_more, show (2 * i) / 2 = i by omega, show (2 * i + 1) / 2 = i by omega]
    exact ⟨fun q => by rcases q with (q | ⟨_, _, q⟩) | ⟨_, _, q⟩ <;> first | exact q | exact absurd q h, fun q => .inl (.inl q)⟩
  unfold numS
  by_cases e : j < i
  · rw [if_pos e, if_pos (by omega)]
  · rw [if_neg e]
    by_cases e2 : j = i
    · subst e2
      rw [if_pos (by omega), if_neg h, if_neg (fun q => h ((kept_mark hT h1 j hi).2 q))]
    · rw [if_neg (by omega)]
      by_cases q : markR n S (2 * i) j
      · rw [if_pos q, if_pos (hm.2 q)]
      · rw [if_neg q, if_neg (fun x => q (hm.1 x))]
theorem numS_own {n : Nat} {S : RodF} (i j : Nat) (hi : i < n) (h : i ∈ preR S n 0) : numS n S (i + 1) (2 * i) j = if j = i then ((kpT n S i).length : Int) else numS n S i (2 * i) j := by
  unfold numS
  by_cases e : j = i
  · subst e; rw [if_pos (by omega), if_pos h, if_pos rfl, kp_idx j hi h]
  · rw [if_neg e]
    by_cases e2 : j < i
    · rw [if_pos e2, if_pos (by omega)]
    · rw [if_neg e2, if_neg (by omega)]
theorem numS_end {n : Nat} {S : RodF} (hT : TreeR n S) (i e j : Nat) (hi : i < n) (he : e < 2) (h : i ∈ preR S n 0) : numS n S (i + 1) (2 * i + (e + 1)) j = if S.be (2 * i + e) ≠ 0 ∧ j = S.be (2 * i + e) then 0 else numS n S (i + 1) (2 * i + e) j := by
  have hd := hT.down (2 * i + e) (by omega)
  rw [show (2 * i + e) / 2 = i by omega] at hd
  unfold numS
  by_cases hc : S.be (2 * i + e) ≠ 0 ∧ j = S.be (2 * i + e)
  · rw [if_pos hc, if_neg (by have := (hd hc.1).1; omega), if_pos]
    rw [← Nat.add_assoc, mark_more]
    exact .inr ⟨by rw [hc.2]; exact hc.1, hc.2.symm, by rw [show (2 * i + e) / 2 = i by omega]; exact h⟩
  · rw [if_neg hc]
    by_cases e2 : j < i + 1
    · rw [if_pos e2, if_pos e2]
    · rw [if_neg e2, if_neg e2]
      have hm : markR n S (2 * i + (e + 1)) j ↔ markR n S (2 * i + e) j := by
        rw [← Nat.add_assoc, mark_more]
        exact ⟨fun q => by rcases q with q | ⟨a, b, _⟩ <;> first | exact q | exact absurd ⟨by rw [b]; exact a, b.symm⟩ hc, .inl⟩
      by_cases q : markR n S (2 * i + e) j
      · rw [if_pos q, if_pos (hm.2 q)]
      · rw [if_neg q, if_neg (fun x => q (hm.1 x))]
theorem numS_all (n : Nat) (S : RodF) (j : Nat) (hj : j < n) : (j ∈ preR S n 0 → numS n S n (2 * n) j = ((keptR n S).idxOf j : Int)) ∧ (¬ j ∈ preR S n 0 → numS n S n (2 * n) j = -1) := by
  unfold numS
  rw [if_pos hj]
  exact ⟨fun k => if_pos k, fun k => if_neg k⟩
theorem cut_end {m : MobV} (hf : MobF m) (q t : Nat) (ht : t < 2 * m.am.length) (hq0 : 1 ≤ q) :
    (0 < hvM m t → (cutR m q (2 * m.am.length)).be t = 0 ∧ (cutR m q (2 * m.am.length)).le t = hvM m t) ∧
    (hvM m t = -(q : Int) → (cutR m q (2 * m.am.length)).be t = 0 ∧ (cutR m q (2 * m.am.length)).le t = wtM m q) ∧
    (hvM m t < 0 → hvM m t ≠ -(q : Int) → (cutR m q (2 * m.am.length)).be t = (-hvM m t).toNat ∧ (cutR m q (2 * m.am.length)).be t ≠ 0 ∧ (cutR m q (2 * m.am.length)).be t < m.am.length) := by
  have hE := (hf.ends t ht).2
  have hb : (rodF m).be t = (-hvM m t).toNat := rfl
  have hl : (rodF m).le t = if 0 < hvM m t then hvM m t else 0 := rfl
  unfold cutR
  simp only
  refine ⟨fun h => ?_, fun h => ?_, fun h h2 => ?_⟩
  · rw [if_neg (by rw [hb]; omega), if_neg (by rw [hb]; omega), hb, hl, if_pos h]
    exact ⟨by omega, rfl⟩
  · rw [if_pos ⟨ht, by rw [hb]; omega⟩, if_pos ⟨ht, by rw [hb]; omega⟩]
    exact ⟨rfl, rfl⟩
  · rw [if_neg (by rw [hb]; omega), hb]
    exact ⟨rfl, by omega, by omega⟩
theorem numS_start (n : Nat) (S : RodF) (j : Nat) : numS n S 0 (2 * 0) j = if j = 0 then 0 else -1 := by
  unfold numS
  rw [if_neg (by omega)]
  by_cases e : j = 0
  · rw [if_pos e, if_pos (show markR n S (2 * 0) j from .inl e)]
  · rw [if_neg e, if_neg]
    rintro (h | ⟨_, t, ht, _⟩)
    · exact e h
    · omega
end
section
open Go.RowKit
set_option maxRecDepth 100000 in
set_option maxHeartbeats 6400000 in
theorem specCut_yes (v : Value) (m : MobV) (q : Nat) (w : World) (hv : MobRow w v m) (hb : BndM m) (hf : MobF m) (hq : q < m.am.length) (hq0 : 1 ≤ q) :
    Calls Try.prog 55 #[v, .int .i64 (q : Int)] w fun e w' => ∃ u, e = .returned (.tuple #[u, .bool (goodB (madeR m.am.length (cutR m q (2 * m.am.length))))]) ∧ MobRow w' u (keptM (madeR m.am.length (cutR m q (2 * m.am.length)))) ∧ Below w.heap.size w w' := by
  have h1 := hf.one
  have h6 := hf.short
  have hs := hf.same
  have hrb : rodB m (q : Int) 0 = true := by unfold rodB; rw [(goodB_iff m).2 hf]; simp; omega
  have D := Lib.hid (fun w1 (l : Below w.heap.size w w1) => l5Rod_any v m (q : Int) 0 w1 (hv.lo l) hf.small hb)
  rw [hrb] at D
  have WN := Lib.hid (fun w1 (l : Below w.heap.size w w1) => l5Weights_any v m w1 (hv.lo l) hf)
  have HT := Lib.hid (treeR_cut hf q (2 * m.am.length) hq (by omega))
  have HCE := Lib.hid (fun t ht => cut_end hf q t ht hq0)
  have HEN := Lib.hid (fun t (ht : t < 2 * m.am.length) => (hf.ends t ht).2)
  obtain ⟨av, bv, rfl, ha, hh⟩ := hv
  obtain ⟨g, off, c, rfl, hgg, hca⟩ := pair_at ha (by omega)
  obtain ⟨g', off', c', rfl, hgg', hch⟩ := pair_at hh (by omega)
  have HSA := Lib.hid (show (cutR m q (2 * m.am.length)).ar = avM m from rfl)
  have BND := Lib.hid (bndR_cut hf q (2 * m.am.length) hq (by omega))
  obtain ⟨S, hS⟩ : ∃ S, cutR m q (2 * m.am.length) = S := ⟨_, rfl⟩
  rw [hS] at HT HCE HSA BND ⊢
  obtain ⟨n, hn⟩ : ∃ n, m.am.length = n := ⟨_, rfl⟩
  have EC := Lib.hid (fun i e (h1 : i < n) (h2 : e < 2) => end_cells hn (hs.trans hn) hca hch i e h1 h2)
  rw [hs, hn] at D WN
  rw [hn] at h1 h6 hq HT HCE HEN BND
  rw [hs, hn]
  obtain ⟨W, hW⟩ : ∃ W, (w.alloc (.cells #[.slice (some ⟨g, off, none⟩) n c, .slice (some ⟨g', off', none⟩) n c'] 27)).alloc (.cells #[.slice none 0 0, .slice none 0 0] 27) = W := ⟨_, rfl⟩
  have LW := Lib.hid (show Below w.heap.size w W by rw [← hW]; exact ((Below.refl _ _).alloc (Nat.le_refl _) _).alloc (by simp) _)
  have BX := Lib.hid (show Box2 W w.heap.size (.slice (some ⟨g, off, none⟩) n c) (.slice (some ⟨g', off', none⟩) n c') by rw [← hW]; exact (box2_new _ _ _ _).lo ((Below.refl _ _).alloc (Nat.le_refl _) _))
  have BY := Lib.hid (show Box2 W (w.heap.size + 1) (.slice none 0 0) (.slice none 0 0) by rw [← hW]; have := box2_new (w.alloc (.cells #[.slice (some ⟨g, off, none⟩) n c, .slice (some ⟨g', off', none⟩) n c'] 27)) (.slice none 0 0) (.slice none 0 0) 27; simpa using this)
  have FY := Lib.hid (show ∀ j, W.frozen? ⟨w.heap.size + 1, j, none⟩ = false by rw [← hW]; exact fun j => World.frozen?_alloc_at _ _ _ _ (by simp))
  have HM := make_ints n (by omega)
  have D1 := Lib.hid (D.out W LW.out)
  have bx0 : w.heap.size < W.heap.size := BX.out.1
  have by0 : w.heap.size + 1 < W.heap.size := BY.out.1
  have h1' : (1 : Int) ≤ (n : Int) := by omega
  have h0' : (0 : Int) < (n : Int) := by omega
  have hqn' : (q : Int) < (n : Int) := by omega
  have hqz : ¬ (q : Int) = 0 := by omega
  have hqz' : ¬ q = 0 := by omega
  clear ha hh hca hch hs hf D hb hrb hS
  have HNM := Lib.hid hn
  clear hn
  obtain ⟨_, u0, u1⟩ := BX.out
  go_enter Try.func55, Try.ntmps55
  go_wp2_with fail
  clear hW u0 u1
  refine D1.out.mono ?_
  rintro eq1 w1 ⟨rfl, l1⟩
  have L1 := Lib.hid l1
  obtain ⟨_, u0, u1⟩ := BX.out.lo l1
  clear l1 D1
  go_wp2_with fail
  clear u0 u1
  refine (WN.out w1 (lo_on LW.out L1.out)).mono ?_
  rintro eq1 w2 ⟨gw, rfl, hgw1, hgw2, hwc, hwf, l2⟩
  have L2 := Lib.hid (lo_on L1.out l2)
  obtain ⟨_, u0, u1⟩ := BX.out.lo L2.out
  have cwq := hwc q hq
  obtain ⟨wq, hwq⟩ : ∃ z, wtM m q = z := ⟨_, rfl⟩
  rw [hwq] at cwq HCE
  clear l2 hwc hwf WN hwq
  obtain ⟨gp, hgp⟩ : ∃ b, w2.heap.size = b := ⟨_, rfl⟩
  have HGP := Lib.hid hgp
  have P0 := Lib.hid (show PlcF (w2.alloc (.cells (madeCells #[.int .i64 0] n) 3)) gp n (fun j => if j < 0 then -1 else 0) from by
    rw [← hgp]
    refine ⟨by simp, fun j hj => ?_, fun j => World.frozen?_alloc_at _ _ _ _ rfl⟩
    rw [World.cell?_alloc_at _ _ _ _ rfl, if_neg (by omega)]
    exact made_int _ _ hj)
  have K0 := Lib.hid (show Below gp w2 (w2.alloc (.cells (madeCells #[.int .i64 0] n) 3)) from by rw [← hgp]; exact (Below.refl _ _).alloc (Nat.le_refl _) _)
  go_wp2
  clear hgp u0 u1 cwq
  generalize w2.alloc (.cells (madeCells #[.int .i64 0] n) 3) = w3 at *
  go_loopw [9] (fun x wr => ∃ k : Nat, k ≤ n ∧ x = .int .i64 k ∧ Hid (PlcF wr gp n (fun j => if j < k then -1 else 0)) ∧ Hid (Below gp w2 wr)) (fun x _ => n - (intOf x).toNat)
  case atStart => exact ⟨0, Nat.zero_le _, rfl, P0, K0⟩
  case round =>
    obtain ⟨k, hk, rfl, HP, HL⟩ := hrel
    obtain ⟨wx, rfl⟩ : ∃ wx : World, wx = wr := ⟨_, rfl⟩
    clear P0 K0
    have L3 := Lib.hid (show Below w2.heap.size w2 wx by rw [HGP.out]; exact HL.out)
    obtain ⟨_, u0, u1⟩ := BX.out.lo (lo_on L2.out L3.out)
    by_cases hlt : k < n
    · have hlt' : (k : Int) < (n : Int) := by omega
      have ck := HP.out.at_ k hlt
      have fk := HP.out.fz k
      have HPN := Lib.hid (show PlcF (wx.setCell ⟨gp, k, none⟩ (.int .i64 (-1))) gp n (fun j => if j < k + 1 then -1 else 0) from (HP.out.set hlt (-1)).congr (fun j _ => by
        by_cases e : j = k
        · rw [if_pos e, if_pos (by omega)]
        · rw [if_neg e]
          by_cases h : j < k
          · rw [if_pos h, if_pos (by omega)]
          · rw [if_neg h, if_neg (by omega)]))
      have HLN := Lib.hid (HL.out.setCell (p := ⟨gp, k, none⟩) (Nat.le_refl _) (.int .i64 (-1)))
      clear HP HL
      go_wp2
      go_roundw
      case rel => exact ⟨k + 1, by omega, by go_num, HPN, HLN⟩
      case measure => simp [intOf]; omega
    · have hkn : n = k := by omega
      subst hkn
      have hge : ¬ (n : Int) < (n : Int) := by omega
      obtain ⟨bO, hbO⟩ : ∃ b, wx.heap.size = b := ⟨_, rfl⟩
      have hgb : gp < bO := by have := HP.out.lt; omega
      have hsz : (wx.setCell ⟨gp, 0, none⟩ (.int .i64 0)).heap.size = bO := by simpa using hbO
      obtain ⟨wy, hwy⟩ : ∃ wy, (wx.setCell ⟨gp, 0, none⟩ (.int .i64 0)).alloc (.cells #[.slice none 0 0, .slice none 0 0] 27) = wy := ⟨_, rfl⟩
      have PN := Lib.hid (show PlcF wy gp n (numS n S 0 (2 * 0)) from by
        rw [← hwy]
        exact (((HP.out.set (q := 0) (by omega) 0).lo ((Below.refl _ _).alloc (Nat.le_refl _) _)).congr (fun j hj => by
          rw [numS_start]
          by_cases e : j = 0
          · rw [if_pos e, if_pos e]
          · rw [if_neg e, if_neg e, if_pos hj])))
      have ON := Lib.hid (show Out2 wy bO (.slice none 0 0) (.slice none 0 0) [] [] from by
        have o := out2_new (wx.setCell ⟨gp, 0, none⟩ (.int .i64 0))
        rw [hsz, hwy] at o
        exact o)
      have LN := Lib.hid (show Below gp w2 wy from by
        rw [← hwy]
        exact (HL.out.setCell (p := ⟨gp, 0, none⟩) (Nat.le_refl _) _).alloc (by omega) _)
      have c0 : wx.cell? ⟨gp, 0, none⟩ = some (.int .i64 (if 0 < n then -1 else 0)) := HP.out.at_ 0 (by omega)
      have f0 : wx.frozen? ⟨gp, 0, none⟩ = false := HP.out.fz 0
      rw [if_pos (by omega)] at c0
      have HWY := Lib.hid hwy
      clear HP HL hwy hsz
      go_wp2
      rw [HWY.out]
      clear HWY c0 f0 u0 u1 L3
      have HK0 : (kpT n S 0).length = 0 := rfl
      go_loopw [8, 11] (fun x8 x wr => ∃ i : Nat, i ≤ n ∧ x8 = .int .i64 ((kpT n S i).length : Int) ∧ x = .int .i64 i ∧ Hid (PlcF wr gp n (numS n S i (2 * i))) ∧ Hid (Out2 wr bO (.slice none 0 0) (.slice none 0 0) [] []) ∧ Hid (Below gp w2 wr)) (fun _ x _ => n - (intOf x).toNat)
      case atStart => exact ⟨0, Nat.zero_le _, rfl, rfl, PN, ON, LN⟩
      case round =>
        obtain ⟨i, hi, rfl, rfl, HP, HO, HL⟩ := hrel
        obtain ⟨wz, rfl⟩ : ∃ wz : World, wz = wr := ⟨_, rfl⟩
        clear PN ON LN
        have L3 := Lib.hid (show Below w2.heap.size w2 wz by rw [HGP.out]; exact HL.out)
        obtain ⟨_, u0, u1⟩ := BX.out.lo (lo_on L2.out L3.out)
        by_cases hlt : i < n
        · have hlt' : (i : Int) < (n : Int) := by omega
          have hat := numS_at HT.out h1 i hlt
          have ci := HP.out.at_ i hlt
          have fi := HP.out.fz i
          have hkl := kp_len n S i
          by_cases hin : i ∈ preR S n 0
          · rw [hat.1 hin] at ci
            have hkn : (kpT n S (i + 1)).length = (kpT n S i).length + 1 := by rw [kp_yes hin, List.length_append]; rfl
            have PN1 := Lib.hid (show PlcF (wz.setCell ⟨gp, i, none⟩ (.int .i64 ((kpT n S i).length : Int))) gp n (numS n S (i + 1) (2 * i + 0)) from (HP.out.set hlt _).congr (fun j _ => (numS_own i j hlt hin).symm))
            have ON1 := Lib.hid (HO.out.far (g := gp) (o := i) (x := .int .i64 ((kpT n S i).length : Int)) (by omega) (by simp [Value.ownBlock]) (by simp [Value.ownBlock]))
            have LN1 := Lib.hid (HL.out.setCell (p := ⟨gp, i, none⟩) (Nat.le_refl _) (.int .i64 ((kpT n S i).length : Int)))
            obtain ⟨K, hK⟩ : ∃ K, (kpT n S i).length = K := ⟨_, rfl⟩
            rw [hK] at hkn PN1 ON1 LN1 hkl
            rw [hK]
            have hK0 : (0 : Int) ≤ (K : Int) := by omega
            have hwk := wrap_mid ((K : Int) + 1) (by omega) (by omega)
            have HKN := Lib.hid hkn
            clear HP HO HL hat hK hkn
            go_wp2
            clear ci fi u0 u1 L3
            generalize wz.setCell ⟨gp, i, none⟩ (.int .i64 (K : Int)) = wz1 at *
            go_loopw [12] (fun x wr => ∃ e : Nat, e ≤ 2 ∧ x = .int .i64 e ∧ Hid (PlcF wr gp n (numS n S (i + 1) (2 * i + e))) ∧ Hid (Out2 wr bO (.slice none 0 0) (.slice none 0 0) [] []) ∧ Hid (Below gp w2 wr)) (fun x _ => 2 - (intOf x).toNat)
            case atStart => exact ⟨0, Nat.zero_le _, rfl, PN1, ON1, LN1⟩
            case round =>
              obtain ⟨e, he, rfl, HP, HO, HL⟩ := hrel
              obtain ⟨wv, rfl⟩ : ∃ wv : World, wv = wr := ⟨_, rfl⟩
              clear PN1 ON1 LN1
              have L3 := Lib.hid (show Below w2.heap.size w2 wv by rw [HGP.out]; exact HL.out)
              obtain ⟨_, u0, u1⟩ := BX.out.lo (lo_on L2.out L3.out)
              by_cases hel : e < 2
              · have hel' : (e : Int) < 2 := by omega
                have ce := (EC.out i e hlt hel).2
                rw [← (LW.out.trans ((lo_on L2.out L3.out).mono LW.out.size)).cell (p := ⟨g', off' + i * 2 + e, none⟩) hgg'] at ce
                have hen := HEN.out (2 * i + e) (by omega)
                obtain ⟨hc1, hc2, hc3⟩ := HCE.out (2 * i + e) (by omega)
                have hns := fun j => numS_end HT.out i e j hlt hel hin
                obtain ⟨z, hz⟩ : ∃ z, hvM m (2 * i + e) = z := ⟨_, rfl⟩
                rw [hz] at ce hen hc1 hc2 hc3
                have same : S.be (2 * i + e) = 0 → Hid (PlcF wv gp n (numS n S (i + 1) (2 * i + (e + 1)))) := fun h0 => Lib.hid (HP.out.congr (fun j _ => by rw [hns j, if_neg (fun h => h.1 h0)]))
                by_cases hpos : 0 < z
                · have HPN := same (hc1 hpos).1
                  have hnn : ¬ z < 0 := by omega
                  clear same hns hc1 hc2 hc3 hz hen HP
                  go_wp2
                  go_roundw
                  case rel => exact ⟨e + 1, by omega, by go_num, HPN, HO, HL⟩
                  case measure => simp [intOf]; omega
                · by_cases hzq : z = -(q : Int)
                  · have HPN := same (hc2 hzq).1
                    have hneg : z < 0 := by omega
                    have hwn : IntKind.i64.wrap (-z) = (q : Int) := by rw [wrap_mid _ (by omega) (by omega)]; omega
                    clear same hns hc1 hc2 hc3 hz hen HP hpos hzq
                    go_wp2
                    go_roundw
                    case rel => exact ⟨e + 1, by omega, by go_num, HPN, HO, HL⟩
                    case measure => simp [intOf]; omega
                  · have hneg : z < 0 := by omega
                    obtain ⟨r1, r2, r3⟩ := hc3 hneg hzq
                    obtain ⟨r, hr⟩ : ∃ r, S.be (2 * i + e) = r := ⟨_, rfl⟩
                    rw [hr] at r1 r2 r3 hns
                    have cr := HP.out.at_ r r3
                    have fr := HP.out.fz r
                    have HPN := Lib.hid (show PlcF (wv.setCell ⟨gp, r, none⟩ (.int .i64 0)) gp n (numS n S (i + 1) (2 * i + (e + 1))) from (HP.out.set r3 0).congr (fun j _ => by
                      rw [hns j]
                      by_cases h : j = r
                      · rw [if_pos h, if_pos ⟨r2, h⟩]
                      · rw [if_neg h, if_neg (fun x => h x.2)]))
                    have HON := Lib.hid (HO.out.far (g := gp) (o := r) (x := .int .i64 0) (by omega) (by simp [Value.ownBlock]) (by simp [Value.ownBlock]))
                    have HLN := Lib.hid (HL.out.setCell (p := ⟨gp, r, none⟩) (Nat.le_refl _) (.int .i64 0))
                    have hwn : IntKind.i64.wrap (-z) = (r : Int) := by rw [wrap_mid _ (by omega) (by omega)]; omega
                    have hrn' : (r : Int) < (n : Int) := by omega
                    have hr0 : (0 : Int) ≤ (r : Int) := by omega
                    have hrq : ¬ (r : Int) = (q : Int) := by omega
                    have hrq2 : ¬ r = q := by omega
                    generalize numS n S (i + 1) (2 * i + e) r = y at cr
                    clear same hns hc1 hc2 hc3 hz hen HP HO HL hpos hzq r1 hr
                    go_wp2
                    go_roundw
                    case rel => exact ⟨e + 1, by omega, by go_num, HPN, HON, HLN⟩
                    case measure => simp [intOf]; omega
              · obtain rfl : e = 2 := by omega
                have hwi := wrap_mid ((i : Int) + 1) (by omega) (by omega)
                go_wp2
                go_roundw
                case rel => exact ⟨i + 1, by omega, by rw [HKN.out]; go_num, by go_num, HP, HO, HL⟩
                case measure => simp [intOf]; omega
          · rw [hat.2 hin] at ci
            have HPN := Lib.hid (show PlcF wz gp n (numS n S (i + 1) (2 * (i + 1))) from HP.out.congr (fun j _ => (numS_no HT.out h1 i j hlt hin).symm))
            have hkn : (kpT n S (i + 1)).length = (kpT n S i).length := by rw [kp_no hin]
            have HKN := Lib.hid hkn
            clear HP hat hkn
            go_wp2
            go_roundw
            case rel => exact ⟨i + 1, by omega, by rw [HKN.out], by go_num, HPN, HO, HL⟩
            case measure => simp [intOf]; omega
        · have hin : n = i := by omega
          subst hin
          have hge : ¬ (n : Int) < (n : Int) := by omega
          go_wp2
          clear u0 u1 L3
          have NU := Lib.hid (fun X (l : Below bO wz X) => show PlcF X gp n (numS n S n (2 * n)) from ⟨Nat.lt_of_lt_of_le HP.out.lt l.size, fun j hj => (l.cell (p := ⟨gp, j, none⟩) hgb).trans (HP.out.at_ j hj), fun j => (l.frozen (p := ⟨gp, j, none⟩) hgb).trans (HP.out.fz j)⟩)
          have LB := Lib.hid (fun X (l : Below bO wz X) => show Below w2.heap.size w2 X from by rw [HGP.out]; exact HL.out.trans (l.mono (by omega)))
          have HBZ := Lib.hid HO.out.box.1
          have HLZ := HL
          clear HP HL
          go_loopw [14] (fun x wr => ∃ (i : Nat) (va vb : Value), i ≤ n ∧ x = .int .i64 i ∧ Hid (Out2 wr bO va vb ((kpT n S i).map (fun j => (avM m (2 * j), avM m (2 * j + 1)))) ((kpT n S i).map (fun j => (hungR S (keptR n S) (2 * j), hungR S (keptR n S) (2 * j + 1))))) ∧ Hid (Below bO wz wr)) (fun x _ => n - (intOf x).toNat)
          case atStart => exact ⟨0, _, _, Nat.zero_le _, rfl, HO, Lib.hid (Below.refl _ _)⟩
          case round =>
            obtain ⟨i, va, vb, hi, rfl, HO2, HL⟩ := hrel
            obtain ⟨wr0, rfl⟩ : ∃ wr0 : World, wr0 = wr := ⟨_, rfl⟩
            clear HO
            have L3 := Lib.hid (LB.out wr0 HL.out)
            obtain ⟨_, u0, u1⟩ := BX.out.lo (lo_on L2.out L3.out)
            by_cases hlt : i < n
            · have hlt' : (i : Int) < (n : Int) := by omega
              have ci := (NU.out wr0 HL.out).at_ i hlt
              obtain ⟨hk1, hk2⟩ := numS_all n S i hlt
              by_cases hin : i ∈ preR S n 0
              · rw [hk1 hin] at ci
                have hnn : ¬ (((keptR n S).idxOf i : Nat) : Int) < 0 := by omega
                generalize ((keptR n S).idxOf i : Nat) = ii at ci hnn
                have HA1 := Lib.hid (show (kpT n S (i + 1)).map (fun j => (avM m (2 * j), avM m (2 * j + 1))) = (kpT n S i).map (fun j => (avM m (2 * j), avM m (2 * j + 1))) ++ [(avM m (2 * i), avM m (2 * i + 1))] by rw [kp_yes hin, List.map_append]; rfl)
                have HA2 := Lib.hid (show (kpT n S (i + 1)).map (fun j => (hungR S (keptR n S) (2 * j), hungR S (keptR n S) (2 * j + 1))) = (kpT n S i).map (fun j => (hungR S (keptR n S) (2 * j), hungR S (keptR n S) (2 * j + 1))) ++ [(hungR S (keptR n S) (2 * i), hungR S (keptR n S) (2 * i + 1))] by rw [kp_yes hin, List.map_append]; rfl)
                have HLK := Lib.hid (fun (f : Nat → Int × Int) => show ((kpT n S i).map f).length = (kpT n S i).length from List.length_map ..)
                have HKL := Lib.hid (kp_len n S i)
                have e0 := (EC.out i 0 hlt (by omega)).2
                have e1 := (EC.out i 1 hlt (by omega)).2
                rw [← (LW.out.trans ((lo_on L2.out L3.out).mono LW.out.size)).cell (p := ⟨g', off' + i * 2 + 0, none⟩) hgg'] at e0
                rw [← (LW.out.trans ((lo_on L2.out L3.out).mono LW.out.size)).cell (p := ⟨g', off' + i * 2 + 1, none⟩) hgg'] at e1
                simp only [Nat.add_zero] at e0 e1
                go_wp2
                obtain ⟨bh, hbh⟩ : ∃ bh, wr0.heap.size = bh := ⟨_, rfl⟩
                obtain ⟨W4, hW4⟩ : ∃ W4, wr0.alloc (.cells #[.int .i64 (hvM m (2 * i)), .int .i64 (hvM m (2 * i + 1))] 75) = W4 := ⟨_, rfl⟩
                have N4 := Lib.hid (show NumC W4 bh 2 (fun j => if j < 0 then hungR S (keptR n S) (2 * i + j) else hvM m (2 * i + j)) by
                  rw [← hW4, ← hbh]
                  refine ⟨by simp, fun j hj => ?_, fun j => World.frozen?_alloc_at _ _ _ _ rfl⟩
                  rw [World.cell?_alloc_at _ _ _ _ rfl, if_neg (by omega)]
                  rcases (show j = 0 ∨ j = 1 by omega) with rfl | rfl
                  · rfl
                  · rfl)
                have l4 : Below wr0.heap.size wr0 W4 := by rw [← hW4]; exact (Below.refl _ _).alloc (Nat.le_refl _) _
                have hb3 : bO + 1 ≤ wr0.heap.size := by have := HL.out.size; have := HBZ.out; omega
                have O4 := Lib.hid (HO2.out.lo l4)
                have W4L := Lib.hid (show Below bO wz W4 from HL.out.trans (l4.mono (by omega)))
                have hsh : W4.heap.size = bh + 1 := by rw [← hW4, ← hbh]; simp
                have AG := Lib.hid (show bO ≠ bh ∧ va.ownBlock ≠ some bh ∧ vb.ownBlock ≠ some bh ∧ bO + 1 ≤ bh from ⟨by omega, fun h => by have := (HO2.out.r1.lt bh h).2; omega, fun h => by have := (HO2.out.r2.lt bh h).2; omega, by omega⟩)
                have HSH := Lib.hid hsh
                rw [hbh, hW4]
                clear hW4 hbh l4 e0 e1 ci u0 u1 HO2 HL L3 hk1 hk2 hsh hb3
                go_loopw [16] (fun x wr => ∃ e : Nat, e ≤ 2 ∧ x = .int .i64 e ∧ Hid (NumC wr bh 2 (fun j => if j < e then hungR S (keptR n S) (2 * i + j) else hvM m (2 * i + j))) ∧ Hid (Out2 wr bO va vb ((kpT n S i).map (fun j => (avM m (2 * j), avM m (2 * j + 1)))) ((kpT n S i).map (fun j => (hungR S (keptR n S) (2 * j), hungR S (keptR n S) (2 * j + 1))))) ∧ Hid (Below bO wz wr) ∧ Hid (wr.heap.size = bh + 1)) (fun x _ => 2 - (intOf x).toNat)
                case atStart => exact ⟨0, Nat.zero_le _, rfl, N4, O4, W4L, HSH⟩
                case round =>
                  obtain ⟨e, he, rfl, HN, HO, HL, HZ⟩ := hrel
                  obtain ⟨wx, rfl⟩ : ∃ wx : World, wx = wr := ⟨_, rfl⟩
                  clear N4 O4 W4L HSH
                  by_cases hel : e < 2
                  · have hel' : (e : Int) < 2 := by omega
                    have ce := HN.out.at_ e hel
                    rw [if_neg (by omega)] at ce
                    have fe := HN.out.fz e
                    have hen := HEN.out (2 * i + e) (by omega)
                    obtain ⟨hc1, hc2, hc3⟩ := HCE.out (2 * i + e) (by omega)
                    have nxt := fun (y : Int) (hy : hungR S (keptR n S) (2 * i + e) = y) => show Hid (NumC (wx.setCell ⟨bh, e, none⟩ (.int .i64 y)) bh 2 (fun j => if j < e + 1 then hungR S (keptR n S) (2 * i + j) else hvM m (2 * i + j))) from Lib.hid ((HN.out.set hel y).congr (fun j _ => by
                      by_cases h1 : j = e
                      · rw [if_pos h1, h1, if_pos (by omega), hy]
                      · rw [if_neg h1]
                        by_cases h2 : j < e
                        · rw [if_pos h2, if_pos (by omega)]
                        · rw [if_neg h2, if_neg (by omega)]))
                    have HOn := fun (y : Int) => Lib.hid (HO.out.far (g := bh) (o := e) (x := .int .i64 y) AG.out.1 AG.out.2.1 AG.out.2.2.1)
                    have HLn := fun (y : Int) => Lib.hid (HL.out.setCell (p := ⟨bh, e, none⟩) (show bO ≤ bh by have := AG.out.2.2.2; omega) (.int .i64 y))
                    have hwq := wrap_mid (-(q : Int)) (by omega) (by omega)
                    by_cases hpos : 0 < hvM m (2 * i + e)
                    · have HNN := Lib.hid (show NumC wx bh 2 (fun j => if j < e + 1 then hungR S (keptR n S) (2 * i + j) else hvM m (2 * i + j)) from HN.out.congr (fun j _ => by
                        by_cases h1 : j = e
                        · rw [h1, if_neg (by omega), if_pos (by omega)]; unfold hungR; rw [if_pos (hc1 hpos).1, (hc1 hpos).2]
                        · by_cases h2 : j < e
                          · rw [if_pos h2, if_pos (by omega)]
                          · rw [if_neg h2, if_neg (by omega)]))
                      obtain ⟨z, hz⟩ : ∃ z, hvM m (2 * i + e) = z := ⟨_, rfl⟩
                      rw [hz] at ce hpos
                      have hne : ¬ z = -(q : Int) := by omega
                      have hng : ¬ z < 0 := by omega
                      clear nxt HOn HLn hc1 hc2 hc3 hen hz HN
                      go_wp2
                      go_roundw
                      case rel => exact ⟨e + 1, by omega, by go_num, HNN, HO, HL, HZ⟩
                      case measure => simp [intOf]; omega
                    · by_cases hzq : hvM m (2 * i + e) = -(q : Int)
                      · have HNN := nxt wq (by unfold hungR; rw [if_pos (hc2 hzq).1, (hc2 hzq).2])
                        have HON := HOn wq
                        have HLN := HLn wq
                        have HZN := Lib.hid (show (wx.setCell ⟨bh, e, none⟩ (.int .i64 wq)).heap.size = bh + 1 by simpa using HZ.out)
                        rw [hzq] at ce
                        clear nxt HOn HLn hc1 hc2 hc3 hen HN HO HL HZ hpos hzq
                        go_wp2
                        go_roundw
                        case rel => exact ⟨e + 1, by omega, by go_num, HNN, HON, HLN, HZN⟩
                        case measure => simp [intOf]; omega
                      · have hneg : hvM m (2 * i + e) < 0 := by omega
                        obtain ⟨r1, r2, r3⟩ := hc3 hneg hzq
                        have hrin : S.be (2 * i + e) ∈ preR S n 0 := preR_down HT.out n 0 (2 * i + e) (by omega) (by omega) (by omega) r2 (by rw [show (2 * i + e) / 2 = i by omega]; exact hin)
                        have hny : hungR S (keptR n S) (2 * i + e) = -(((keptR n S).idxOf (S.be (2 * i + e)) : Nat) : Int) := by unfold hungR; rw [if_neg r2]
                        have cr := (NU.out wx HL.out).at_ _ r3
                        rw [(numS_all n S _ r3).1 hrin] at cr
                        have hib : (keptR n S).idxOf (S.be (2 * i + e)) ≤ 6 := by
                          have a1 : (keptR n S).idxOf (S.be (2 * i + e)) ≤ (keptR n S).length := List.idxOf_le_length
                          have a2 := keptR_len n S
                          omega
                        obtain ⟨y, hy⟩ : ∃ y, (keptR n S).idxOf (S.be (2 * i + e)) = y := ⟨_, rfl⟩
                        rw [hy] at hny cr hib
                        obtain ⟨r, hr⟩ : ∃ r, S.be (2 * i + e) = r := ⟨_, rfl⟩
                        rw [hr] at r1 r2 r3 cr
                        have HNN := nxt (-(y : Int)) hny
                        have HON := HOn (-(y : Int))
                        have HLN := HLn (-(y : Int))
                        have HZN := Lib.hid (show (wx.setCell ⟨bh, e, none⟩ (.int .i64 (-(y : Int)))).heap.size = bh + 1 by simpa using HZ.out)
                        obtain ⟨z, hz⟩ : ∃ z, hvM m (2 * i + e) = z := ⟨_, rfl⟩
                        rw [hz] at ce hzq hneg r1 hen
                        have hwz : IntKind.i64.wrap (-z) = (r : Int) := by rw [wrap_mid _ (by omega) (by omega)]; omega
                        have hwy := wrap_mid (-(y : Int)) (by omega) (by omega)
                        have hrn' : (r : Int) < (n : Int) := by omega
                        have hr0 : (0 : Int) ≤ (r : Int) := by omega
                        clear nxt HOn HLn hc1 hc2 hc3 hen HN HO HL HZ hpos hr hy hny hz r1 hrin
                        go_wp2
                        go_roundw
                        case rel => exact ⟨e + 1, by omega, by go_num, HNN, HON, HLN, HZN⟩
                        case measure => simp [intOf]; omega
                  · obtain rfl : e = 2 := by omega
                    obtain ⟨i0, hi0, hz0, hz1, hz2⟩ := info_parts infoA2
                    have hbM3 : bO ≤ wz.heap.size := by have := HBZ.out; omega
                    have hbR : bO ≤ wx.heap.size := Nat.le_trans hbM3 HL.out.size
                    have hbhx : bh < wx.heap.size := by have := HZ.out; omega
                    have BXQ := Lib.hid (fun X (l : Below bO wz X) => BX.out.lo (lo_on L2.out (LB.out X l)))
                    have CEQ := Lib.hid (fun X (l : Below bO wz X) => show X.cell? ⟨g, off + i * 2, none⟩ = some (.int .i64 (avM m (2 * i))) ∧ X.cell? ⟨g, off + i * 2 + 1, none⟩ = some (.int .i64 (avM m (2 * i + 1))) from by
                      have l2 := LW.out.trans ((lo_on L2.out (LB.out X l)).mono LW.out.size)
                      exact ⟨(l2.cell (p := ⟨g, off + i * 2, none⟩) hgg).trans (by have := (EC.out i 0 hlt (by omega)).1; simpa only [Nat.add_zero] using this), (l2.cell (p := ⟨g, off + i * 2 + 1, none⟩) hgg).trans (EC.out i 1 hlt (by omega)).1⟩)
                    obtain ⟨x, hx⟩ : ∃ x, avM m (2 * i) = x := ⟨_, rfl⟩
                    obtain ⟨y, hy⟩ : ∃ y, avM m (2 * i + 1) = y := ⟨_, rfl⟩
                    simp only [hx, hy] at HA1 CEQ
                    obtain ⟨L, hL⟩ : ∃ L, (kpT n S i).length = L := ⟨_, rfl⟩
                    have HL1 := Lib.hid ((HLK.out (fun j => (avM m (2 * j), avM m (2 * j + 1)))).trans hL)
                    have HL2 := Lib.hid ((HLK.out (fun j => (hungR S (keptR n S) (2 * j), hungR S (keptR n S) (2 * j + 1)))).trans hL)
                    have hLi : L ≤ 6 := by have := HKL.out; omega
                    obtain ⟨X1, hX1⟩ : ∃ X1, (kpT n S i).map (fun j => (avM m (2 * j), avM m (2 * j + 1))) = X1 := ⟨_, rfl⟩
                    obtain ⟨Y1, hY1⟩ : ∃ Y1, (kpT n S i).map (fun j => (hungR S (keptR n S) (2 * j), hungR S (keptR n S) (2 * j + 1))) = Y1 := ⟨_, rfl⟩
                    rw [hX1] at HL1 HA1 HO
                    rw [hY1] at HL2 HA2 HO
                    have NH := Lib.hid (HN.out.congr (f' := fun j => hungR S (keptR n S) (2 * i + j)) (fun j hj => if_pos hj))
                    clear HN hX1 hY1 hx hy hL HLK HKL
                    go_wp2
                    refine wp_region_inv (by kernel_rfl) (by kernel_rfl) (fun D a X => ∃ (t133 t134 t135 t136 t137 t138 t139 t140 t141 t142 : Value) (g15 g16 k16 : Nat), a = (⟨#[(.agg #[.slice (some ⟨g, off, none⟩) n c, .slice (some ⟨g', off', none⟩) n c']), .int .i64 (q : Int), .pointer (some ⟨w.heap.size, 0, none⟩), undef, .pointer (some ⟨w.heap.size + 1, 0, none⟩), .bool false, .int .i64 wq, .slice (some ⟨gp, 0, none⟩) n n, .int .i64 ((kpT n S n).length : Int), .int .i64 (n : Int), .pointer (some ⟨bO, 0, none⟩), .int .i64 (n : Int), u12, u13, .int .i64 (i : Int), .pointer (some ⟨bh, 0, none⟩), .int .i64 ((2 : Nat) : Int), (.agg #[.slice (some ⟨g, off, none⟩) n c, .slice (some ⟨g', off', none⟩) n c']), .int .i64 (q : Int), .bool true, .bool false, .bool false, .int .i64 (q : Int), .bool false, .bool false, undef, (.agg #[.slice (some ⟨g, off, none⟩) n c, .slice (some ⟨g', off', none⟩) n c']), .slice (some ⟨gw, 0, none⟩) n n, .int .i64 (q : Int), .pointer (some ⟨gw, q, none⟩), .int .i64 wq, .pointer (some ⟨w.heap.size, 0, none⟩), .slice (some ⟨g, off, none⟩) n c, .int .i64 (n : Int), .slice (some ⟨gp, 0, none⟩) n n, .int .i64 (n : Int), .pointer (some ⟨w.heap.size, 0, none⟩), .slice (some ⟨g, off, none⟩) n c, .int .i64 (n : Int), .bool false, u40, u41, u42, u43, u44, (.agg #[.slice none 0 0, .slice none 0 0]), .slice (some ⟨gp, 0, none⟩) n n, .pointer (some ⟨gp, 0, none⟩), .int .i64 (n : Int), .pointer (some ⟨w.heap.size, 0, none⟩), .slice (some ⟨g, off, none⟩) n c, .int .i64 (n : Int), .bool false, u53, u54, u55, u56, u57, u58, u59, u60, u61, u62, u63, u64, u65, u66, u67, u68, u69, u70, u71, u72, u73, u74, u75, u76, u77, u78, u79, u80, u81, u82, u83, u84, u85, u86, u87, u88, .int .i64 (i : Int), .pointer (some ⟨w.heap.size, 0, none⟩), .slice (some ⟨g, off, none⟩) n c, .int .i64 (n : Int), .bool true, u94, u95, .slice (some ⟨gp, 0, none⟩) n n, .int .i64 (i : Int), .pointer (some ⟨gp, i, none⟩), .int .i64 (ii : Int), .bool false, .pointer (some ⟨w.heap.size, 1, none⟩), .slice (some ⟨g', off', none⟩) n c', .int .i64 (i : Int), .pointer (some ⟨g', off' + i * 2, none⟩), (.agg #[.int .i64 (hvM m (2 * i)), .int .i64 (hvM m (2 * i + 1))]), .int .i64 ((2 : Nat) : Int), .bool false, u108, u109, u110, u111, u112, u113, u114, u115, u116, u117, u118, u119, u120, u121, u122, u123, u124, u125, u126, u127, u128, u129, u130, u131, u132, t133, t134, t135, t136, t137, t138, t139, t140, t141, t142, u143, u144, u145, u146, u147, u148, undef, undef, undef, undef, undef], []⟩ : Act) ∧ (D 10 → ∃ qq cp, Hid (Out2 X bO (.slice (some ⟨qq, 0, none⟩) (L + 1) cp) vb (X1 ++ [(x, y)]) Y1 ∧ Below bO wz X ∧ X.heap[bh]? = wx.heap[bh]? ∧ bh < X.heap.size)) ∧ (¬ D 10 → Hid (Below bO wz X ∧ X.heap[bh]? = wx.heap[bh]? ∧ bh < X.heap.size) ∧ (D 0 → (t133 = .pointer (some ⟨bO, 0, none⟩))) ∧ (D 1 → (t134 = va)) ∧ (D 2 → (t135 = .pointer (some ⟨w.heap.size, 0, none⟩))) ∧ (D 3 → (t136 = .slice (some ⟨g, off, none⟩) n c)) ∧ (D 4 → (t137 = .int .i64 (i : Int))) ∧ (D 5 → (t138 = .pointer (some ⟨g, off + i * 2, none⟩))) ∧ (D 6 → (t139 = .agg #[.int .i64 x, .int .i64 y])) ∧ (D 7 → ¬ D 8 → (t140 = .slice (some ⟨g15, 0, none⟩) 1 1 ∧ Lit2 X g15 x y)) ∧ (D 8 → (t141 = (.slice (some ⟨g16, 0, none⟩) (L + 1) k16) ∧ App2 X bO 0 va ∧ Out2 (X.setCell ⟨bO, 0, none⟩ (.slice (some ⟨g16, 0, none⟩) (L + 1) k16)) bO (.slice (some ⟨g16, 0, none⟩) (L + 1) k16) vb (X1 ++ [(x, y)]) Y1)) ∧ (D 9 → (t142 = .pointer (some ⟨bO, 0, none⟩))) ∧ (¬ D 8 → (Out2 X bO va vb X1 Y1)))) ?_ ?_ ?_
                    · exact ⟨_, _, _, _, _, _, _, _, _, _, 0, 0, 0, rfl, fun h => h.elim, fun _ => ⟨Lib.hid ⟨HL.out.trans (drew_below _ |>.mono hbR), rfl, hbhx⟩, fun h => h.elim, fun h => h.elim, fun h => h.elim, fun h => h.elim, fun h => h.elim, fun h => h.elim, fun h => h.elim, fun h => h.elim, fun h => h.elim, fun h => h.elim, fun _ => HO.out.lo (drew_below _)⟩⟩
                    · refine (show ∀ i, i < 11 → StepAt _ _ _ _ _ i from ?_)
                      refine lt_more (n := 10) ?_ (lt_more (n := 9) ?_ (lt_more (n := 8) ?_ (lt_more (n := 7) ?_ (lt_more (n := 6) ?_ (lt_more (n := 5) ?_ (lt_more (n := 4) ?_ (lt_more (n := 3) ?_ (lt_more (n := 2) ?_ (lt_more (n := 1) ?_ (lt_more (n := 0) ?_ lt_none))))))))))
                      · refine step_of _ [9, 8, 8, 0, 1, 2, 3, 4, 5, 6, 7, 8] [] rfl (by kernel_rfl) (by kernel_rfl) ?_
                        rintro D a X hn hd hc ⟨t133, t134, t135, t136, t137, t138, t139, t140, t141, t142, g15, g16, k16, rfl, _, hrest⟩ K' hK
                        have nl := hn
                        obtain ⟨LX, c0, c1, c2, c3, c4, c5, c6, c7, c8, c9, cO⟩ := hrest nl
                        clear hrest
                        have d0 := hd 0 (by simp)
                        have d1 := hd 1 (by simp)
                        have d2 := hd 2 (by simp)
                        have d3 := hd 3 (by simp)
                        have d4 := hd 4 (by simp)
                        have d5 := hd 5 (by simp)
                        have d6 := hd 6 (by simp)
                        have d7 := hd 7 (by simp)
                        have d8 := hd 8 (by simp)
                        have d9 := hd 9 (by simp)
                        clear hd hc
                        obtain ⟨rfl, ⟨a0, a1⟩, a2⟩ := c8 d8
                        obtain rfl := c9 d9
                        go_simp
                        refine hK _ _ ⟨_, _, _, _, _, _, _, _, _, _, g15, g16, k16, by first | rfl | simp [Act.put], fun _ => ?_, fun m => absurd (.inl rfl) m⟩
                        exact ⟨g16, k16, Lib.hid ⟨a2, LX.out.1.setCell (p := ⟨bO, 0, none⟩) (Nat.le_refl _) _, (Below.heap_setCell _ _ _ _ (fun e => AG.out.1 e.symm)).trans LX.out.2.1, by simpa using LX.out.2.2⟩⟩
                      · refine step_of _ [0, 1, 2, 3, 4, 5, 6, 7, 8] [(10, 9)] rfl (by kernel_rfl) (by kernel_rfl) ?_
                        rintro D a X hn hd hc ⟨t133, t134, t135, t136, t137, t138, t139, t140, t141, t142, g15, g16, k16, rfl, _, hrest⟩ K' hK
                        have nl : ¬ D 10 := fun h => hn (hc (10, 9) (by simp) h)
                        obtain ⟨LX, c0, c1, c2, c3, c4, c5, c6, c7, c8, c9, cO⟩ := hrest nl
                        clear hrest
                        have d0 := hd 0 (by simp)
                        have d1 := hd 1 (by simp)
                        have d2 := hd 2 (by simp)
                        have d3 := hd 3 (by simp)
                        have d4 := hd 4 (by simp)
                        have d5 := hd 5 (by simp)
                        have d6 := hd 6 (by simp)
                        have d7 := hd 7 (by simp)
                        have d8 := hd 8 (by simp)
                        clear hd hc
                        go_simp
                        refine hK _ _ ⟨_, _, _, _, _, _, _, _, _, _, g15, g16, k16, by first | rfl | simp [Act.put], fun h => (nl (h.resolve_left (by decide))).elim, fun _ => ⟨LX, ?c0, ?c1, ?c2, ?c3, ?c4, ?c5, ?c6, ?c7, ?c8, ?c9, ?cO⟩⟩
                        case c0 => exact fun h0 => c0 (h0.resolve_left (by decide))
                        case c1 => exact fun h1 => c1 (h1.resolve_left (by decide))
                        case c2 => exact fun h2 => c2 (h2.resolve_left (by decide))
                        case c3 => exact fun h3 => c3 (h3.resolve_left (by decide))
                        case c4 => exact fun h4 => c4 (h4.resolve_left (by decide))
                        case c5 => exact fun h5 => c5 (h5.resolve_left (by decide))
                        case c6 => exact fun h6 => c6 (h6.resolve_left (by decide))
                        case c7 => exact fun h7 m8 => c7 (h7.resolve_left (by decide)) (fun q => m8 (.inr q))
                        case c8 => exact fun h8 => c8 (h8.resolve_left (by decide))
                        case c9 => exact fun h9 => rfl
                        case cO => exact fun m8 => cO (fun q => m8 (.inr q))
                      · refine step_of _ [1, 7] [(10, 8)] rfl (by kernel_rfl) (by kernel_rfl) ?_
                        rintro D a X hn hd hc ⟨t133, t134, t135, t136, t137, t138, t139, t140, t141, t142, g15, g16, k16, rfl, _, hrest⟩ K' hK
                        have nl : ¬ D 10 := fun h => hn (hc (10, 8) (by simp) h)
                        obtain ⟨LX, c0, c1, c2, c3, c4, c5, c6, c7, c8, c9, cO⟩ := hrest nl
                        clear hrest
                        have d1 := hd 1 (by simp)
                        have d7 := hd 7 (by simp)
                        clear hd hc
                        have hbX : bO ≤ X.heap.size := Nat.le_trans hbM3 LX.out.1.size
                        obtain rfl := (c1 d1).symm
                        obtain ⟨rfl, r15⟩ := c7 d7 hn
                        have hO := cO hn
                        have hOr := hO.r1
                        rw [HL1.out] at hOr
                        refine step_append_lies _ (by rfl) _ _ _ (by rfl) (bO + 1) 75 i0 _ 2 16 Try.underlying22 hi0 hz0 hz1 hz2 rfl (by omega) va L (cellsF X1) (by rfl) hOr ⟨g15, 0, none⟩ 1 1 [.int .i64 x, .int .i64 y] (by rfl) (by rfl) (World.news_of_block (cs := #[.int .i64 x, .int .i64 y]) (t := 75) (fr := (0, 0)) r15.2) (by simp [Value.oneCell']) (by omega) (by unfold maxLen; omega) (by omega) (by have := hO.box.1; omega) X.heap.size rfl ?_
                        intro g16' k16' X5 hown hgrow hat hlt
                        have hA := hO.app1 HL1.out hown hgrow hat
                        refine hK _ _ ⟨_, _, _, _, _, _, _, _, _, _, g15, g16', k16', by first | rfl | simp [Act.put], fun h => (nl (h.resolve_left (by decide))).elim, fun _ => ⟨Lib.hid ⟨LX.out.1.grown hgrow hbX (fun q hq => by have := (hOr.lt q hq).1; omega), (hgrow.block bh LX.out.2.2 (fun e => AG.out.2.1 e.symm)).trans LX.out.2.1, Nat.lt_of_lt_of_le LX.out.2.2 hgrow.size⟩, ?c0, ?c1, ?c2, ?c3, ?c4, ?c5, ?c6, ?c7, ?c8, ?c9, ?cO⟩⟩
                        case c0 => exact fun h0 => c0 (h0.resolve_left (by decide))
                        case c1 => exact fun h1 => c1 (h1.resolve_left (by decide))
                        case c2 => exact fun h2 => c2 (h2.resolve_left (by decide))
                        case c3 => exact fun h3 => c3 (h3.resolve_left (by decide))
                        case c4 => exact fun h4 => c4 (h4.resolve_left (by decide))
                        case c5 => exact fun h5 => c5 (h5.resolve_left (by decide))
                        case c6 => exact fun h6 => c6 (h6.resolve_left (by decide))
                        case c7 => exact fun h7 m8 => absurd (.inl rfl) m8
                        case c8 => exact fun h8 => ⟨rfl, hA⟩
                        case c9 => exact fun h9 => c9 (h9.resolve_left (by decide))
                        case cO => exact fun m8 => absurd (.inl rfl) m8
                      · refine step_of _ [6] [(10, 7), (8, 7)] rfl (by kernel_rfl) (by kernel_rfl) ?_
                        rintro D a X hn hd hc ⟨t133, t134, t135, t136, t137, t138, t139, t140, t141, t142, g15, g16, k16, rfl, _, hrest⟩ K' hK
                        have nl : ¬ D 10 := fun h => hn (hc (10, 7) (by simp) h)
                        obtain ⟨LX, c0, c1, c2, c3, c4, c5, c6, c7, c8, c9, cO⟩ := hrest nl
                        clear hrest
                        have d6 := hd 6 (by simp)
                        have e8_7 := hc (8, 7) (by simp)
                        clear hd hc
                        have hbX : bO ≤ X.heap.size := Nat.le_trans hbM3 LX.out.1.size
                        obtain rfl := c6 d6
                        have l := al X (.cells #[.int .i64 x, .int .i64 y] 75)
                        go_simp
                        refine hK _ _ ⟨_, _, _, _, _, _, _, _, _, _, X.heap.size, g16, k16, by first | rfl | simp [Act.put], fun h => (nl (h.resolve_left (by decide))).elim, fun _ => ⟨Lib.hid ⟨lo_b LX.out.1 l hbX, (l.block bh LX.out.2.2).trans LX.out.2.1, Nat.lt_of_lt_of_le LX.out.2.2 l.size⟩, ?c0, ?c1, ?c2, ?c3, ?c4, ?c5, ?c6, ?c7, ?c8, ?c9, ?cO⟩⟩
                        case c0 => exact fun h0 => c0 (h0.resolve_left (by decide))
                        case c1 => exact fun h1 => c1 (h1.resolve_left (by decide))
                        case c2 => exact fun h2 => c2 (h2.resolve_left (by decide))
                        case c3 => exact fun h3 => c3 (h3.resolve_left (by decide))
                        case c4 => exact fun h4 => c4 (h4.resolve_left (by decide))
                        case c5 => exact fun h5 => c5 (h5.resolve_left (by decide))
                        case c6 => exact fun h6 => c6 (h6.resolve_left (by decide))
                        case c7 => exact fun h7 m8 => ⟨rfl, lit2_new X x y⟩
                        case c8 => exact fun h8 => (hn (e8_7 (h8.resolve_left (by decide)))).elim
                        case c9 => exact fun h9 => c9 (h9.resolve_left (by decide))
                        case cO => exact fun m8 => (cO (fun q => m8 (.inr q))).lo l
                      · refine step_of _ [5] [(10, 6)] rfl (by kernel_rfl) (by kernel_rfl) ?_
                        rintro D a X hn hd hc ⟨t133, t134, t135, t136, t137, t138, t139, t140, t141, t142, g15, g16, k16, rfl, _, hrest⟩ K' hK
                        have nl : ¬ D 10 := fun h => hn (hc (10, 6) (by simp) h)
                        obtain ⟨LX, c0, c1, c2, c3, c4, c5, c6, c7, c8, c9, cO⟩ := hrest nl
                        clear hrest
                        have d5 := hd 5 (by simp)
                        clear hd hc
                        obtain rfl := c5 d5
                        obtain ⟨y0, y1⟩ := CEQ.out X LX.out.1
                        go_simp
                        refine hK _ _ ⟨_, _, _, _, _, _, _, _, _, _, g15, g16, k16, by first | rfl | simp [Act.put], fun h => (nl (h.resolve_left (by decide))).elim, fun _ => ⟨LX, ?c0, ?c1, ?c2, ?c3, ?c4, ?c5, ?c6, ?c7, ?c8, ?c9, ?cO⟩⟩
                        case c0 => exact fun h0 => c0 (h0.resolve_left (by decide))
                        case c1 => exact fun h1 => c1 (h1.resolve_left (by decide))
                        case c2 => exact fun h2 => c2 (h2.resolve_left (by decide))
                        case c3 => exact fun h3 => c3 (h3.resolve_left (by decide))
                        case c4 => exact fun h4 => c4 (h4.resolve_left (by decide))
                        case c5 => exact fun h5 => c5 (h5.resolve_left (by decide))
                        case c6 => exact fun h6 => rfl
                        case c7 => exact fun h7 m8 => c7 (h7.resolve_left (by decide)) (fun q => m8 (.inr q))
                        case c8 => exact fun h8 => c8 (h8.resolve_left (by decide))
                        case c9 => exact fun h9 => c9 (h9.resolve_left (by decide))
                        case cO => exact fun m8 => cO (fun q => m8 (.inr q))
                      · refine step_of _ [3, 4] [(10, 5)] rfl (by kernel_rfl) (by kernel_rfl) ?_
                        rintro D a X hn hd hc ⟨t133, t134, t135, t136, t137, t138, t139, t140, t141, t142, g15, g16, k16, rfl, _, hrest⟩ K' hK
                        have nl : ¬ D 10 := fun h => hn (hc (10, 5) (by simp) h)
                        obtain ⟨LX, c0, c1, c2, c3, c4, c5, c6, c7, c8, c9, cO⟩ := hrest nl
                        clear hrest
                        have d3 := hd 3 (by simp)
                        have d4 := hd 4 (by simp)
                        clear hd hc
                        obtain rfl := c3 d3
                        obtain rfl := c4 d4
                        go_simp
                        refine hK _ _ ⟨_, _, _, _, _, _, _, _, _, _, g15, g16, k16, by first | rfl | simp [Act.put], fun h => (nl (h.resolve_left (by decide))).elim, fun _ => ⟨LX, ?c0, ?c1, ?c2, ?c3, ?c4, ?c5, ?c6, ?c7, ?c8, ?c9, ?cO⟩⟩
                        case c0 => exact fun h0 => c0 (h0.resolve_left (by decide))
                        case c1 => exact fun h1 => c1 (h1.resolve_left (by decide))
                        case c2 => exact fun h2 => c2 (h2.resolve_left (by decide))
                        case c3 => exact fun h3 => c3 (h3.resolve_left (by decide))
                        case c4 => exact fun h4 => c4 (h4.resolve_left (by decide))
                        case c5 => exact fun h5 => rfl
                        case c6 => exact fun h6 => c6 (h6.resolve_left (by decide))
                        case c7 => exact fun h7 m8 => c7 (h7.resolve_left (by decide)) (fun q => m8 (.inr q))
                        case c8 => exact fun h8 => c8 (h8.resolve_left (by decide))
                        case c9 => exact fun h9 => c9 (h9.resolve_left (by decide))
                        case cO => exact fun m8 => cO (fun q => m8 (.inr q))
                      · refine step_of _ [] [(10, 4)] rfl (by kernel_rfl) (by kernel_rfl) ?_
                        rintro D a X hn hd hc ⟨t133, t134, t135, t136, t137, t138, t139, t140, t141, t142, g15, g16, k16, rfl, _, hrest⟩ K' hK
                        have nl : ¬ D 10 := fun h => hn (hc (10, 4) (by simp) h)
                        obtain ⟨LX, c0, c1, c2, c3, c4, c5, c6, c7, c8, c9, cO⟩ := hrest nl
                        clear hrest
                        clear hd hc
                        go_simp
                        refine hK _ _ ⟨_, _, _, _, _, _, _, _, _, _, g15, g16, k16, by first | rfl | simp [Act.put], fun h => (nl (h.resolve_left (by decide))).elim, fun _ => ⟨LX, ?c0, ?c1, ?c2, ?c3, ?c4, ?c5, ?c6, ?c7, ?c8, ?c9, ?cO⟩⟩
                        case c0 => exact fun h0 => c0 (h0.resolve_left (by decide))
                        case c1 => exact fun h1 => c1 (h1.resolve_left (by decide))
                        case c2 => exact fun h2 => c2 (h2.resolve_left (by decide))
                        case c3 => exact fun h3 => c3 (h3.resolve_left (by decide))
                        case c4 => exact fun h4 => rfl
                        case c5 => exact fun h5 => c5 (h5.resolve_left (by decide))
                        case c6 => exact fun h6 => c6 (h6.resolve_left (by decide))
                        case c7 => exact fun h7 m8 => c7 (h7.resolve_left (by decide)) (fun q => m8 (.inr q))
                        case c8 => exact fun h8 => c8 (h8.resolve_left (by decide))
                        case c9 => exact fun h9 => c9 (h9.resolve_left (by decide))
                        case cO => exact fun m8 => cO (fun q => m8 (.inr q))
                      · refine step_of _ [2] [(10, 3)] rfl (by kernel_rfl) (by kernel_rfl) ?_
                        rintro D a X hn hd hc ⟨t133, t134, t135, t136, t137, t138, t139, t140, t141, t142, g15, g16, k16, rfl, _, hrest⟩ K' hK
                        have nl : ¬ D 10 := fun h => hn (hc (10, 3) (by simp) h)
                        obtain ⟨LX, c0, c1, c2, c3, c4, c5, c6, c7, c8, c9, cO⟩ := hrest nl
                        clear hrest
                        have d2 := hd 2 (by simp)
                        clear hd hc
                        obtain rfl := c2 d2
                        obtain ⟨_, y0, _⟩ := BXQ.out X LX.out.1
                        go_simp
                        refine hK _ _ ⟨_, _, _, _, _, _, _, _, _, _, g15, g16, k16, by first | rfl | simp [Act.put], fun h => (nl (h.resolve_left (by decide))).elim, fun _ => ⟨LX, ?c0, ?c1, ?c2, ?c3, ?c4, ?c5, ?c6, ?c7, ?c8, ?c9, ?cO⟩⟩
                        case c0 => exact fun h0 => c0 (h0.resolve_left (by decide))
                        case c1 => exact fun h1 => c1 (h1.resolve_left (by decide))
                        case c2 => exact fun h2 => c2 (h2.resolve_left (by decide))
                        case c3 => exact fun h3 => rfl
                        case c4 => exact fun h4 => c4 (h4.resolve_left (by decide))
                        case c5 => exact fun h5 => c5 (h5.resolve_left (by decide))
                        case c6 => exact fun h6 => c6 (h6.resolve_left (by decide))
                        case c7 => exact fun h7 m8 => c7 (h7.resolve_left (by decide)) (fun q => m8 (.inr q))
                        case c8 => exact fun h8 => c8 (h8.resolve_left (by decide))
                        case c9 => exact fun h9 => c9 (h9.resolve_left (by decide))
                        case cO => exact fun m8 => cO (fun q => m8 (.inr q))
                      · refine step_of _ [] [(10, 2)] rfl (by kernel_rfl) (by kernel_rfl) ?_
                        rintro D a X hn hd hc ⟨t133, t134, t135, t136, t137, t138, t139, t140, t141, t142, g15, g16, k16, rfl, _, hrest⟩ K' hK
                        have nl : ¬ D 10 := fun h => hn (hc (10, 2) (by simp) h)
                        obtain ⟨LX, c0, c1, c2, c3, c4, c5, c6, c7, c8, c9, cO⟩ := hrest nl
                        clear hrest
                        clear hd hc
                        go_simp
                        refine hK _ _ ⟨_, _, _, _, _, _, _, _, _, _, g15, g16, k16, by first | rfl | simp [Act.put], fun h => (nl (h.resolve_left (by decide))).elim, fun _ => ⟨LX, ?c0, ?c1, ?c2, ?c3, ?c4, ?c5, ?c6, ?c7, ?c8, ?c9, ?cO⟩⟩
                        case c0 => exact fun h0 => c0 (h0.resolve_left (by decide))
                        case c1 => exact fun h1 => c1 (h1.resolve_left (by decide))
                        case c2 => exact fun h2 => rfl
                        case c3 => exact fun h3 => c3 (h3.resolve_left (by decide))
                        case c4 => exact fun h4 => c4 (h4.resolve_left (by decide))
                        case c5 => exact fun h5 => c5 (h5.resolve_left (by decide))
                        case c6 => exact fun h6 => c6 (h6.resolve_left (by decide))
                        case c7 => exact fun h7 m8 => c7 (h7.resolve_left (by decide)) (fun q => m8 (.inr q))
                        case c8 => exact fun h8 => c8 (h8.resolve_left (by decide))
                        case c9 => exact fun h9 => c9 (h9.resolve_left (by decide))
                        case cO => exact fun m8 => cO (fun q => m8 (.inr q))
                      · refine step_of _ [0] [(10, 1), (8, 1)] rfl (by kernel_rfl) (by kernel_rfl) ?_
                        rintro D a X hn hd hc ⟨t133, t134, t135, t136, t137, t138, t139, t140, t141, t142, g15, g16, k16, rfl, _, hrest⟩ K' hK
                        have nl : ¬ D 10 := fun h => hn (hc (10, 1) (by simp) h)
                        obtain ⟨LX, c0, c1, c2, c3, c4, c5, c6, c7, c8, c9, cO⟩ := hrest nl
                        clear hrest
                        have d0 := hd 0 (by simp)
                        have e8_1 := hc (8, 1) (by simp)
                        clear hd hc
                        obtain rfl := c0 d0
                        obtain ⟨⟨hbx, o0, o1⟩, ofz, _, _, _⟩ := cO (fun h => hn (e8_1 h))
                        go_simp
                        refine hK _ _ ⟨_, _, _, _, _, _, _, _, _, _, g15, g16, k16, by first | rfl | simp [Act.put], fun h => (nl (h.resolve_left (by decide))).elim, fun _ => ⟨LX, ?c0, ?c1, ?c2, ?c3, ?c4, ?c5, ?c6, ?c7, ?c8, ?c9, ?cO⟩⟩
                        case c0 => exact fun h0 => c0 (h0.resolve_left (by decide))
                        case c1 => exact fun h1 => rfl
                        case c2 => exact fun h2 => c2 (h2.resolve_left (by decide))
                        case c3 => exact fun h3 => c3 (h3.resolve_left (by decide))
                        case c4 => exact fun h4 => c4 (h4.resolve_left (by decide))
                        case c5 => exact fun h5 => c5 (h5.resolve_left (by decide))
                        case c6 => exact fun h6 => c6 (h6.resolve_left (by decide))
                        case c7 => exact fun h7 m8 => c7 (h7.resolve_left (by decide)) (fun q => m8 (.inr q))
                        case c8 => exact fun h8 => c8 (h8.resolve_left (by decide))
                        case c9 => exact fun h9 => c9 (h9.resolve_left (by decide))
                        case cO => exact fun m8 => cO (fun q => m8 (.inr q))
                      · refine step_of _ [] [(10, 0)] rfl (by kernel_rfl) (by kernel_rfl) ?_
                        rintro D a X hn hd hc ⟨t133, t134, t135, t136, t137, t138, t139, t140, t141, t142, g15, g16, k16, rfl, _, hrest⟩ K' hK
                        have nl : ¬ D 10 := fun h => hn (hc (10, 0) (by simp) h)
                        obtain ⟨LX, c0, c1, c2, c3, c4, c5, c6, c7, c8, c9, cO⟩ := hrest nl
                        clear hrest
                        clear hd hc
                        go_simp
                        refine hK _ _ ⟨_, _, _, _, _, _, _, _, _, _, g15, g16, k16, by first | rfl | simp [Act.put], fun h => (nl (h.resolve_left (by decide))).elim, fun _ => ⟨LX, ?c0, ?c1, ?c2, ?c3, ?c4, ?c5, ?c6, ?c7, ?c8, ?c9, ?cO⟩⟩
                        case c0 => exact fun h0 => rfl
                        case c1 => exact fun h1 => c1 (h1.resolve_left (by decide))
                        case c2 => exact fun h2 => c2 (h2.resolve_left (by decide))
                        case c3 => exact fun h3 => c3 (h3.resolve_left (by decide))
                        case c4 => exact fun h4 => c4 (h4.resolve_left (by decide))
                        case c5 => exact fun h5 => c5 (h5.resolve_left (by decide))
                        case c6 => exact fun h6 => c6 (h6.resolve_left (by decide))
                        case c7 => exact fun h7 m8 => c7 (h7.resolve_left (by decide)) (fun q => m8 (.inr q))
                        case c8 => exact fun h8 => c8 (h8.resolve_left (by decide))
                        case c9 => exact fun h9 => c9 (h9.resolve_left (by decide))
                        case cO => exact fun m8 => cO (fun q => m8 (.inr q))
                    · rintro D a X hall ⟨t133, t134, t135, t136, t137, t138, t139, t140, t141, t142, g15, g16, k16, rfl, hfin, _⟩
                      have HFIN := Lib.hid (hfin (hall 10 (by decide)))
                      clear hfin hall
                      obtain ⟨qq, cp, HF⟩ := HFIN.out
                      clear HFIN
                      obtain ⟨z0, hz0'⟩ : ∃ z, hungR S (keptR n S) (2 * i) = z := ⟨_, rfl⟩
                      obtain ⟨z1, hz1'⟩ : ∃ z, hungR S (keptR n S) (2 * i + 1) = z := ⟨_, rfl⟩
                      rw [hz0', hz1'] at HA2
                      have n0 := NH.out.at_ 0 (by omega)
                      have n1 := NH.out.at_ 1 (by omega)
                      simp only [Nat.add_zero] at n0 n1
                      rw [hz0'] at n0
                      rw [hz1'] at n1
                      have k0 : X.cell? ⟨bh, 0, none⟩ = some (.int .i64 z0) := (World.cell?_of_block HF.out.2.2.1).trans n0
                      have k1 : X.cell? ⟨bh, 1, none⟩ = some (.int .i64 z1) := (World.cell?_of_block HF.out.2.2.1).trans n1
                      have hO := Lib.hid (HF.out.1.lo (al X (.cells #[.int .i64 z0, .int .i64 z1] 75)))
                      obtain ⟨⟨hbx, o0, o1⟩, ofz, _, _, _⟩ := HF.out.1
                      have hOr := hO.out.r2
                      rw [HL2.out] at hOr
                      have LX5 := Lib.hid (HF.out.2.1)
                      have hbhX := HF.out.2.2.2
                      clear n0 n1 hz0' hz1' HF NH
                      go_wp2_with (at_builtin; refine wpList_append_lies _ rfl _ _ 22 rfl (bO + 1) 75 i0 (.agg #[.int .i64 0, .int .i64 0]) 2 16 Try.underlying22 hi0 hz0 hz1 hz2 rfl (by decide) vb L (cellsF Y1) rfl hOr ⟨X.heap.size, 0, none⟩ 1 1 (cellsF [(z0, z1)]) rfl rfl (two_new _ _ _ _) (cellsF_one _) (by omega) (by unfold maxLen; omega) (by omega) (by simp; omega) (X.heap.size + 1) (by simp) ?_; intro g5 cap5 w5 hown5 hgrow5 hat5 hlt5; obtain ⟨⟨a0, a1⟩, a2⟩ := hO.out.app2 HL2.out hown5 hgrow5 (hat5.imp id (fun h => by rw [h]; simp)))
                      have HON := Lib.hid a2
                      have HWN := Lib.hid (show Below bO wz (w5.setCell ⟨bO, 1, none⟩ (.slice (some ⟨g5, 0, none⟩) (L + 1) cap5)) from
                        ((LX5.out.alloc (by omega) (.cells #[.int .i64 z0, .int .i64 z1] 75)).grown hgrow5 (by simp; omega) (fun q hq => by have := (hOr.lt q hq).1; omega)).setCell (p := ⟨bO, 1, none⟩) (Nat.le_refl _) _)
                      clear hown5 hgrow5 hat5 hlt5 hOr hO a2 k0 k1 o0 o1 ofz
                      go_wp2
                      go_roundw
                      case rel => exact ⟨i + 1, _, _, by omega, by go_num, by rw [HA1.out, HA2.out]; exact HON, HWN⟩
                      case measure => simp [intOf]; omega
              · rw [hk2 hin] at ci
                have HA1 := Lib.hid (kp_no hin)
                clear hk1 hk2
                go_wp2
                go_roundw
                case rel => exact ⟨i + 1, _, _, by omega, by go_num, by rw [HA1.out]; exact HO2, HL⟩
                case measure => simp [intOf]; omega
            · have hin : n = i := by omega
              subst hin
              have hge : ¬ (n : Int) < (n : Int) := by omega
              have EM : (⟨(kpT n S n).map (fun j => (avM m (2 * j), avM m (2 * j + 1))), (kpT n S n).map (fun j => (hungR S (keptR n S) (2 * j), hungR S (keptR n S) (2 * j + 1)))⟩ : MobV) = madeR n S := by unfold madeR madeAm madeHu; rw [HSA.out]; rfl
              have D := Lib.hid (l5Good_any (.agg #[va, vb]) (madeR n S) wr0 (by rw [← EM]; exact ⟨va, vb, rfl, loadRow_a2 HO2.out.r1, loadRow_a2 HO2.out.r2⟩) (madeR_small h6) (madeR_bnd BND.out h6))
              obtain ⟨aa, ac, ba, bc, hva, hvb⟩ := HO2.out.form
              generalize hlA : ((kpT n S n).map (fun j => (avM m (2 * j), avM m (2 * j + 1)))).length = lA at hva
              generalize hlB : ((kpT n S n).map (fun j => (hungR S (keptR n S) (2 * j), hungR S (keptR n S) (2 * j + 1)))).length = lB at hvb
              subst hva hvb
              clear hlA hlB
              obtain ⟨r, hr⟩ : ∃ r, goodB (madeR n S) = r := ⟨_, rfl⟩
              have HKm := Lib.hid (show keptM (madeR n S) = if r = true then madeR n S else nilM by unfold keptM; rw [hr])
              have HR0 := Lib.hid hr
              have HEM := Lib.hid EM
              rw [hr] at D
              clear hr EM
              obtain ⟨⟨_, o0, o1⟩, _, _, _, _⟩ := HO2.out
              go_wp2_with fail
              clear o0 o1
              refine D.out.mono ?_
              rintro e' wf ⟨rfl, lf⟩
              have HO3 := Lib.hid (HO2.out.lo lf)
              have L4 := Lib.hid (lo_on L2.out (lo_on L3.out lf))
              obtain ⟨_, y0, y1⟩ := BY.out.lo L4.out
              have fy : ∀ j, wf.frozen? ⟨w.heap.size + 1, j, none⟩ = false := fun j => (L4.out.frozen (p := ⟨w.heap.size + 1, j, none⟩) BY.out.1).trans (FY.out j)
              have fy0 := fy 0
              have fy1 := fy 1
              have TSn := Lib.hid (two_set wf (w.heap.size + 1) 0 (.slice none 0 0) (.slice none 0 0) y0 y1)
              have TSy := Lib.hid (two_set wf (w.heap.size + 1) 0 (.slice aa lA ac) (.slice ba lB bc) y0 y1)
              have LF := Lib.hid (fun (x y : Value) => (lo_on LW.out L4.out).setCell (p := ⟨w.heap.size + 1, 0, none⟩) (Nat.le_succ _) x |>.setCell (p := ⟨w.heap.size + 1, 1, none⟩) (Nat.le_succ _) y)
              have hwb : w.heap.size + 1 < bO := by have := L2.out.size; have := HGP.out; omega
              have n1 : (Value.slice aa lA ac).ownBlock ≠ some (w.heap.size + 1) := fun e => by have := (HO3.out.r1.lt _ e).1; omega
              have n2 : (Value.slice ba lB bc).ownBlock ≠ some (w.heap.size + 1) := fun e => by have := (HO3.out.r2.lt _ e).1; omega
              have MR := Lib.hid (show MobRow ((wf.setCell ⟨w.heap.size + 1, 0, none⟩ (.slice aa lA ac)).setCell ⟨w.heap.size + 1, 1, none⟩ (.slice ba lB bc)) (.agg #[.slice aa lA ac, .slice ba lB bc]) (madeR n S) from by
                rw [← HEM.out]
                have o := (HO3.out.far (g := w.heap.size + 1) (o := 0) (x := .slice aa lA ac) (by omega) n1 n2).far (g := w.heap.size + 1) (o := 1) (x := .slice ba lB bc) (by omega) n1 n2
                exact ⟨_, _, rfl, loadRow_a2 o.r1, loadRow_a2 o.r2⟩)
              obtain ⟨_, o0, o1⟩ := HO3.out.box
              clear lf D HO2 HO3 fy n1 n2 HL u0 u1
              cases r with
              | false =>
                go_wp2
                obtain ⟨q0, q1, _⟩ := TSn.out
                exact bodyPost_ret (v := .tuple #[.agg #[.slice none 0 0, .slice none 0 0], .bool false]) (by simp [results, Try.results55, go_sem, q0, q1]) rfl ⟨_, by rw [HR0.out], by rw [HKm.out, if_neg (by simp)]; exact mobRow_nil _, LF.out _ _⟩
              | true =>
                go_wp2
                obtain ⟨q0, q1, _⟩ := TSy.out
                exact bodyPost_ret (v := .tuple #[.agg #[.slice aa lA ac, .slice ba lB bc], .bool true]) (by simp [results, Try.results55, go_sem, q0, q1]) rfl ⟨_, by rw [HR0.out], by rw [HKm.out, if_pos trivial]; exact MR.out, LF.out _ _⟩
end
section
open Go.RowKit
set_option maxRecDepth 100000 in
set_option maxHeartbeats 1600000 in
theorem specCut_no (v : Value) (m : MobV) (z : Int) (w : World) (hv : MobRow w v m) (hs : SmallM m) (hb : BndM m) (hz : rodB m z 0 = false ∨ z = 0) :
    Calls Try.prog 55 #[v, .int .i64 z] w fun e w' => ∃ u, e = .returned (.tuple #[u, .bool false]) ∧ MobRow w' u nilM ∧ Below w.heap.size w w' := by
  have D := Lib.hid (fun w1 (l : Below w.heap.size w w1) => l5Rod_any v m z 0 w1 (hv.lo l) hs hb)
  obtain ⟨a, b, c, d, rfl⟩ := hv.form
  obtain ⟨W, hW⟩ : ∃ W, (w.alloc (.cells #[.slice a m.am.length c, .slice b m.hu.length d] 27)).alloc (.cells #[.slice none 0 0, .slice none 0 0] 27) = W := ⟨_, rfl⟩
  have LW := Lib.hid (show Below w.heap.size w W by rw [← hW]; exact ((Below.refl _ _).alloc (Nat.le_refl _) _).alloc (by simp) _)
  have BX := Lib.hid (show Box2 W w.heap.size (.slice a m.am.length c) (.slice b m.hu.length d) by rw [← hW]; exact (box2_new _ _ _ _).lo ((Below.refl _ _).alloc (Nat.le_refl _) _))
  have BY := Lib.hid (show Box2 W (w.heap.size + 1) (.slice none 0 0) (.slice none 0 0) by rw [← hW]; have := box2_new (w.alloc (.cells #[.slice a m.am.length c, .slice b m.hu.length d] 27)) (.slice none 0 0) (.slice none 0 0) 27; simpa using this)
  have FY := Lib.hid (show ∀ j, W.frozen? ⟨w.heap.size + 1, j, none⟩ = false by rw [← hW]; exact fun j => World.frozen?_alloc_at _ _ _ _ (by simp))
  have D1 := Lib.hid (D.out W LW.out)
  generalize m.am.length = n at *
  generalize m.hu.length = n2 at *
  obtain ⟨r, hr⟩ : ∃ r, rodB m z 0 = r := ⟨_, rfl⟩
  rw [hr] at D1 hz
  clear hv hs hb D hr
  obtain ⟨_, u0, u1⟩ := BX.out
  go_enter Try.func55, Try.ntmps55
  go_wp2_with fail
  clear hW u0 u1
  refine D1.out.mono ?_
  rintro e' w1 ⟨rfl, l1⟩
  have L1 := Lib.hid (lo_on LW.out l1)
  obtain ⟨by0, y0, y1⟩ := BY.out.lo l1
  have fy : ∀ j, w1.frozen? ⟨w.heap.size + 1, j, none⟩ = false := fun j => (l1.frozen (p := ⟨w.heap.size + 1, j, none⟩) BY.out.1).trans (FY.out j)
  have fy0 := fy 0
  have fy1 := fy 1
  have TS := Lib.hid (two_set w1 (w.heap.size + 1) 0 (.slice none 0 0) (.slice none 0 0) y0 y1)
  have LF := Lib.hid (L1.out.setCell (p := ⟨w.heap.size + 1, 0, none⟩) (Nat.le_succ _) (.slice none 0 0) |>.setCell (p := ⟨w.heap.size + 1, 1, none⟩) (Nat.le_succ _) (.slice none 0 0))
  clear l1 D1 fy
  cases r with
  | false =>
    clear hz
    go_wp2
    obtain ⟨q0, q1, _⟩ := TS.out
    exact bodyPost_ret (v := .tuple #[.agg #[.slice none 0 0, .slice none 0 0], .bool false]) (by simp [results, Try.results55, go_sem, q0, q1]) rfl ⟨_, rfl, mobRow_nil _, LF.out⟩
  | true =>
    obtain rfl : z = 0 := by
      rcases hz with h | h
      · cases h
      · exact h
    go_wp2
    obtain ⟨q0, q1, _⟩ := TS.out
    exact bodyPost_ret (v := .tuple #[.agg #[.slice none 0 0, .slice none 0 0], .bool false]) (by simp [results, Try.results55, go_sem, q0, q1]) rfl ⟨_, rfl, mobRow_nil _, LF.out⟩
theorem specCut_any (v : Value) (m : MobV) (z : Int) (w : World) (hv : MobRow w v m) (hs : SmallM m) (hb : BndM m) :
    Calls Try.prog 55 #[v, .int .i64 z] w fun e w' => ∃ u, e = .returned (.tuple #[u, .bool (cutGB m z)]) ∧ MobRow w' u (cutGM m z) ∧ Below w.heap.size w w' := by
  by_cases hg : goodB m = true ∧ 1 ≤ z ∧ z < (m.am.length : Int)
  · obtain ⟨h, h1, h2⟩ := hg
    have e : cutGB m z = goodB (madeR m.am.length (cutR m z.toNat (2 * m.am.length))) := by unfold cutGB; rw [h, decide_eq_true h1, decide_eq_true h2]; rfl
    have e2 : cutGM m z = keptM (madeR m.am.length (cutR m z.toNat (2 * m.am.length))) := by unfold cutGM keptM; rw [e]
    rw [e, e2]
    have := specCut_yes v m z.toNat w hv hb ((goodB_iff m).1 h) (by omega) (by omega)
    rw [Int.toNat_of_nonneg (by omega)] at this
    exact this
  · have e : cutGB m z = false := by
      unfold cutGB
      cases h : goodB m with
      | false => rfl
      | true =>
        by_cases h1 : 1 ≤ z
        · rw [decide_eq_false (show ¬ z < (m.am.length : Int) from fun x => hg ⟨h, h1, x⟩)]; simp
        · rw [decide_eq_false h1]; rfl
    have e2 : cutGM m z = nilM := by unfold cutGM; rw [e]; rfl
    rw [e, e2]
    refine specCut_no v m z w hv hs hb ?_
    by_cases hz : z = 0
    · exact .inr hz
    · refine .inl ?_
      unfold rodB
      cases h : goodB m with
      | false => rfl
      | true =>
        by_cases h0 : 0 ≤ z
        · rw [decide_eq_false (show ¬ z ≤ (m.am.length : Int) - 1 from fun x => hg ⟨h, by omega, by omega⟩)]; simp
        · rw [decide_eq_false h0]; rfl
theorem smallM_cut (m : MobV) (z : Int) : SmallM (cutGM m z) := by
  unfold cutGM
  split
  · rename_i h
    unfold cutGB at h
    simp only [Bool.and_eq_true] at h
    exact ((goodB_iff _).1 h.2).small
  · exact smallM_nil
end
end Go.Proofs.Ytnadchgekfljkaa
