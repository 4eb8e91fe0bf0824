/- The contract of the model's LeafRow. -/
import Derived.Test.YtnadchgekfljkaaMob6
namespace Go.Proofs.Ytnadchgekfljkaa
open Go.RowKit
/-- The place of rod j when the first T ends have been seen (rod 0 hangs at p). -/
def rodP (m : MobV) (p : Int) : Nat → Nat → Int
  | 0 => fun j => if j = 0 then p else 0
  | T + 1 => fun j => if hvM m T < 0 ∧ (-hvM m T).toNat = j then rodP m p T (T / 2) + (2 * ((T % 2 : Nat) : Int) - 1) * avM m T else rodP m p T j
/-- The place of end T. -/
def endP (m : MobV) (p : Int) (T : Nat) : Int := rodP m p T (T / 2) + (2 * ((T % 2 : Nat) : Int) - 1) * avM m T
def leafR (m : MobV) (p : Int) : Nat → List (Int × Int)
  | 0 => []
  | T + 1 => if hvM m T < 0 then leafR m p T else leafR m p T ++ [(endP m p T, hvM m T)]
def allP (m : MobV) (p : Int) (T : Nat) : Prop := ∀ t, t < T → hvM m t < 0 ∨ (0 ≤ endP m p t ∧ endP m p t ≤ 60)
theorem allP_succ {m : MobV} {p : Int} {T : Nat} (h : allP m p T) (h2 : hvM m T < 0 ∨ (0 ≤ endP m p T ∧ endP m p T ≤ 60)) : allP m p (T + 1) := fun t ht => by
  by_cases e : t = T
  · rw [e]; exact h2
  · exact h t (by omega)
noncomputable def leafB (m : MobV) (p : Int) : Bool := goodB m && (decide (0 ≤ p) && decide (p ≤ 60)) && propB (allP m p (2 * m.am.length))
noncomputable def leafYs (m : MobV) (p : Int) : List (Int × Int) := if leafB m p = true then leafR m p (2 * m.am.length) else []
theorem leafR_len (m : MobV) (p : Int) : ∀ T, (leafR m p T).length ≤ T := by
  intro T
  induction T with
  | zero => exact Nat.le_refl _
  | succ T ih =>
    rw [leafR]
    split
    · omega
    · rw [List.length_append]; simp; omega
theorem arm_side (e : Nat) (x : Int) (he : e < 2) (x0 : 1 ≤ x) (x1 : x ≤ 12) : -12 ≤ (2 * (e : Int) - 1) * x ∧ (2 * (e : Int) - 1) * x ≤ 12 := by
  have h : e = 0 ∨ e = 1 := by omega
  rcases h with rfl | rfl
  · simp; omega
  · simp; omega
theorem rodP_bnd {m : MobV} {p : Int} (hf : MobF m) (p0 : 0 ≤ p) (p1 : p ≤ 60) : ∀ T, T ≤ 2 * m.am.length → ∀ j, -(12 * (T : Int)) ≤ rodP m p T j ∧ rodP m p T j ≤ 60 + 12 * (T : Int) := by
  intro T
  induction T with
  | zero =>
    intro _ j
    simp only [rodP]
    split <;> omega
  | succ T ih =>
    intro hT j
    have h1 := ih (by omega)
    simp only [rodP]
    split
    · have ha := (hf.ends T (by omega)).1
      have hs := arm_side (T % 2) (avM m T) (by omega) ha.1 ha.2
      have := h1 (T / 2)
      push_cast
      push_cast at hs
      omega
    · have := h1 j
      push_cast
      omega
theorem endP_bnd {m : MobV} {p : Int} (hf : MobF m) (p0 : 0 ≤ p) (p1 : p ≤ 60) (T : Nat) (hT : T < 2 * m.am.length) : -156 ≤ endP m p T ∧ endP m p T ≤ 216 := by
  have h6 := hf.short
  have ha := (hf.ends T hT).1
  have hs := arm_side (T % 2) (avM m T) (by omega) ha.1 ha.2
  have := rodP_bnd hf p0 p1 T (by omega) (T / 2)
  unfold endP
  omega
structure PlcF (w : World) (g n : Nat) (f : Nat → Int) : Prop where
  lt : g < w.heap.size
  at_ : ∀ j, j < n → w.cell? ⟨g, j, none⟩ = some (.int .i64 (f j))
  fz : ∀ j, w.frozen? ⟨g, j, none⟩ = false
theorem PlcF.set {w : World} {g n q : Nat} {f : Nat → Int} (h : PlcF w g n f) (hq : q < n) (y : Int) : PlcF (w.setCell ⟨g, q, none⟩ (.int .i64 y)) g n (fun j => if j = q then y else f j) := by
  have s := one_set w g q (.int .i64 y) (h.at_ q hq)
  refine ⟨by simpa using h.lt, fun j hj => ?_, fun j => by rw [World.frozen?_setCell]; exact h.fz j⟩
  by_cases e : j = q
  · rw [e, s.1, if_pos rfl]
  · rw [s.2 j e, if_neg e]; exact h.at_ j hj
theorem PlcF.grown {w w' : World} {g n : Nat} {f : Nat → Int} {o : Obj} {row : Option Nat} (h : PlcF w g n f) (hg : (w.alloc o).grownBy w' row) (hne : row ≠ some g) : PlcF w' g n f := by
  have hb : w'.heap[g]? = w.heap[g]? := (hg.block g (by have := h.lt; simp; omega) (fun e => hne e.symm)).trans (Below.heap_alloc _ _ _ h.lt)
  exact ⟨by have := hg.size; have := h.lt; simp at *; omega, fun j hj => by rw [World.cell?_of_block (a := ⟨g, j, none⟩) hb]; exact h.at_ j hj, fun j => by rw [World.frozen?_of_block (a := ⟨g, j, none⟩) hb]; exact h.fz j⟩
set_option maxRecDepth 100000 in
set_option maxHeartbeats 6400000 in
theorem specLeafRow_yes (v : Value) (m : MobV) (p : Int) (w : World) (hv : MobRow w v m) (hb : BndM m) (hf : MobF m) (p0 : 0 ≤ p) (p1 : p ≤ 60) :
    Calls Try.prog 48 #[v, .int .i64 p] w fun e w' => ∃ u, e = .returned (.tuple #[u, .bool (propB (allP m p (2 * m.am.length)))]) ∧ LoadRow w' u (if propB (allP m p (2 * m.am.length)) = true then leafR m p (2 * m.am.length) else []) ∧ Below w.heap.size w w' := by
  have hg : goodB m = true := (goodB_iff m).2 hf
  have h1 := hf.one
  have h6 := hf.short
  have hs := hf.same
  have D := Lib.hid (fun w1 (l : Below w.heap.size w w1) => l5Good_any v m w1 (hv.lo l) hf.small hb)
  rw [hg] at D
  obtain ⟨av, bv, rfl, ha, hh⟩ := hv
  obtain ⟨g, off, c, rfl, hgg, hca⟩ := pair_at ha (by omega)
  obtain ⟨g', off', c', rfl, hgg', hch⟩ := pair_at hh (by omega)
  obtain ⟨n, hn⟩ : ∃ n, m.am.length = n := ⟨_, rfl⟩
  have EC := Lib.hid (fun i e (h1 : i < n) (h2 : e < 2) => end_cells hn (hs.trans hn) hca hch i e h1 h2)
  have EN := Lib.hid (fun t (ht : t < 2 * n) => show EndF m t from hf.ends t (by omega))
  have RB := Lib.hid (fun T (hT : T ≤ 2 * n) j => rodP_bnd hf p0 p1 T (by omega) j)
  have EB := Lib.hid (fun T (hT : T < 2 * n) => endP_bnd hf p0 p1 T (by omega))
  have LL := Lib.hid (leafR_len m p)
  have HYES := Lib.hid (fun (h : allP m p (2 * n)) => show propB (allP m p (2 * n)) = true from propB_yes h)
  have HNO := Lib.hid (fun t (ht : t < 2 * n) (h : ¬ (hvM m t < 0 ∨ (0 ≤ endP m p t ∧ endP m p t ≤ 60))) => show propB (allP m p (2 * n)) = false from propB_no (fun f => h (f t ht)))
  have HP := Lib.hid (fun w => l2In_is p true (by simp; omega) w)
  obtain ⟨W, hW⟩ : ∃ W, (w.alloc (.cells #[.slice (some ⟨g, off, none⟩) n c, .slice (some ⟨g', off', none⟩) n c'] 27)).alloc (.cells #[] 112) = W := ⟨_, rfl⟩
  have LW := Lib.hid (show Below w.heap.size w W by rw [← hW]; exact ((Below.refl _ _).alloc (Nat.le_refl _) _).alloc (by simp) _)
  obtain ⟨V, hV⟩ : ∃ V, w.alloc (.cells #[.slice (some ⟨g, off, none⟩) n c, .slice (some ⟨g', off', none⟩) n c'] 27) = V := ⟨_, rfl⟩
  have LV := Lib.hid (show Below w.heap.size w V by rw [← hV]; exact (Below.refl _ _).alloc (Nat.le_refl _) _)
  have VW := Lib.hid (show Below V.heap.size V W by rw [← hW, hV]; exact (Below.refl _ _).alloc (Nat.le_refl _) _)
  have BV := Lib.hid (show Box2 V w.heap.size (.slice (some ⟨g, off, none⟩) n c) (.slice (some ⟨g', off', none⟩) n c') by rw [← hV]; exact box2_new _ _ _ _)
  have HVS := Lib.hid (show V.heap.size = w.heap.size + 1 by rw [← hV]; simp)
  clear hV
  have HMN := Lib.hid hn
  have BX := Lib.hid (show Box2 W w.heap.size (.slice (some ⟨g, off, none⟩) n c) (.slice (some ⟨g', off', none⟩) n c') by rw [← hW]; exact (box2_new _ _ _ _).lo ((Below.refl _ _).alloc (Nat.le_refl _) _))
  have R0 := Lib.hid (show W.ownsRow (w.heap.size + 1) 112 2 (.slice (some ⟨w.heap.size + 1, 0, none⟩) 0 0) (leafR m p 0).length (cellsF (leafR m p 0)) by
    rw [← hW]
    have := World.ownsRow_lit (e := 112) (size := 2) (w.alloc (.cells #[.slice (some ⟨g, off, none⟩) n c, .slice (some ⟨g', off', none⟩) n c'] 27)) #[] 0 (Nat.le_refl _) (by decide) rfl
    simpa [leafR, cellsF] using this)
  have HSZ := Lib.hid (show W.heap.size = w.heap.size + 2 by rw [← hW]; simp)
  rw [hs, hn] at D
  rw [hs, hn]
  rw [hn] at h1 h6
  have HM := make_ints n (by omega)
  have D1 := Lib.hid (D.out W LW.out)
  have bx0 : w.heap.size < W.heap.size := BX.out.1
  obtain ⟨i0, hi, hz0, hz1, hz2⟩ := info_parts infoLoad
  obtain ⟨rb, hrb⟩ : ∃ r, propB (allP m p (2 * n)) = r := ⟨_, rfl⟩
  rw [hrb] at HYES HNO ⊢
  have h1' : (1 : Int) ≤ (n : Int) := by omega
  have h0' : (0 : Int) < (n : Int) := by omega
  clear ha hh hca hch hs hn hf hg D hb hrb
  obtain ⟨_, u0, u1⟩ := BX.out
  go_enter Try.func48, Try.ntmps48
  go_wp2_with fail
  clear hW u0 u1
  refine D1.out.mono ?_
  rintro eq1 w1 ⟨rfl, l1⟩
  have L1 := Lib.hid l1
  have R1 := Lib.hid (ownsRow_lo R0.out l1)
  obtain ⟨_, u0, u1⟩ := BX.out.lo l1
  clear l1 D1 R0
  go_wp2_with fail
  refine (HP.out w1).mono ?_
  rintro eq1 w2 ⟨rfl, rfl⟩
  have hw1 := L1.out.size
  obtain ⟨gp, hgp⟩ : ∃ b, w1.heap.size = b := ⟨_, rfl⟩
  obtain ⟨Z, hZ⟩ : ∃ Z, (madeCells #[.int .i64 0] n).setIfInBounds 0 (.int .i64 p) = Z := ⟨_, rfl⟩
  have PZ := Lib.hid (show PlcF (w1.alloc (.cells Z 3)) gp n (fun j => if j = 0 then p else 0) by
    rw [← hgp, ← hZ]
    refine ⟨by simp, fun j hj => ?_, fun j => World.frozen?_alloc_at _ _ _ _ rfl⟩
    have hm : (madeCells #[.int .i64 0] n)[j]? = some (.int .i64 0) := made_int _ _ hj
    rw [World.cell?_alloc_at _ _ _ _ rfl, Array.getElem?_setIfInBounds]
    by_cases e : 0 = j
    · subst e
      rw [if_pos rfl, if_pos rfl, if_pos (Array.getElem?_eq_some_iff.1 hm).1]
    · rw [if_neg e, if_neg (Ne.symm e)]
      exact hm)
  have L2 := Lib.hid (show Below V.heap.size V (w1.alloc (.cells Z 3)) from (lo_on VW.out L1.out).alloc (Nat.le_trans VW.out.size hw1) _)
  have hgv : V.heap.size ≤ gp := by have := VW.out.size; omega
  have R2 := Lib.hid (show (w1.alloc (.cells Z 3)).ownsRow (w.heap.size + 1) 112 2 (.slice (some ⟨w.heap.size + 1, 0, none⟩) 0 0) (leafR m p 0).length (cellsF (leafR m p 0)) from R1.out.alloc _)
  have c00 : (w1.alloc (.cells (madeCells #[.int .i64 0] n) 3)).cell? ⟨gp, 0, none⟩ = some (.int .i64 0) := by rw [← hgp, World.cell?_alloc_at _ _ _ _ rfl]; exact made_int _ _ (by omega)
  have f00 : (w1.alloc (.cells (madeCells #[.int .i64 0] n) 3)).frozen? ⟨gp, 0, none⟩ = false := by rw [← hgp]; exact World.frozen?_alloc_at _ _ _ _ rfl
  have hgw : W.heap.size ≤ gp := by omega
  have HGP := Lib.hid hgp
  clear R1
  go_wp2
  try rw [hZ]
  clear hZ
  clear u0 u1 c00 f00
  go_loopw [6, 8] (fun t x wr => ∃ k : Nat, k ≤ n ∧ x = .int .i64 k ∧ Hid (wr.ownsRow (w.heap.size + 1) 112 2 t (leafR m p (2 * k)).length (cellsF (leafR m p (2 * k)))) ∧ Hid (t.ownBlock ≠ some gp) ∧ Hid (PlcF wr gp n (rodP m p (2 * k))) ∧ Hid (allP m p (2 * k)) ∧ Hid (Below V.heap.size V wr)) (fun _ x _ => n - (intOf x).toNat)
  case atStart => exact ⟨0, Nat.zero_le _, rfl, R2, Lib.hid (fun e => by have e2 : w.heap.size + 1 = gp := Option.some.inj e; have := HSZ.out; omega), PZ, Lib.hid (fun t h => by omega), L2⟩
  case round =>
    obtain ⟨k, hk, rfl, HR, HO, HC, HA, HL⟩ := hrel
    obtain ⟨wq, rfl⟩ : ∃ wq : World, wq = wr := ⟨_, rfl⟩
    clear R2 PZ L2
    obtain ⟨_, u0, u1⟩ := BV.out.lo HL.out
    by_cases hlt : k < n
    · have hlt' : (k : Int) < (n : Int) := by omega
      go_wp2
      go_loopw [6, 9] (fun t x wr => ∃ e : Nat, e ≤ 2 ∧ x = .int .i64 e ∧ Hid (wr.ownsRow (w.heap.size + 1) 112 2 t (leafR m p (2 * k + e)).length (cellsF (leafR m p (2 * k + e)))) ∧ Hid (t.ownBlock ≠ some gp) ∧ Hid (PlcF wr gp n (rodP m p (2 * k + e))) ∧ Hid (allP m p (2 * k + e)) ∧ Hid (Below V.heap.size V wr)) (fun _ x _ => 2 - (intOf x).toNat)
      case atStart => exact ⟨0, Nat.zero_le _, rfl, HR, HO, HC, HA, HL⟩
      case round =>
        obtain ⟨e, he, rfl, HRe, HOe, HCe, HAe, HLe⟩ := hrel
        obtain ⟨wx, rfl⟩ : ∃ wx : World, wx = wr := ⟨_, rfl⟩
        clear HR HO HC HA
        by_cases hel : e < 2
        · have hel' : (e : Int) < 2 := by omega
          have hkn : ((k : Nat) : Int) < (n : Int) := hlt'
          clear u0 u1
          obtain ⟨_, u0, u1⟩ := BV.out.lo HLe.out
          have LX := LV.out.trans (HLe.out.mono LV.out.size)
          obtain ⟨e1, e2⟩ := EC.out k e hlt hel
          rw [← LX.cell (p := ⟨g, off + k * 2 + e, none⟩) hgg] at e1
          rw [← LX.cell (p := ⟨g', off' + k * 2 + e, none⟩) hgg'] at e2
          obtain ⟨t, ht⟩ : ∃ t, 2 * k + e = t := ⟨_, rfl⟩
          rw [ht] at HRe e1 e2 HCe HAe
          have HT := Lib.hid ht
          have ht12 : t < 12 := by omega
          have htn : t < 2 * n := by omega
          have hrb := RB.out t (by omega) k
          have heb := EB.out t htn
          have hen := EN.out t htn
          unfold EndF at hen
          have hll := LL.out t
          have hep : endP m p t = rodP m p t k + (2 * (e : Int) - 1) * avM m t := by unfold endP; rw [show t / 2 = k by omega, show t % 2 = e by omega]
          have hrs : ∀ j, rodP m p (t + 1) j = if hvM m t < 0 ∧ (-hvM m t).toNat = j then endP m p t else rodP m p t j := fun j => by rw [rodP]; rfl
          have hls : leafR m p (t + 1) = if hvM m t < 0 then leafR m p t else leafR m p t ++ [(endP m p t, hvM m t)] := by rw [leafR]
          have HAS := Lib.hid (fun (h : hvM m t < 0 ∨ (0 ≤ endP m p t ∧ endP m p t ≤ 60)) => allP_succ HAe.out h)
          have HNt := Lib.hid (HNO.out t htn)
          have ck := HCe.out.at_ k hlt
          obtain ⟨h, hh⟩ : ∃ h, hvM m t = h := ⟨_, rfl⟩
          obtain ⟨x, hx⟩ : ∃ x, avM m t = x := ⟨_, rfl⟩
          obtain ⟨r, hr⟩ : ∃ x, rodP m p t k = x := ⟨_, rfl⟩
          obtain ⟨y, hy⟩ : ∃ x, endP m p t = x := ⟨_, rfl⟩
          have has := arm_side e x hel (by omega) (by omega)
          rw [hh, hx] at hen
          rw [hh, hy] at hrs hls HAS HNt
          rw [hh] at e2
          rw [hx] at e1
          rw [hr] at ck hrb
          rw [hy] at heb
          rw [hy, hr, hx] at hep
          obtain ⟨d, hd⟩ : ∃ d, 2 * (e : Int) = d := ⟨_, rfl⟩
          have hm1 : IntKind.i64.wrap (2 * (e : Int)) = d := (wrap_mid (2 * (e : Int)) (by omega) (by omega)).trans hd
          rw [hd] at has hep
          obtain ⟨s, hs⟩ : ∃ s, d - 1 = s := ⟨_, rfl⟩
          have hm2 : IntKind.i64.wrap (d - 1) = s := (wrap_mid (d - 1) (by omega) (by omega)).trans hs
          rw [hs] at has hep
          obtain ⟨z, hz⟩ : ∃ z, s * x = z := ⟨_, rfl⟩
          rw [hz] at has hep
          have hm3 : IntKind.i64.wrap (s * x) = z := (wrap_mid (s * x) (by omega) (by omega)).trans hz
          have hm4 : IntKind.i64.wrap (r + z) = y := (wrap_mid (r + z) (by omega) (by omega)).trans hep.symm
          obtain ⟨X, hX⟩ : ∃ X, leafR m p t = X := ⟨_, rfl⟩
          rw [hX] at HRe hls hll
          obtain ⟨L, hL⟩ : ∃ L, X.length = L := ⟨_, rfl⟩
          rw [hL] at HRe hll
          have HLN := Lib.hid hL
          obtain ⟨f, hf⟩ : ∃ f, rodP m p t = f := ⟨_, rfl⟩
          rw [hf] at HCe hrs
          have HRS := Lib.hid hrs
          have HLS := Lib.hid hls
          obtain ⟨ta, tc, htv⟩ := own_slice HRe.out
          subst htv
          have hwx := HLe.out.size
          have hgpx := HCe.out.lt
          clear LX hh ht hX hL hx hr hy hd hs hz hep hf hrs hls
          go_wp2
          go_region_held3 (fun w' => w'.cell? ⟨w.heap.size, 0, none⟩ = some (.slice (some ⟨g, off, none⟩) n c) ∧ w'.cell? ⟨g, off + k * 2 + e, none⟩ = some (.int .i64 x) ∧ w'.cell? ⟨gp, k, none⟩ = some (.int .i64 r))
            (first | exact ⟨u0, e1, ck⟩ | go_keep)
            (first | (fail))
          obtain ⟨wd, hwd⟩ : ∃ wd, wx.drew = wd := ⟨_, rfl⟩
          have HRd := Lib.hid (show wd.ownsRow (w.heap.size + 1) 112 2 (.slice ta L tc) L (cellsF X) by rw [← hwd]; exact ownsRow_lo HRe.out (drew_below wx))
          have HCd := Lib.hid (show PlcF wd gp n f by rw [← hwd]; exact ⟨HCe.out.lt, HCe.out.at_, HCe.out.fz⟩)
          have HLd := Lib.hid (show Below V.heap.size V wd by rw [← hwd]; exact lo_on HLe.out (drew_below wx))
          have u0' : wd.cell? ⟨w.heap.size, 0, none⟩ = some (.slice (some ⟨g, off, none⟩) n c) := by rw [← hwd]; exact u0
          have u1' : wd.cell? ⟨w.heap.size, 1, none⟩ = some (.slice (some ⟨g', off', none⟩) n c') := by rw [← hwd]; exact u1
          have e2' : wd.cell? ⟨g', off' + k * 2 + e, none⟩ = some (.int .i64 h) := by rw [← hwd]; exact e2
          have hwx2 : V.heap.size ≤ wd.heap.size := by rw [← hwd]; exact hwx
          rw [hwd]
          clear u0 u1 e1 e2 ck HRe HCe HLe hwd hwx hgpx
          have hlx := HLd.out.size
          by_cases hneg : h < 0
          · obtain ⟨q, hq⟩ : ∃ q, (-h).toNat = q := ⟨_, rfl⟩
            have hml : m.am.length = n := HMN.out
            have hqw : IntKind.i64.wrap (-h) = (q : Int) := (wrap_mid (-h) (by omega) (by omega)).trans (by omega)
            have hqn : q < n := by omega
            have hqn' : (q : Int) < (n : Int) := by omega
            have hq0 : (0 : Int) ≤ (q : Int) := by omega
            have cq := HCd.out.at_ q hqn
            have fq := HCd.out.fz q
            have HPN := Lib.hid (show PlcF (wd.setCell ⟨gp, q, none⟩ (.int .i64 y)) gp n (rodP m p (t + 1)) from by
              have P := HCd.out.set hqn y
              refine ⟨P.lt, fun j hj => ?_, P.fz⟩
              rw [HRS.out j, P.at_ j hj, hq]
              by_cases e : j = q
              · rw [if_pos e, if_pos ⟨hneg, e.symm⟩]
              · rw [if_neg e, if_neg (fun h => e h.2.symm)])
            have HRN := Lib.hid (show (wd.setCell ⟨gp, q, none⟩ (.int .i64 y)).ownsRow (w.heap.size + 1) 112 2 (.slice ta L tc) (leafR m p (t + 1)).length (cellsF (leafR m p (t + 1))) by rw [HLS.out, if_pos hneg, HLN.out]; exact ownsRow_set HRd.out gp q _ HOe.out)
            have HAN := Lib.hid (HAS.out (.inl hneg))
            have HLN2 := Lib.hid (HLd.out.setCell (p := ⟨gp, q, none⟩) hgv (.int .i64 y))
            clear hq hml
            go_wp2
            go_roundw
            case rel => exact ⟨e + 1, by omega, by go_num, by rw [show 2 * k + (e + 1) = t + 1 by have := HT.out; omega]; exact HRN, HOe, by rw [show 2 * k + (e + 1) = t + 1 by have := HT.out; omega]; exact HPN, by rw [show 2 * k + (e + 1) = t + 1 by have := HT.out; omega]; exact HAN, HLN2⟩
            case measure => simp [intOf]; omega
          · have hpos : 1 ≤ h := by omega
            have HPN := Lib.hid (show PlcF wd gp n (rodP m p (t + 1)) from ⟨HCd.out.lt, fun j hj => by rw [HRS.out j, if_neg (fun h => hneg h.1)]; exact HCd.out.at_ j hj, HCd.out.fz⟩)
            by_cases hin : 0 ≤ y ∧ y ≤ 60
            · have HI := Lib.hid (fun w => l2In_is y true (by simp; omega) w)
              have HAN := Lib.hid (HAS.out (.inr hin))
              have hL12 : L ≤ 12 := by omega
              have hbs : w.heap.size + 1 ≤ wd.heap.size := by have := HVS.out; omega
              clear HAS HNt hll
              go_wp2_with fail
              refine (HI.out _).mono ?_
              rintro eq2 w9 ⟨rfl, rfl⟩
              go_wp2_with (at_builtin; refine wpList_append_lies _ rfl _ _ 47 rfl (w.heap.size + 1) 112 i0 (.agg #[.int .i64 0, .int .i64 0]) 2 16 Try.underlying47 hi hz0 hz1 hz2 rfl (by decide) (.slice ta L tc) L (cellsF X) rfl (HRd.out.alloc _) ⟨wd.heap.size, 0, none⟩ 1 1 [.int .i64 y, .int .i64 h] rfl rfl (World.news_of_block (cs := #[.int .i64 y, .int .i64 h]) (t := 112) (fr := (0, 0)) (heap_alloc_new wd _)) (by simp [Value.oneCell']) (by omega) (by unfold maxLen; omega) (by omega) (by simp; omega) (wd.heap.size + 1) (by simp) ?_; intro g7 cap7 w7 hown7 hgrow7 hat7 hlt7)
              have HRN := Lib.hid (show w7.ownsRow (w.heap.size + 1) 112 2 (.slice (some ⟨g7, 0, none⟩) (L + 1) cap7) (leafR m p (t + 1)).length (cellsF (leafR m p (t + 1))) by rw [HLS.out, if_neg (show ¬ h < 0 by omega), cellsF_app, List.length_append, HLN.out]; exact hown7)
              have HPN2 := Lib.hid (HPN.out.grown hgrow7 HOe.out)
              have HON := Lib.hid (show (Value.slice (some ⟨g7, 0, none⟩) (L + 1) cap7).ownBlock ≠ some gp from fun e => by
                have e7 : g7 = gp := Option.some.inj e
                have := HCd.out.lt
                rcases hat7 with h | h
                · exact HOe.out (by rw [h, e7])
                · omega)
              have HB := Lib.hid (show Below V.heap.size V w7 from (HLd.out.alloc hlx _).grown hgrow7 (by simp; omega) (fun q hq => by have := (HRd.out.lt q hq).1; have := HVS.out; omega))
              clear hown7 hgrow7 hat7
              go_wp2
              go_roundw
              case rel => exact ⟨e + 1, by omega, by go_num, by rw [show 2 * k + (e + 1) = t + 1 by have := HT.out; omega]; exact HRN, HON, by rw [show 2 * k + (e + 1) = t + 1 by have := HT.out; omega]; exact HPN2, by rw [show 2 * k + (e + 1) = t + 1 by have := HT.out; omega]; exact HAN, HB⟩
              case measure => simp [intOf]; omega
            · have HI := Lib.hid (fun w => l2In_is y false (by simp; omega) w)
              have hrf := HNt.out (by omega)
              subst hrf
              have LF := Lib.hid ((LV.out.trans (HLd.out.mono LV.out.size)).alloc (by have := LV.out.size; omega) (.cells #[] 112))
              clear HAS HNt hll
              go_wp2_with fail
              refine (HI.out _).mono ?_
              rintro eq2 w9 ⟨rfl, rfl⟩
              go_wp2
              go_ret2
              exact ⟨_, rfl, loadRow_nil _ _ _, LF.out⟩
        · obtain rfl : e = 2 := by omega
          clear u0 u1
          go_wp2
          go_roundw
          case rel => exact ⟨k + 1, by omega, by go_num, by rw [show 2 * (k + 1) = 2 * k + 2 by omega]; exact HRe, HOe, by rw [show 2 * (k + 1) = 2 * k + 2 by omega]; exact HCe, by rw [show 2 * (k + 1) = 2 * k + 2 by omega]; exact HAe, HLe⟩
          case measure => simp [intOf]; omega
    · obtain rfl : k = n := by omega
      have hge : ¬ (k : Int) < (k : Int) := by omega
      have LF := Lib.hid (LV.out.trans (HL.out.mono LV.out.size))
      have hrt := HYES.out HA.out
      subst hrt
      have RL := Lib.hid (loadRow_own (B := w.heap.size + 1) (show OwnL wq (w.heap.size + 1) u6 (leafR m p (2 * k)) from HR.out))
      clear HYES HNO LL
      go_wp2
      go_ret2
      exact ⟨_, rfl, RL.out, LF.out⟩
end Go.Proofs.Ytnadchgekfljkaa
