/- The contract of the program's CutRod. -/
import Derived.Test.YtnadchgekfljkaaMobO
import Derived.Test.YtnadchgekfljkaaRod2
import Derived.Deep.RegionHeld3
namespace Go.Proofs.Ytnadchgekfljkaa
section
open Go.RowKit
/-- The rods when the first T ends have been looked at: where rod q hung, its weight hangs. -/
def cutR (m : MobV) (q T : Nat) : RodF := ⟨(rodF m).ar, fun t => if t < T ∧ (rodF m).be t = q then wtM m q else (rodF m).le t, fun t => if t < T ∧ (rodF m).be t = q then 0 else (rodF m).be t⟩
theorem cutR_same {m : MobV} {q T : Nat} (h : (rodF m).be T ≠ q) : cutR m q (T + 1) = cutR m q T := by
  have e : ∀ t, (t < T + 1 ∧ (rodF m).be t = q) ↔ (t < T ∧ (rodF m).be t = q) := fun t => by
    constructor
    · rintro ⟨a, b⟩
      refine ⟨?_, b⟩
      by_cases e : t = T
      · subst e; exact absurd b h
      · omega
    · rintro ⟨a, b⟩; exact ⟨by omega, b⟩
  unfold cutR
  simp only [e]
theorem cutR_ge (m : MobV) (q T t : Nat) (h : T ≤ t) : (cutR m q T).be t = (rodF m).be t ∧ (cutR m q T).le t = (rodF m).le t := by
  unfold cutR
  simp only
  rw [if_neg (by omega), if_neg (by omega)]
  exact ⟨rfl, rfl⟩
theorem wtR_cut {m : MobV} (hf : MobF m) (q T : Nat) (hq : q < m.am.length) (h0 : q ≠ 0) : WtR m.am.length (cutR m q T) (wtM m) where
  down := fun t ht h => by
    unfold cutR at h ⊢
    simp only at h ⊢
    by_cases hc : t < T ∧ (rodF m).be t = q
    · rw [if_pos hc] at h; exact absurd rfl h
    · rw [if_neg hc] at h ⊢; exact (wtR_rodF hf).down t ht h
  eq := fun i hi => by
    have at_eq : ∀ t, atR (cutR m q T) (wtM m) t = atR (rodF m) (wtM m) t := fun t => by
      unfold atR cutR
      simp only
      by_cases hc : t < T ∧ (rodF m).be t = q
      · rw [if_pos hc, if_pos rfl, if_pos hc, if_neg (by rw [hc.2]; exact h0), hc.2]
      · rw [if_neg hc, if_neg hc]
    rw [at_eq, at_eq]
    exact (wtR_rodF hf).eq i hi
  small := (wtR_rodF hf).small
  leaf := fun t ht => by
    unfold cutR
    simp only
    split
    · exact (wtR_rodF hf).small q hq
    · exact (wtR_rodF hf).leaf t ht
theorem treeR_cut {m : MobV} (hf : MobF m) (q T : Nat) (hq : q < m.am.length) (h0 : q ≠ 0) : TreeR m.am.length (cutR m q T) where
  down := (wtR_cut hf q T hq h0).down
  once := fun t u ht hu he h => by
    have e : ∀ s, (cutR m q T).be s ≠ 0 → (cutR m q T).be s = (rodF m).be s := fun s hs => by
      unfold cutR at hs ⊢
      simp only at hs ⊢
      by_cases hc : s < T ∧ (rodF m).be s = q
      · rw [if_pos hc] at hs; exact absurd rfl hs
      · rw [if_neg hc]
    have h2 : (cutR m q T).be u ≠ 0 := by rw [← he]; exact h
    have e1 := e t h
    have e2 := e u h2
    exact (treeR_rodF hf).once t u ht hu (by rw [← e1, ← e2]; exact he) (by rw [← e1]; exact h)
theorem bndR_cut {m : MobV} (hf : MobF m) (q T : Nat) (hq : q < m.am.length) (h0 : q ≠ 0) : BndR m.am.length (cutR m q T) :=
  ⟨fun t ht => by show _ ≤ avM m t ∧ avM m t ≤ _; have := (hf.ends t ht).1; omega, fun t ht => by have := (wtR_cut hf q T hq h0).leaf t ht; omega⟩
theorem RodSt.cut {w0 w : World} {g n i e q : Nat} {b : Nat → Nat} {m : MobV} (h : RodSt w0 w w0.heap.size g n b (cutR m q (2 * i + e))) (hi : i < n) (he : e < 2) (hbe : (rodF m).be (2 * i + e) = q) (z : Int) (hz : wtM m q = z) :
    RodSt w0 ((w.setCell ⟨b i, 3 + e, none⟩ (.int .i64 z)).setCell ⟨b i, 5 + e, none⟩ (.pointer none)) w0.heap.size g n b (cutR m q (2 * i + e + 1)) := by
  subst hz
  have ho : Only (b i) w ((w.setCell ⟨b i, 3 + e, none⟩ (.int .i64 (wtM m q))).setCell ⟨b i, 5 + e, none⟩ (.pointer none)) := (only_set w (b i) (3 + e) _).trans (only_set _ (b i) (5 + e) _)
  have hr := h.rods.rod i (by omega) hi
  have hb := h.rods.far i (by omega) hi
  have hs := (hr.set_leaf e he (wtM m q)).set_below e he 0
  rw [ptrR_none _ rfl] at hs
  have st : ∀ t, t ≠ 2 * i + e → ((cutR m q (2 * i + e)).le t = (cutR m q (2 * i + e + 1)).le t ∧ (cutR m q (2 * i + e)).be t = (cutR m q (2 * i + e + 1)).be t) := fun t ht => by
    have ee : (t < 2 * i + e + 1 ∧ (rodF m).be t = q) ↔ (t < 2 * i + e ∧ (rodF m).be t = q) := ⟨fun h => ⟨by omega, h.2⟩, fun h => ⟨by omega, h.2⟩⟩
    unfold cutR
    simp only [ee]
    exact ⟨trivial, trivial⟩
  have sp : (cutR m q (2 * i + e + 1)).le (2 * i + e) = wtM m q ∧ (cutR m q (2 * i + e + 1)).be (2 * i + e) = 0 := by
    unfold cutR
    simp only
    rw [if_pos ⟨by omega, hbe⟩, if_pos ⟨by omega, hbe⟩]
    exact ⟨rfl, rfl⟩
  refine ⟨h.rods.one hi ho (hs.congr (fun _ _ => rfl) (fun e2 he2 => ?_) (fun e2 he2 => ?_)) (fun i2 e2 hi2 he2 hne => ⟨rfl, (st _ (by omega)).1, (st _ (by omega)).2⟩), fun j hj => (ho.cell (p := ⟨g, j, none⟩) (fun e => h.ap i hi e.symm) h.gl).trans (h.row j hj), Nat.lt_of_lt_of_le h.gl ho.size, h.ap, h.lo.trans ((ho.below (by have := hr.lt; omega)).mono hb)⟩
  · show (if e2 = e then wtM m q else (cutR m q (2 * i + e)).le (2 * i + e2)) = (cutR m q (2 * i + e + 1)).le (2 * i + e2)
    by_cases h2 : e2 = e
    · rw [if_pos h2, h2, sp.1]
    · rw [if_neg h2]; exact (st _ (by omega)).1
  · show ptrR b (if e2 = e then 0 else (cutR m q (2 * i + e)).be (2 * i + e2)) = ptrR b ((cutR m q (2 * i + e + 1)).be (2 * i + e2))
    by_cases h2 : e2 = e
    · rw [if_pos h2, h2, sp.2]
    · rw [if_neg h2, (st _ (by omega)).2]
end
section
open Go.RowKit
set_option maxRecDepth 100000 in
set_option maxHeartbeats 6400000 in
theorem cut_yes (v : Value) (m : MobV) (q : Nat) (w : World) (hv : MobRow w v m) (hb : BndM m) (hf : MobF m) (hq : q < m.am.length) (hq0 : 1 ≤ q) :
    Calls Try.prog 56 #[v, .int .i64 (q : Int)] w fun e w' => ∃ u, e = .returned (.tuple #[u, .bool (goodB (madeR m.am.length (cutR m q (2 * m.am.length))))]) ∧ MineMb w' w.heap.size w'.heap.size u (keptM (madeR m.am.length (cutR m q (2 * m.am.length)))) ∧ Below w.heap.size w w' := by
  have h1 := hf.one
  have h6 := hf.short
  have RO := Lib.hid (fun w1 (l : Below w.heap.size w w1) => rodsOf_yes v m w1 (hv.lo l) hb hf)
  obtain ⟨Q, hQ⟩ : ∃ Q, madeR m.am.length (cutR m q (2 * m.am.length)) = Q := ⟨_, rfl⟩
  have MO := Lib.hid (fun (B : Nat) (b : Nat → Nat) (w1 : World) (H : RodsIn w1 B 0 m.am.length b (fun i => (i : Int)) (cutR m q (2 * m.am.length))) (hB : B ≤ w1.heap.size) => hQ ▸ mobileOf_any m.am.length B b (cutR m q (2 * m.am.length)) w1 h1 h6 (treeR_cut hf q _ hq (by omega)) (bndR_cut hf q _ hq (by omega)) H hB)
  have KW := Lib.hid (fun T => wtR_cut hf q T hq (by omega))
  have HDN := Lib.hid (fun t (ht : t < 2 * m.am.length) (h : (rodF m).be t ≠ 0) => ((wtR_rodF hf).down t ht h).2)
  rw [hQ]
  obtain ⟨n, hn⟩ : ∃ n, m.am.length = n := ⟨_, rfl⟩
  obtain ⟨a, c, a', c', rfl⟩ := hv.form
  obtain ⟨lb, hlb⟩ : ∃ lb, m.hu.length = lb := ⟨_, rfl⟩
  rw [hn, hlb] at RO ⊢
  rw [hn] at h1 h6 hq KW HDN MO
  obtain ⟨W, hW⟩ : ∃ W, (w.alloc (.cells #[.slice a n a', .slice c lb c'] 27)).alloc (.cells #[.slice none 0 0, .slice none 0 0] 27) = W := ⟨_, rfl⟩
  have LW := Lib.hid (show Below w.heap.size w W by rw [← hW]; exact ((Below.refl _ _).alloc (Nat.le_refl _) _).alloc (by simp) _)
  have BX := Lib.hid (show Box2 W w.heap.size (.slice a n a') (.slice c lb c') by rw [← hW]; exact (box2_new _ _ _ _).lo ((Below.refl _ _).alloc (Nat.le_refl _) _))
  have BY := Lib.hid (show Box2 W (w.heap.size + 1) (.slice none 0 0) (.slice none 0 0) by rw [← hW]; have := box2_new (w.alloc (.cells #[.slice a n a', .slice c lb c'] 27)) (.slice none 0 0) (.slice none 0 0) 27; simpa using this)
  have FY := Lib.hid (show ∀ j, W.frozen? ⟨w.heap.size + 1, j, none⟩ = false by rw [← hW]; exact fun j => World.frozen?_alloc_at _ _ _ _ (by simp))
  have R1 := Lib.hid (RO.out W LW.out)
  have hqa : ¬ (q : Int) < 1 := by omega
  have hqb : ¬ (n : Int) ≤ (q : Int) := by omega
  clear RO hv hb hf hlb hn hQ
  obtain ⟨_, u0, u1⟩ := BX.out
  go_enter Try.func56, Try.ntmps56
  go_wp2_with fail
  clear hW u0 u1
  refine R1.out.mono ?_
  rintro e w1 ⟨g, b, rfl, hr, hg, l1⟩
  have S0 := Lib.hid (RodSt.of hr l1)
  clear hr l1 R1
  have M0 := Lib.hid (show RodSt W w1 W.heap.size g n b (cutR m q (2 * 0)) from ⟨S0.out.rods.same (fun t _ => rfl) (fun t _ => ((cutR_ge m q 0 t (Nat.zero_le _)).2).symm) (fun t _ => ((cutR_ge m q 0 t (Nat.zero_le _)).1).symm), S0.out.row, S0.out.gl, S0.out.ap, S0.out.lo⟩)
  clear S0
  go_wp2
  have hB1 : decide ((q : Int) < 1) = false := decide_eq_false (by omega)
  have hB2 : decide (n ≤ q) = false := decide_eq_false (by omega)
  simp only [hB1, hB2, Bool.or_self]
  clear hB1 hB2
  go_loopw [32] (fun x wr => ∃ k : Nat, k ≤ n ∧ x = .int .i64 k ∧ Hid (RodSt W wr W.heap.size g n b (cutR m q (2 * k)))) (fun x _ => n - (intOf x).toNat)
  case atStart => exact ⟨0, Nat.zero_le _, rfl, M0⟩
  case round =>
    obtain ⟨k, hk, rfl, HS⟩ := hrel
    obtain ⟨wq, rfl⟩ : ∃ wq : World, wq = wr := ⟨_, rfl⟩
    clear M0
    by_cases hlt : k < n
    · have hlt' : (k : Int) < (n : Int) := by omega
      have cr := HS.out.row k hlt
      have hgl := HS.out.gl
      have c5 : wq.cell? ⟨b k, 5, none⟩ = some (ptrR b ((rodF m).be (2 * k))) := by
        have h := (HS.out.rods.rod k (by omega) hlt).below 0 (by omega)
        simp only [Nat.add_zero] at h
        rw [(cutR_ge m q (2 * k) (2 * k) (Nat.le_refl _)).1] at h
        exact h
      have c6 : wq.cell? ⟨b k, 6, none⟩ = some (ptrR b ((rodF m).be (2 * k + 1))) := by
        have h := (HS.out.rods.rod k (by omega) hlt).below 1 (by omega)
        rw [(cutR_ge m q (2 * k) (2 * k + 1) (by omega)).1] at h
        exact h
      have HIX := Lib.hid (fun e (he : e < 2) w => index_ptr (ptrR b ((rodF m).be (2 * k))) (ptrR b ((rodF m).be (2 * k + 1))) (ptrR b ((rodF m).be (2 * k + e))) e he (by
        rcases (show e = 0 ∨ e = 1 by omega) with rfl | rfl
        · rfl
        · rfl) w)
      generalize ptrR b ((rodF m).be (2 * k)) = p0 at *
      generalize ptrR b ((rodF m).be (2 * k + 1)) = p1 at *
      go_wp2
      clear cr c5 c6 hgl
      go_loopw [40] (fun x wr => ∃ e : Nat, e ≤ 2 ∧ x = .int .i64 e ∧ Hid (RodSt W wr W.heap.size g n b (cutR m q (2 * k + e)))) (fun x _ => 2 - (intOf x).toNat)
      case atStart => exact ⟨0, Nat.zero_le _, rfl, HS⟩
      case round =>
        obtain ⟨e, he, rfl, HE⟩ := hrel
        obtain ⟨wx, rfl⟩ : ∃ wx : World, wx = wr := ⟨_, rfl⟩
        clear HS
        by_cases hel : e < 2
        · have hel' : (e : Int) < 2 := by omega
          have hix := HIX.out e hel wx
          by_cases h0 : (rodF m).be (2 * k + e) = 0
          · have HNN := Lib.hid (show RodSt W wx W.heap.size g n b (cutR m q (2 * k + (e + 1))) by rw [← Nat.add_assoc, cutR_same (by rw [h0]; omega)]; exact HE.out)
            rw [ptrR_none _ h0] at hix
            clear h0 HE
            go_wp2
            go_roundw
            case rel => exact ⟨e + 1, by omega, by go_num, HNN⟩
            case measure => simp [intOf]; omega
          · have hrn := HDN.out (2 * k + e) (by omega) h0
            rw [ptrR_some _ h0] at hix
            obtain ⟨r, hr⟩ : ∃ r, (rodF m).be (2 * k + e) = r := ⟨_, rfl⟩
            have cn : wx.cell? ⟨b r, 0, none⟩ = some (.int .i64 (r : Int)) := (HE.out.rods.rod r (by omega) (by rw [← hr]; exact hrn)).num
            by_cases hrq : r = q
            · rw [hrq] at hr cn
              have hqq : (q : Int) = (q : Int) := rfl
              have hcut := Lib.hid (fun w' (H : RodSt W w' W.heap.size g n b (cutR m q (2 * k + e))) z hz => H.cut hlt hel hr z hz)
              have rk := HE.out.rods.rod k (by omega) hlt
              have k3 := rk.leaf e hel
              have k5 := rk.below e hel
              have f3 := rk.fz (3 + e)
              have f5 := rk.fz (5 + e)
              have WG := Lib.hid (fun w' (H : RodSt W w' W.heap.size g n b (cutR m q (2 * k + e))) => weight_any (KW.out (2 * k + e)) q w' hq H.rods)
              rw [hr] at hix hrn
              obtain ⟨z, hz⟩ : ∃ z, wtM m q = z := ⟨_, rfl⟩
              rw [hz] at WG
              generalize (cutR m q (2 * k + e)).le (2 * k + e) = x3 at k3
              generalize ptrR b ((cutR m q (2 * k + e)).be (2 * k + e)) = x5 at k5
              clear hr rk h0 hrq hrn
              go_wp2
              go_region_held3 (fun _ => True)
                (exact trivial)
                (first
                  | (go_at_call 82; refine (WG.out _ (HE.out.far (drew_below wx))).mono ?_; rintro e5 v5 ⟨rfl, d5, hv5⟩; have HE5 := Lib.hid ((HE.out.far (drew_below wx)).far (show Below wx.drew.heap.size wx.drew v5 by rw [hv5]; exact drewN_lo _ _)); have k1 : v5.cell? ⟨b k, 3 + e, none⟩ = some (.int .i64 x3) := by rw [hv5]; exact k3
                     have k2 : v5.cell? ⟨b k, 5 + e, none⟩ = some x5 := by rw [hv5]; exact k5
                     have k3 : v5.frozen? ⟨b k, 3 + e, none⟩ = false := by rw [hv5]; exact f3
                     have k4 : v5.frozen? ⟨b k, 5 + e, none⟩ = false := by rw [hv5]; exact f5
                     have k6 : (v5.setCell ⟨b k, 3 + e, none⟩ (.int .i64 z)).cell? ⟨b k, 5 + e, none⟩ = some x5 := (World.cell?_setCell_other v5 _ _ _ (fun h => by have := congrArg Addr.off h; simp only at this; omega)).trans k2
                     clear hv5))
              have HN5 := Lib.hid (hcut.out v5 HE5.out z hz)
              go_wp2
              go_roundw
              case rel => exact ⟨e + 1, by omega, by go_num, HN5⟩
              case measure => simp [intOf]; omega
            · have HNN := Lib.hid (show RodSt W wx W.heap.size g n b (cutR m q (2 * k + (e + 1))) by rw [← Nat.add_assoc, cutR_same (by rw [hr]; exact hrq)]; exact HE.out)
              rw [hr] at hix
              have hne : ¬ (r : Int) = (q : Int) := by omega
              clear hr h0 HE hrn
              go_wp2
              go_roundw
              case rel => exact ⟨e + 1, by omega, by go_num, HNN⟩
              case measure => simp [intOf]; omega
        · obtain rfl : e = 2 := by omega
          go_wp2
          go_roundw
          case rel => exact ⟨k + 1, by omega, by go_num, HE⟩
          case measure => simp [intOf]; omega
    · obtain rfl : k = n := by omega
      have hge : ¬ (k : Int) < (k : Int) := by omega
      have cr := HS.out.row 0 (by omega)
      have hk1 : (1 : Int) ≤ (k : Int) := by omega
      have hk0 : (0 : Int) < (k : Int) := by omega
      have hk0' : 0 < k := by omega
      have hgl := HS.out.gl
      obtain ⟨r, hr⟩ : ∃ r, goodB Q = r := ⟨_, rfl⟩
      have HR := Lib.hid hr
      rw [hr] at MO
      clear hr
      go_wp2_with fail
      refine (MO.out W.heap.size b wq HS.out.rods HS.out.lo.size).mono ?_
      rintro e w3 ⟨u, rfl, hm, l2⟩
      have L2 := Lib.hid (HS.out.lo.trans l2)
      have hwW : w.heap.size + 1 < W.heap.size := BY.out.1
      obtain ⟨by0, y0, y1⟩ := BY.out.lo L2.out
      have fy : ∀ j, w3.frozen? ⟨w.heap.size + 1, j, none⟩ = false := fun j => (L2.out.frozen (p := ⟨w.heap.size + 1, j, none⟩) BY.out.1).trans (FY.out j)
      have fy0 := fy 0
      have fy1 := fy 1
      have hrow := hm.row
      obtain ⟨xa, xb, xc, xd, rfl⟩ := hrow.form
      generalize (keptM Q).am.length = na at *
      generalize (keptM Q).hu.length = nb at *
      have TS := Lib.hid (two_set w3 (w.heap.size + 1) 0 (.slice xa na xc) (.slice xb nb xd) y0 y1)
      have LF := Lib.hid ((lo_on LW.out L2.out).setCell (p := ⟨w.heap.size + 1, 0, none⟩) (Nat.le_succ _) (.slice xa na xc) |>.setCell (p := ⟨w.heap.size + 1, 1, none⟩) (Nat.le_succ _) (.slice xb nb xd))
      have hwq : w.heap.size + 1 < wq.heap.size := by have := HS.out.lo.size; omega
      have MF := Lib.hid ((((hm.part (part_set _ _ 0 (.slice xa na xc)) (.inr (by omega))).part (part_set _ (w.heap.size + 1) 1 (.slice xb nb xd)) (.inr (by omega))).mono (show w.heap.size ≤ wq.heap.size by omega) (Nat.le_refl _) : MineMb ((w3.setCell ⟨w.heap.size + 1, 0, none⟩ (.slice xa na xc)).setCell ⟨w.heap.size + 1, 1, none⟩ (.slice xb nb xd)) w.heap.size w3.heap.size _ _))
      clear cr hgl fy hm hrow l2
      go_wp2
      obtain ⟨q0, q1, _⟩ := TS.out
      exact bodyPost_ret (v := .tuple #[.agg #[.slice xa na xc, .slice xb nb xd], .bool r]) (by simp [results, Try.results56, go_sem, q0, q1]) rfl ⟨_, by rw [HR.out], by simpa using MF.out, LF.out⟩
end
section
open Go.RowKit
set_option maxRecDepth 100000 in
set_option maxHeartbeats 1600000 in
theorem cut_no (v : Value) (m : MobV) (z : Int) (w : World) (hv : MobRow w v m) (hs : SmallM m) (hb : BndM m) (hr : goodB m = false) :
    Calls Try.prog 56 #[v, .int .i64 z] w fun e w' => ∃ u, e = .returned (.tuple #[u, .bool false]) ∧ MineMb w' w.heap.size w'.heap.size u nilM ∧ Below w.heap.size w w' := by
  have D := Lib.hid (fun w1 (l : Below w.heap.size w w1) => rodsOf_no v m w1 (hv.lo l) hs hb hr)
  obtain ⟨a, b, c, d, rfl⟩ := hv.form
  obtain ⟨W, hW⟩ : ∃ W, (w.alloc (.cells #[.slice a m.am.length c, .slice b m.hu.length d] 27)).alloc (.cells #[.slice none 0 0, .slice none 0 0] 27) = W := ⟨_, rfl⟩
  have LW := Lib.hid (show Below w.heap.size w W by rw [← hW]; exact ((Below.refl _ _).alloc (Nat.le_refl _) _).alloc (by simp) _)
  have BX := Lib.hid (show Box2 W w.heap.size (.slice a m.am.length c) (.slice b m.hu.length d) by rw [← hW]; exact (box2_new _ _ _ _).lo ((Below.refl _ _).alloc (Nat.le_refl _) _))
  have BY := Lib.hid (show Box2 W (w.heap.size + 1) (.slice none 0 0) (.slice none 0 0) by rw [← hW]; have := box2_new (w.alloc (.cells #[.slice a m.am.length c, .slice b m.hu.length d] 27)) (.slice none 0 0) (.slice none 0 0) 27; simpa using this)
  have FY := Lib.hid (show ∀ j, W.frozen? ⟨w.heap.size + 1, j, none⟩ = false by rw [← hW]; exact fun j => World.frozen?_alloc_at _ _ _ _ (by simp))
  have D1 := Lib.hid (D.out W LW.out)
  generalize m.am.length = n at *
  generalize m.hu.length = n2 at *
  clear hv hs hb D hr
  obtain ⟨_, u0, u1⟩ := BX.out
  go_enter Try.func56, Try.ntmps56
  go_wp2_with fail
  clear hW u0 u1
  refine D1.out.mono ?_
  rintro e' w1 ⟨rfl, l1⟩
  have L1 := Lib.hid (lo_on LW.out l1)
  obtain ⟨by0, y0, y1⟩ := BY.out.lo l1
  have fy : ∀ j, w1.frozen? ⟨w.heap.size + 1, j, none⟩ = false := fun j => (l1.frozen (p := ⟨w.heap.size + 1, j, none⟩) BY.out.1).trans (FY.out j)
  have fy0 := fy 0
  have fy1 := fy 1
  have TS := Lib.hid (two_set w1 (w.heap.size + 1) 0 (.slice none 0 0) (.slice none 0 0) y0 y1)
  have LF := Lib.hid (L1.out.setCell (p := ⟨w.heap.size + 1, 0, none⟩) (Nat.le_succ _) (.slice none 0 0) |>.setCell (p := ⟨w.heap.size + 1, 1, none⟩) (Nat.le_succ _) (.slice none 0 0))
  clear l1 D1 fy
  go_wp2
  obtain ⟨q0, q1, _⟩ := TS.out
  exact bodyPost_ret (v := .tuple #[.agg #[.slice none 0 0, .slice none 0 0], .bool false]) (by simp [results, Try.results56, go_sem, q0, q1]) rfl ⟨_, rfl, minePl_nilM _ _ _ LF.out.size, LF.out⟩
set_option maxRecDepth 100000 in
set_option maxHeartbeats 1600000 in
theorem cut_bad (v : Value) (m : MobV) (z : Int) (w : World) (hv : MobRow w v m) (hb : BndM m) (hf : MobF m) (hz : z < 1 ∨ (m.am.length : Int) ≤ z) :
    Calls Try.prog 56 #[v, .int .i64 z] w fun e w' => ∃ u, e = .returned (.tuple #[u, .bool false]) ∧ MineMb w' w.heap.size w'.heap.size u nilM ∧ Below w.heap.size w w' := by
  have D := Lib.hid (fun w1 (l : Below w.heap.size w w1) => rodsOf_yes v m w1 (hv.lo l) hb hf)
  obtain ⟨a, b, c, d, rfl⟩ := hv.form
  obtain ⟨W, hW⟩ : ∃ W, (w.alloc (.cells #[.slice a m.am.length c, .slice b m.hu.length d] 27)).alloc (.cells #[.slice none 0 0, .slice none 0 0] 27) = W := ⟨_, rfl⟩
  have LW := Lib.hid (show Below w.heap.size w W by rw [← hW]; exact ((Below.refl _ _).alloc (Nat.le_refl _) _).alloc (by simp) _)
  have BX := Lib.hid (show Box2 W w.heap.size (.slice a m.am.length c) (.slice b m.hu.length d) by rw [← hW]; exact (box2_new _ _ _ _).lo ((Below.refl _ _).alloc (Nat.le_refl _) _))
  have BY := Lib.hid (show Box2 W (w.heap.size + 1) (.slice none 0 0) (.slice none 0 0) by rw [← hW]; have := box2_new (w.alloc (.cells #[.slice a m.am.length c, .slice b m.hu.length d] 27)) (.slice none 0 0) (.slice none 0 0) 27; simpa using this)
  have FY := Lib.hid (show ∀ j, W.frozen? ⟨w.heap.size + 1, j, none⟩ = false by rw [← hW]; exact fun j => World.frozen?_alloc_at _ _ _ _ (by simp))
  have D1 := Lib.hid (D.out W LW.out)
  generalize m.am.length = n at *
  generalize m.hu.length = n2 at *
  clear hv hb D hf
  obtain ⟨_, u0, u1⟩ := BX.out
  go_enter Try.func56, Try.ntmps56
  go_wp2_with fail
  clear hW u0 u1
  refine D1.out.mono ?_
  rintro e' w1 ⟨g, bb, rfl, hr, hg, l1⟩
  have L1 := Lib.hid (lo_on LW.out l1)
  obtain ⟨by0, y0, y1⟩ := BY.out.lo l1
  have fy : ∀ j, w1.frozen? ⟨w.heap.size + 1, j, none⟩ = false := fun j => (l1.frozen (p := ⟨w.heap.size + 1, j, none⟩) BY.out.1).trans (FY.out j)
  have fy0 := fy 0
  have fy1 := fy 1
  have TS := Lib.hid (two_set w1 (w.heap.size + 1) 0 (.slice none 0 0) (.slice none 0 0) y0 y1)
  have LF := Lib.hid (L1.out.setCell (p := ⟨w.heap.size + 1, 0, none⟩) (Nat.le_succ _) (.slice none 0 0) |>.setCell (p := ⟨w.heap.size + 1, 1, none⟩) (Nat.le_succ _) (.slice none 0 0))
  clear l1 D1 fy hr
  by_cases h1 : z < 1
  · go_wp2
    obtain ⟨q0, q1, _⟩ := TS.out
    exact bodyPost_ret (v := .tuple #[.agg #[.slice none 0 0, .slice none 0 0], .bool false]) (by simp [results, Try.results56, go_sem, q0, q1]) rfl ⟨_, rfl, minePl_nilM _ _ _ LF.out.size, LF.out⟩
  · have h2 : (n : Int) ≤ z := by omega
    go_wp2
    obtain ⟨q0, q1, _⟩ := TS.out
    exact bodyPost_ret (v := .tuple #[.agg #[.slice none 0 0, .slice none 0 0], .bool false]) (by simp [results, Try.results56, go_sem, q0, q1]) rfl ⟨_, rfl, minePl_nilM _ _ _ LF.out.size, LF.out⟩
/-- What the program's CutRod makes. -/
noncomputable def cutGB (m : MobV) (z : Int) : Bool := goodB m && (decide (1 ≤ z) && decide (z < (m.am.length : Int))) && goodB (madeR m.am.length (cutR m z.toNat (2 * m.am.length)))
noncomputable def cutGM (m : MobV) (z : Int) : MobV := if cutGB m z = true then madeR m.am.length (cutR m z.toNat (2 * m.am.length)) else nilM
theorem cut_any (v : Value) (m : MobV) (z : Int) (w : World) (hv : MobRow w v m) (hs : SmallM m) (hb : BndM m) :
    Calls Try.prog 56 #[v, .int .i64 z] w fun e w' => ∃ u, e = .returned (.tuple #[u, .bool (cutGB m z)]) ∧ MineMb w' w.heap.size w'.heap.size u (cutGM m z) ∧ Below w.heap.size w w' := by
  cases h : goodB m with
  | false =>
    have e : cutGB m z = false := by unfold cutGB; rw [h]; rfl
    have e2 : cutGM m z = nilM := by unfold cutGM; rw [e]; rfl
    rw [e, e2]
    exact cut_no v m z w hv hs hb h
  | true =>
    have hf := (goodB_iff m).1 h
    by_cases hz : 1 ≤ z ∧ z < (m.am.length : Int)
    · have e : cutGB m z = goodB (madeR m.am.length (cutR m z.toNat (2 * m.am.length))) := by unfold cutGB; rw [h, decide_eq_true hz.1, decide_eq_true hz.2]; rfl
      have e2 : cutGM m z = keptM (madeR m.am.length (cutR m z.toNat (2 * m.am.length))) := by unfold cutGM keptM; rw [e]
      rw [e, e2]
      have := cut_yes v m z.toNat w hv hb hf (by omega) (by omega)
      rw [Int.toNat_of_nonneg (by omega)] at this
      exact this
    · have e : cutGB m z = false := by
        unfold cutGB
        rw [show (decide (1 ≤ z) && decide (z < (m.am.length : Int))) = false by
          by_cases h1 : 1 ≤ z
          · rw [decide_eq_false (show ¬ z < (m.am.length : Int) by omega)]; simp
          · rw [decide_eq_false h1]; rfl]
        simp
      have e2 : cutGM m z = nilM := by unfold cutGM; rw [e]; rfl
      rw [e, e2]
      exact cut_bad v m z w hv hb hf (by omega)
end
end Go.Proofs.Ytnadchgekfljkaa
