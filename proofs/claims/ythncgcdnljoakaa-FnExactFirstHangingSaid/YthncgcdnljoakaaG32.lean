/- Hang2, Hang3, LvX, as one text. -/
import Derived.Test.YthncgcdnljoakaaG24
import Derived.Test.YthncgcdnljoakaaG16
import Derived.Deep.RegionHeld3
import Derived.Test.YthncgcdnljoakaaG13
import Derived.Test.YthncgcdnljoakaaG14
namespace Go.Proofs.Ythncgcdnljoakaa
open Go.RowKit
theorem endsRow {w : World} {B : Nat} {v : Value} {xs : List (Int × Int)} (h : OwnE w B v xs) (h0 : xs ≠ []) : ∃ g cap, v = .slice (some ⟨g, 0, none⟩) xs.length cap ∧ B ≤ g ∧ g < w.heap.size ∧ ∀ j, j < xs.length → w.cell? ⟨g, j * 2, none⟩ = some (.int .i64 (xs.getD j (0, 0)).1) ∧ w.cell? ⟨g, j * 2 + 1, none⟩ = some (.int .i64 (xs.getD j (0, 0)).2) := by
  unfold OwnE at h
  have h' := h
  rcases h.2 with ⟨rfl, h1⟩ | ⟨g, cap, cur, rfl, hb, hg, _⟩
  · exact absurd (List.length_eq_zero_iff.1 h1) h0
  · refine ⟨g, cap, rfl, hb, (Array.getElem?_eq_some_iff.1 hg).1, fun j hj => ?_⟩
    have hc := cellsF_at xs j hj
    rw [h'.cellAt (j * 2) (by omega), h'.cellAt (j * 2 + 1) (by omega)]
    exact hc
/-- The row of ends, when leaves are being hung. -/
def EndsAt (w : World) (ge : Nat) (ts : List Nat) : Prop := ge < w.heap.size ∧ ∀ j, j < ts.length → w.cell? ⟨ge, j * 2, none⟩ = some (.int .i64 ((ts.getD j 0 / 2 : Nat) : Int)) ∧ w.cell? ⟨ge, j * 2 + 1, none⟩ = some (.int .i64 ((ts.getD j 0 % 2 : Nat) : Int))
theorem EndsAt.lo {w w' : World} {ge : Nat} {ts : List Nat} (h : EndsAt w ge ts) (l : Below w.heap.size w w') : EndsAt w' ge ts :=
  ⟨Nat.lt_of_lt_of_le h.1 l.size, fun j hj => ⟨(l.cell (p := ⟨ge, j * 2, none⟩) h.1).trans (h.2 j hj).1, (l.cell (p := ⟨ge, j * 2 + 1, none⟩) h.1).trans (h.2 j hj).2⟩⟩
theorem EndsAt.set {w : World} {ge : Nat} {ts : List Nat} (h : EndsAt w ge ts) (b o : Nat) (u : Value) (hne : b ≠ ge) : EndsAt (w.setCell ⟨b, o, none⟩ u) ge ts := by
  have ho := only_set w b o u
  exact ⟨Nat.lt_of_lt_of_le h.1 ho.size, fun j hj => ⟨(ho.cell (p := ⟨ge, j * 2, none⟩) (fun e => hne e.symm) h.1).trans (h.2 j hj).1, (ho.cell (p := ⟨ge, j * 2 + 1, none⟩) (fun e => hne e.symm) h.1).trans (h.2 j hj).2⟩⟩
theorem RodSt.hung {w0 w : World} {g k n i e : Nat} {b : Nat → Nat} {m : MobV} {xs : List Int} (h : RodSt w0 w w0.heap.size g n b (hangR m xs k)) (hk : k < (endT (rodF m) (2 * m.am.length)).length) (hi : i < n) (he : e < 2)
    (ht : (endT (rodF m) (2 * m.am.length)).getD k 0 = 2 * i + e) (z : Int) (hz : xs.getD k 0 = z) : RodSt w0 (w.setCell ⟨b i, 3 + e, none⟩ (.int .i64 z)) w0.heap.size g n b (hangR m xs (k + 1)) := by
  subst hz
  have ho : Only (b i) w (w.setCell ⟨b i, 3 + e, none⟩ (.int .i64 (xs.getD k 0))) := only_set w (b i) (3 + e) _
  have hr := h.rods.rod i (by omega) hi
  have hb := h.rods.far i (by omega) hi
  refine ⟨h.rods.one hi ho ((hr.set_leaf e he (xs.getD k 0)).congr (fun _ _ => rfl) (fun e2 he2 => ?_) (fun _ _ => rfl)) (fun i2 e2 hi2 he2 hne => ⟨rfl, ?_, rfl⟩), fun j hj => (ho.cell (p := ⟨g, j, none⟩) (fun e => h.ap i hi e.symm) h.gl).trans (h.row j hj), Nat.lt_of_lt_of_le h.gl ho.size, h.ap, h.lo.trans ((ho.below (by have := hr.lt; omega)).mono hb)⟩
  · show (if e2 = e then xs.getD k 0 else (hangR m xs k).le (2 * i + e2)) = (hangR m xs (k + 1)).le (2 * i + e2)
    rw [hangR_step m xs k _ hk, ht]
    by_cases h2 : e2 = e
    · rw [if_pos h2, if_pos (by omega)]
    · rw [if_neg h2, if_neg (by omega)]
  · rw [hangR_step m xs k _ hk, ht, if_neg (by omega)]
theorem hangR_zero (m : MobV) (xs : List Int) (t : Nat) : (hangR m xs 0).le t = (rodF m).le t := by unfold hangR; simp
set_option maxRecDepth 100000 in
set_option maxHeartbeats 6400000 in
theorem hang_yes (v vx : Value) (m : MobV) (xs : List Int) (w : World) (hv : MobRow w v m) (hb : BndM m) (hf : MobF m) (hx : IntRow w vx xs) (hl : xs.length = m.am.length + 1) (hxb : ∀ i, -9223372036854775808 ≤ xs.getD i 0 ∧ xs.getD i 0 ≤ 9223372036854775807) :
    Calls Try.prog 112 #[v, vx] w fun e w' => ∃ u, e = .returned (.tuple #[u, .bool (goodB (hangM m xs))]) ∧ MineMb w' w.heap.size w'.heap.size u (keptM (hangM m xs)) ∧ Below w.heap.size w w' := by
  have h1 := hf.one
  have h6 := hf.short
  have RO := Lib.hid (fun w1 (l : Below w.heap.size w w1) => rodsOf_yes v m w1 (hv.lo l) hb hf)
  obtain ⟨n, hn⟩ : ∃ n, m.am.length = n := ⟨_, rfl⟩
  have MO := Lib.hid (fun (B : Nat) (b : Nat → Nat) (w1 : World) (H : RodsIn w1 B 0 n b (fun i => (i : Int)) (hangR m xs (n + 1))) (hB : B ≤ w1.heap.size) => (by
    subst hn
    have := mobileOf_any m.am.length B b (hangR m xs (m.am.length + 1)) w1 h1 h6 ⟨(treeR_rodF hf).down, (treeR_rodF hf).once⟩
      ⟨fun t ht => by show _ ≤ avM m t ∧ avM m t ≤ _; have := (hf.ends t ht).1; omega, fun t ht => by
        show _ ≤ (if _ < _ then _ else (rodF m).le t) ∧ (if _ < _ then _ else (rodF m).le t) ≤ _
        split
        · exact hxb _
        · have := (wtR_rodF hf).leaf t ht; omega⟩ H hB
    rw [madeR_hang hf] at this
    exact this : Calls Try.prog 143 #[.pointer (some ⟨b 0, 0, none⟩)] w1 fun e w' => ∃ u, e = .returned (.tuple #[u, .bool (goodB (hangM m xs))]) ∧ MineMb w' w1.heap.size w'.heap.size u (keptM (hangM m xs)) ∧ Below B w1 w'))
  have HTN := Lib.hid (show (endT (rodF m) (2 * m.am.length)).length = n + 1 by rw [ends_len hf _ (Nat.le_refl _), leaf_total hf, hn])
  have HNM := Lib.hid hn
  have HTA := Lib.hid (endT_at (rodF m) (2 * m.am.length))
  have HEP := Lib.hid (endP2_at (rodF m) (2 * m.am.length))
  obtain ⟨ax, cx, rfl, hx2⟩ := hx
  have hx3 : ∃ gx ox, ax = some ⟨gx, ox, none⟩ ∧ gx < w.heap.size ∧ ∀ j, j < xs.length → w.cell? ⟨gx, ox + j, none⟩ = some (.int .i64 (xs.getD j 0)) := by
    rcases hx2 with h | ⟨gx, ox, e, hg, hc⟩
    · have := congrArg List.length h
      rw [List.length_nil] at this
      omega
    · exact ⟨gx, ox, e, hg, hc⟩
  obtain ⟨gx, ox, rfl, hgx, hcx⟩ := hx3
  have HCX := Lib.hid hcx
  obtain ⟨N, hN⟩ : ∃ N, n + 1 = N := ⟨_, rfl⟩
  rw [hn, hN] at hl
  rw [hN] at HTN MO
  rw [hl] at HCX
  rw [hl]
  obtain ⟨a, c, a', c', rfl⟩ := hv.form
  obtain ⟨lb, hlb⟩ : ∃ lb, m.hu.length = lb := ⟨_, rfl⟩
  rw [hn, hlb] at RO ⊢
  rw [hn] at h1 h6
  obtain ⟨W, hW⟩ : ∃ W, (w.alloc (.cells #[.slice a n a', .slice c lb c'] 62)).alloc (.cells #[.slice none 0 0, .slice none 0 0] 62) = W := ⟨_, rfl⟩
  have LW := Lib.hid (show Below w.heap.size w W by rw [← hW]; exact ((Below.refl _ _).alloc (Nat.le_refl _) _).alloc (by simp) _)
  have BX := Lib.hid (show Box2 W w.heap.size (.slice a n a') (.slice c lb c') by rw [← hW]; exact (box2_new _ _ _ _).lo ((Below.refl _ _).alloc (Nat.le_refl _) _))
  have BY := Lib.hid (show Box2 W (w.heap.size + 1) (.slice none 0 0) (.slice none 0 0) by rw [← hW]; have := box2_new (w.alloc (.cells #[.slice a n a', .slice c lb c'] 62)) (.slice none 0 0) (.slice none 0 0) 62; simpa using this)
  have FY := Lib.hid (show ∀ j, W.frozen? ⟨w.heap.size + 1, j, none⟩ = false by rw [← hW]; exact fun j => World.frozen?_alloc_at _ _ _ _ (by simp))
  have R1 := Lib.hid (RO.out W LW.out)
  have hwW0 : w.heap.size + 1 < W.heap.size := BY.out.1
  clear RO hv hb hf hlb hn hl hx2 hcx hxb
  obtain ⟨_, u0, u1⟩ := BX.out
  go_enter Try.func112, Try.ntmps112
  go_wp2_with fail
  clear hW u0 u1
  refine R1.out.mono ?_
  rintro e w1 ⟨g, b, rfl, hr, hg, l1⟩
  have LE := Lib.hid (leafEnds_any g _ n b (rodF m) w1 h6 hr)
  have S0 := Lib.hid (RodSt.of hr l1)
  have HBL := Lib.hid (fun i (hi : i < n) => (hr.rods.rod i (by omega) hi).lt)
  clear hr l1 R1
  go_wp2_with fail
  refine LE.out.mono ?_
  rintro e w2 ⟨ue, rfl, oe, l2⟩
  have hne : (endT (rodF m) (2 * n)).map endP2 ≠ [] := fun h => by
    have := congrArg List.length h
    rw [List.length_map, ← HNM.out, HTN.out, List.length_nil] at this
    omega
  obtain ⟨ge, ce, rfl, hg1, hg2, hge⟩ := endsRow oe hne
  have E2 := Lib.hid (show EndsAt w2 ge (endT (rodF m) (2 * m.am.length)) from ⟨hg2, fun j hj => by
    have hj2 : j < (endT (rodF m) (2 * n)).length := by rw [← HNM.out]; exact hj
    have := hge j (by rw [List.length_map]; exact hj2)
    rw [← HNM.out, HEP.out j hj] at this
    exact this⟩)
  have HBG := Lib.hid (fun i (hi : i < n) => show b i ≠ ge from fun e => by have := HBL.out i hi; omega)
  have hlen : ((endT (rodF m) (2 * n)).map endP2).length = N := by rw [List.length_map, ← HNM.out]; exact HTN.out
  rw [hlen]
  have S2 := Lib.hid (S0.out.far l2)
  have M0 := Lib.hid (show RodSt W w2 W.heap.size g n b (hangR m xs 0) from ⟨S2.out.rods.same (fun t _ => rfl) (fun t _ => (hangR_zero m xs t).symm) (fun t _ => rfl), S2.out.row, S2.out.gl, S2.out.ap, S2.out.lo⟩)
  clear S0 S2 LE l2 oe hne hge hlen HBL HEP
  obtain ⟨K, hK⟩ : ∃ K, endT (rodF m) (2 * m.am.length) = K := ⟨_, rfl⟩
  have HKE := Lib.hid hK
  rw [hK] at HTN HTA E2
  clear hK
  have hKl : K.length = N := HTN.out
  go_wp2
  go_loopw [30] (fun x wr => ∃ k : Nat, k ≤ N ∧ x = .int .i64 k ∧ Hid (RodSt W wr W.heap.size g n b (hangR m xs k)) ∧ Hid (EndsAt wr ge K)) (fun x _ => N - (intOf x).toNat)
  case atStart => exact ⟨0, Nat.zero_le _, rfl, M0, E2⟩
  case round =>
    obtain ⟨k, hk, rfl, HS, HE⟩ := hrel
    obtain ⟨wq, rfl⟩ : ∃ wq : World, wq = wr := ⟨_, rfl⟩
    clear M0 E2
    by_cases hlt : k < N
    · have hlt' : (k : Int) < (N : Int) := by omega
      obtain ⟨cx0, cy0⟩ := HE.out.2 k (by omega)
      obtain ⟨ht2, hbe⟩ := HTA.out k (by omega)
      rw [HNM.out] at ht2
      obtain ⟨t, ht⟩ : ∃ t, K.getD k 0 = t := ⟨_, rfl⟩
      rw [ht] at cx0 cy0 ht2 hbe
      obtain ⟨i, hi2⟩ : ∃ i, t / 2 = i := ⟨_, rfl⟩
      obtain ⟨e, he2⟩ : ∃ e, t % 2 = e := ⟨_, rfl⟩
      rw [hi2] at cx0
      rw [he2] at cy0
      have hin : i < n := by omega
      have hel : e < 2 := by omega
      have hin' : (i : Int) < (n : Int) := by omega
      have hel' : (e : Int) < 2 := by omega
      have cr := HS.out.row i hin
      have cl := (HS.out.rods.rod i (by omega) hin).leaf e hel
      have fl := (HS.out.rods.rod i (by omega) hin).fz (3 + e)
      have hbl := (HS.out.rods.rod i (by omega) hin).lt
      have hbB := HS.out.rods.far i (by omega) hin
      have hbg := HS.out.ap i hin
      have hbge := HBG.out i hin
      have hgl := HS.out.gl
      have hgel := HE.out.1
      have hgxw : gx < wq.heap.size := by have := HS.out.lo.size; omega
      have cw : wq.cell? ⟨gx, ox + k, none⟩ = some (.int .i64 (xs.getD k 0)) := by
        rw [HS.out.lo.cell (p := ⟨gx, ox + k, none⟩) (show gx < W.heap.size by omega), LW.out.cell (p := ⟨gx, ox + k, none⟩) hgx]
        exact HCX.out k hlt
      have hbgx : b i ≠ gx := by omega
      obtain ⟨z, hz⟩ : ∃ z, xs.getD k 0 = z := ⟨_, rfl⟩
      rw [hz] at cw
      have HST := Lib.hid (fun w' (H : RodSt W w' W.heap.size g n b (hangR m xs k)) => H.hung (by rw [HKE.out]; omega) hin hel (by rw [HKE.out]; omega) z hz)
      obtain ⟨lz, hlz⟩ : ∃ lz, (hangR m xs k).le (2 * i + e) = lz := ⟨_, rfl⟩
      rw [hlz] at cl
      clear ht hi2 he2 hz hlz ht2 hbe
      go_wp2
      obtain ⟨wb, hwb⟩ : ∃ wb, wq.alloc (.cells #[.int .i64 (i : Int), .int .i64 (e : Int)] 143) = wb := ⟨_, rfl⟩
      have k0 : wb.cell? ⟨wq.heap.size, 0, none⟩ = some (.int .i64 (i : Int)) := by rw [← hwb]; exact (World.cell?_alloc_at _ _ _ _ rfl).trans rfl
      have k1 : wb.cell? ⟨wq.heap.size, 1, none⟩ = some (.int .i64 (e : Int)) := by rw [← hwb]; exact (World.cell?_alloc_at _ _ _ _ rfl).trans rfl
      have lb : Below wq.heap.size wq wb := by rw [← hwb]; exact (Below.refl _ _).alloc (Nat.le_refl _) _
      have k2 : wb.cell? ⟨g, i, none⟩ = some (.pointer (some ⟨b i, 0, none⟩)) := (lb.cell (p := ⟨g, i, none⟩) hgl).trans cr
      have k3 : wb.cell? ⟨b i, 3 + e, none⟩ = some (.int .i64 lz) := (lb.cell (p := ⟨b i, 3 + e, none⟩) hbl).trans cl
      have k4 : wb.frozen? ⟨b i, 3 + e, none⟩ = false := (lb.frozen (p := ⟨b i, 3 + e, none⟩) hbl).trans fl
      have k5 : wb.cell? ⟨gx, ox + k, none⟩ = some (.int .i64 z) := (lb.cell (p := ⟨gx, ox + k, none⟩) hgxw).trans cw
      have HSB := Lib.hid (HS.out.far lb)
      have HEB := Lib.hid (HE.out.lo lb)
      rw [hwb]
      obtain ⟨bx, hbx⟩ : ∃ bx, wq.heap.size = bx := ⟨_, rfl⟩
      rw [hbx] at k0 k1 hbl hgl hgxw
      rw [hbx]
      have n0 : bx ≠ b i := by omega
      obtain ⟨wn, hwn⟩ : ∃ wn, (wb.setCell ⟨b i, 3 + e, none⟩ (.int .i64 z)).drew = wn := ⟨_, rfl⟩
      have HSN := Lib.hid (show RodSt W wn W.heap.size g n b (hangR m xs (k + 1)) by rw [← hwn]; exact (HST.out wb HSB.out).far (drew_below _))
      have HEN := Lib.hid (show EndsAt wn ge K by rw [← hwn]; exact (HEB.out.set (b i) (3 + e) (.int .i64 z) hbge).lo (drew_below _))
      have q0 : (wb.setCell ⟨b i, 3 + e, none⟩ (.int .i64 z)).drew.cell? ⟨bx, 0, none⟩ = some (.int .i64 (i : Int)) := (World.cell?_setCell_other wb _ _ _ (fun h => by have := congrArg Addr.block h; simp only at this; omega)).trans k0
      have q1 : (wb.setCell ⟨b i, 3 + e, none⟩ (.int .i64 z)).drew.cell? ⟨bx, 1, none⟩ = some (.int .i64 (e : Int)) := (World.cell?_setCell_other wb _ _ _ (fun h => by have := congrArg Addr.block h; simp only at this; omega)).trans k1
      have q2 : (wb.setCell ⟨b i, 3 + e, none⟩ (.int .i64 z)).drew.cell? ⟨g, i, none⟩ = some (.pointer (some ⟨b i, 0, none⟩)) := (World.cell?_setCell_other wb _ _ _ (fun h => by have := congrArg Addr.block h; simp only at this; omega)).trans k2
      have q5 : (wb.setCell ⟨b i, 3 + e, none⟩ (.int .i64 z)).drew.cell? ⟨gx, ox + k, none⟩ = some (.int .i64 z) := (World.cell?_setCell_other wb _ _ _ (fun h => by have := congrArg Addr.block h; simp only at this; omega)).trans k5
      have HWN := Lib.hid hwn
      have hkN : (k : Int) < (N : Int) := hlt'
      clear cr cl fl lb hwb hbx cx0 cy0 cw HS HE HST HSB HEB hwn
      have k3' : wb.drew.cell? ⟨b i, 3 + e, none⟩ = some (.int .i64 lz) := k3
      have k4' : wb.drew.frozen? ⟨b i, 3 + e, none⟩ = false := k4
      go_region_held3 (fun w' => w'.cell? ⟨bx, 0, none⟩ = some (.int .i64 (i : Int)) ∧ w'.cell? ⟨bx, 1, none⟩ = some (.int .i64 (e : Int)) ∧ w'.cell? ⟨g, i, none⟩ = some (.pointer (some ⟨b i, 0, none⟩)) ∧ w'.cell? ⟨gx, ox + k, none⟩ = some (.int .i64 z))
        (first
          | exact ⟨k0, k1, k2, k5⟩
          | go_keep
          | exact ⟨q0, q1, q2, q5⟩)
        (first | (fail))
      rw [HWN.out]
      go_wp2
      go_roundw
      case rel => exact ⟨k + 1, by omega, by go_num, HSN, HEN⟩
      case measure => simp [intOf]; omega
    · obtain rfl : k = N := by omega
      have hge : ¬ (k : Int) < (k : Int) := by omega
      have cr := HS.out.row 0 (by omega)
      have hk1 : (1 : Int) ≤ (n : Int) := by omega
      have hk0 : (0 : Int) < (n : Int) := by omega
      have hk0' : 0 < n := by omega
      have hgl := HS.out.gl
      obtain ⟨r, hr⟩ : ∃ r, goodB (hangM m xs) = r := ⟨_, rfl⟩
      have HR := Lib.hid hr
      rw [hr] at MO
      clear hr
      go_wp2_with fail
      refine (MO.out W.heap.size b wq HS.out.rods HS.out.lo.size).mono ?_
      rintro e w3 ⟨u, rfl, hm, l2⟩
      have L2 := Lib.hid (HS.out.lo.trans l2)
      have hwW : w.heap.size + 1 < W.heap.size := BY.out.1
      obtain ⟨by0, y0, y1⟩ := BY.out.lo L2.out
      have fy : ∀ j, w3.frozen? ⟨w.heap.size + 1, j, none⟩ = false := fun j => (L2.out.frozen (p := ⟨w.heap.size + 1, j, none⟩) BY.out.1).trans (FY.out j)
      have fy0 := fy 0
      have fy1 := fy 1
      have hrow := hm.row
      obtain ⟨xa, xb, xc, xd, rfl⟩ := hrow.form
      generalize (keptM (hangM m xs)).am.length = na at *
      generalize (keptM (hangM m xs)).hu.length = nb at *
      have TS := Lib.hid (two_set w3 (w.heap.size + 1) 0 (.slice xa na xc) (.slice xb nb xd) y0 y1)
      have LF := Lib.hid ((lo_on LW.out L2.out).setCell (p := ⟨w.heap.size + 1, 0, none⟩) (Nat.le_succ _) (.slice xa na xc) |>.setCell (p := ⟨w.heap.size + 1, 1, none⟩) (Nat.le_succ _) (.slice xb nb xd))
      have hwq : w.heap.size + 1 < wq.heap.size := by have := HS.out.lo.size; omega
      have MF := Lib.hid ((((hm.part (part_set _ _ 0 (.slice xa na xc)) (.inr (by omega))).part (part_set _ (w.heap.size + 1) 1 (.slice xb nb xd)) (.inr (by omega))).mono (show w.heap.size ≤ wq.heap.size by omega) (Nat.le_refl _) : MineMb ((w3.setCell ⟨w.heap.size + 1, 0, none⟩ (.slice xa na xc)).setCell ⟨w.heap.size + 1, 1, none⟩ (.slice xb nb xd)) w.heap.size w3.heap.size _ _))
      clear cr hgl fy hm hrow l2
      go_wp2
      obtain ⟨q0, q1, _⟩ := TS.out
      exact bodyPost_ret (v := .tuple #[.agg #[.slice xa na xc, .slice xb nb xd], .bool r]) (by simp [results, Try.results112, go_sem, q0, q1]) rfl ⟨_, by rw [HR.out], by simpa using MF.out, LF.out⟩
end Go.Proofs.Ythncgcdnljoakaa
namespace Go.Proofs.Ythncgcdnljoakaa
open Go.RowKit
set_option maxRecDepth 100000 in
set_option maxHeartbeats 1600000 in
theorem hang_no (v : Value) (m : MobV) (ax : Option Addr) (cx X : Nat) (w : World) (hv : MobRow w v m) (hs : SmallM m) (hb : BndM m) (hr : goodB m = false) :
    Calls Try.prog 112 #[v, .slice ax X cx] w fun e w' => ∃ u, e = .returned (.tuple #[u, .bool false]) ∧ MineMb w' w.heap.size w'.heap.size u nilM ∧ Below w.heap.size w w' := by
  have D := Lib.hid (fun w1 (l : Below w.heap.size w w1) => rodsOf_no v m w1 (hv.lo l) hs hb hr)
  obtain ⟨a, b, c, d, rfl⟩ := hv.form
  obtain ⟨W, hW⟩ : ∃ W, (w.alloc (.cells #[.slice a m.am.length c, .slice b m.hu.length d] 62)).alloc (.cells #[.slice none 0 0, .slice none 0 0] 62) = W := ⟨_, rfl⟩
  have LW := Lib.hid (show Below w.heap.size w W by rw [← hW]; exact ((Below.refl _ _).alloc (Nat.le_refl _) _).alloc (by simp) _)
  have BX := Lib.hid (show Box2 W w.heap.size (.slice a m.am.length c) (.slice b m.hu.length d) by rw [← hW]; exact (box2_new _ _ _ _).lo ((Below.refl _ _).alloc (Nat.le_refl _) _))
  have BY := Lib.hid (show Box2 W (w.heap.size + 1) (.slice none 0 0) (.slice none 0 0) by rw [← hW]; have := box2_new (w.alloc (.cells #[.slice a m.am.length c, .slice b m.hu.length d] 62)) (.slice none 0 0) (.slice none 0 0) 62; simpa using this)
  have FY := Lib.hid (show ∀ j, W.frozen? ⟨w.heap.size + 1, j, none⟩ = false by rw [← hW]; exact fun j => World.frozen?_alloc_at _ _ _ _ (by simp))
  have D1 := Lib.hid (D.out W LW.out)
  generalize m.am.length = n at *
  generalize m.hu.length = n2 at *
  clear hv hs hb D hr
  obtain ⟨_, u0, u1⟩ := BX.out
  go_enter Try.func112, Try.ntmps112
  go_wp2_with fail
  clear hW u0 u1
  refine D1.out.mono ?_
  rintro e' w1 ⟨rfl, l1⟩
  go_wp2_with fail
  refine (leafEnds_nil w1).mono ?_
  rintro e' w2 ⟨rfl, rfl⟩
  have L1 := Lib.hid (lo_on LW.out l1)
  obtain ⟨by0, y0, y1⟩ := BY.out.lo l1
  have fy : ∀ j, w2.frozen? ⟨w.heap.size + 1, j, none⟩ = false := fun j => (l1.frozen (p := ⟨w.heap.size + 1, j, none⟩) BY.out.1).trans (FY.out j)
  have fy0 := fy 0
  have fy1 := fy 1
  have TS := Lib.hid (two_set w2 (w.heap.size + 1) 0 (.slice none 0 0) (.slice none 0 0) y0 y1)
  have LF := Lib.hid (L1.out.setCell (p := ⟨w.heap.size + 1, 0, none⟩) (Nat.le_succ _) (.slice none 0 0) |>.setCell (p := ⟨w.heap.size + 1, 1, none⟩) (Nat.le_succ _) (.slice none 0 0))
  clear l1 D1 fy
  go_wp2
  obtain ⟨q0, q1, _⟩ := TS.out
  exact bodyPost_ret (v := .tuple #[.agg #[.slice none 0 0, .slice none 0 0], .bool false]) (by simp [results, Try.results112, go_sem, q0, q1]) rfl ⟨_, rfl, minePl_nilM _ _ _ LF.out.size, LF.out⟩
set_option maxRecDepth 100000 in
set_option maxHeartbeats 1600000 in
theorem hang_len (v : Value) (m : MobV) (ax : Option Addr) (cx X : Nat) (w : World) (hv : MobRow w v m) (hb : BndM m) (hf : MobF m) (hX : X ≠ m.am.length + 1) :
    Calls Try.prog 112 #[v, .slice ax X cx] w fun e w' => ∃ u, e = .returned (.tuple #[u, .bool false]) ∧ MineMb w' w.heap.size w'.heap.size u nilM ∧ Below w.heap.size w w' := by
  have D := Lib.hid (fun w1 (l : Below w.heap.size w w1) => rodsOf_yes v m w1 (hv.lo l) hb hf)
  have h6 := hf.short
  have HTN := Lib.hid (show (endT (rodF m) (2 * m.am.length)).length = m.am.length + 1 by rw [ends_len hf _ (Nat.le_refl _), leaf_total hf])
  obtain ⟨a, b, c, d, rfl⟩ := hv.form
  obtain ⟨W, hW⟩ : ∃ W, (w.alloc (.cells #[.slice a m.am.length c, .slice b m.hu.length d] 62)).alloc (.cells #[.slice none 0 0, .slice none 0 0] 62) = W := ⟨_, rfl⟩
  have LW := Lib.hid (show Below w.heap.size w W by rw [← hW]; exact ((Below.refl _ _).alloc (Nat.le_refl _) _).alloc (by simp) _)
  have BX := Lib.hid (show Box2 W w.heap.size (.slice a m.am.length c) (.slice b m.hu.length d) by rw [← hW]; exact (box2_new _ _ _ _).lo ((Below.refl _ _).alloc (Nat.le_refl _) _))
  have BY := Lib.hid (show Box2 W (w.heap.size + 1) (.slice none 0 0) (.slice none 0 0) by rw [← hW]; have := box2_new (w.alloc (.cells #[.slice a m.am.length c, .slice b m.hu.length d] 62)) (.slice none 0 0) (.slice none 0 0) 62; simpa using this)
  have FY := Lib.hid (show ∀ j, W.frozen? ⟨w.heap.size + 1, j, none⟩ = false by rw [← hW]; exact fun j => World.frozen?_alloc_at _ _ _ _ (by simp))
  have D1 := Lib.hid (D.out W LW.out)
  generalize m.am.length = n at *
  generalize m.hu.length = n2 at *
  clear hv hb D hf
  obtain ⟨_, u0, u1⟩ := BX.out
  go_enter Try.func112, Try.ntmps112
  go_wp2_with fail
  clear hW u0 u1
  refine D1.out.mono ?_
  rintro e' w1 ⟨g, bb, rfl, hr, hg, l0⟩
  have LE := Lib.hid (leafEnds_any g _ n bb (rodF m) w1 h6 hr)
  clear hr
  go_wp2_with fail
  refine LE.out.mono ?_
  rintro e' w2 ⟨ue, rfl, oe, l2⟩
  have l1 := lo_on l0 l2
  obtain ⟨ae, ce, rfl, _⟩ := loadRow_ownE oe
  have hEN : ((endT (rodF m) (2 * n)).map endP2).length = n + 1 := by rw [List.length_map]; exact HTN.out
  rw [hEN]
  have hXN : ¬ (X : Int) = ((n + 1 : Nat) : Int) := by omega
  obtain ⟨N, hN⟩ : ∃ N, n + 1 = N := ⟨_, rfl⟩
  rw [hN] at hXN ⊢
  clear LE oe hEN l0 l2
  have L1 := Lib.hid (lo_on LW.out l1)
  obtain ⟨by0, y0, y1⟩ := BY.out.lo l1
  have fy : ∀ j, w2.frozen? ⟨w.heap.size + 1, j, none⟩ = false := fun j => (l1.frozen (p := ⟨w.heap.size + 1, j, none⟩) BY.out.1).trans (FY.out j)
  have fy0 := fy 0
  have fy1 := fy 1
  have TS := Lib.hid (two_set w2 (w.heap.size + 1) 0 (.slice none 0 0) (.slice none 0 0) y0 y1)
  have LF := Lib.hid (L1.out.setCell (p := ⟨w.heap.size + 1, 0, none⟩) (Nat.le_succ _) (.slice none 0 0) |>.setCell (p := ⟨w.heap.size + 1, 1, none⟩) (Nat.le_succ _) (.slice none 0 0))
  clear l1 D1 fy
  go_wp2
  obtain ⟨q0, q1, _⟩ := TS.out
  exact bodyPost_ret (v := .tuple #[.agg #[.slice none 0 0, .slice none 0 0], .bool false]) (by simp [results, Try.results112, go_sem, q0, q1]) rfl ⟨_, rfl, minePl_nilM _ _ _ LF.out.size, LF.out⟩
theorem hang_any (v vx : Value) (m : MobV) (xs : List Int) (w : World) (hv : MobRow w v m) (hs : SmallM m) (hb : BndM m) (hx : IntRow w vx xs) (hxb : ∀ i, -9223372036854775808 ≤ xs.getD i 0 ∧ xs.getD i 0 ≤ 9223372036854775807) :
    Calls Try.prog 112 #[v, vx] w fun e w' => ∃ u, e = .returned (.tuple #[u, .bool (hangB m xs)]) ∧ MineMb w' w.heap.size w'.heap.size u (hungM m xs) ∧ Below w.heap.size w w' := by
  cases h : goodB m with
  | false =>
    have e : hangB m xs = false := by unfold hangB; rw [h]; rfl
    have e2 : hungM m xs = nilM := by unfold hungM; rw [e]; rfl
    rw [e, e2]
    obtain ⟨ax, cx, rfl, _⟩ := hx
    exact hang_no v m ax cx _ w hv hs hb h
  | true =>
    have hf := (goodB_iff m).1 h
    by_cases hl : xs.length = m.am.length + 1
    · have e : hangB m xs = goodB (hangM m xs) := by unfold hangB; rw [h, hang_good hf xs hl]; rfl
      have e2 : hungM m xs = keptM (hangM m xs) := by unfold hungM keptM; rw [e]
      rw [e, e2]
      exact hang_yes v vx m xs w hv hb hf hx hl hxb
    · have e : hangB m xs = false := by
        unfold hangB areB
        rw [show decide ((xs.length : Int) = (m.am.length : Int) + 1) = false from decide_eq_false (by omega)]
        simp
      have e2 : hungM m xs = nilM := by unfold hungM; rw [e]; rfl
      rw [e, e2]
      obtain ⟨ax, cx, rfl, _⟩ := hx
      exact hang_len v m ax cx _ w hv hb hf hl
theorem smallM_hung (m : MobV) (xs : List Int) : SmallM (hungM m xs) := by
  unfold hungM
  split
  · rename_i h
    unfold hangB at h
    simp only [Bool.and_eq_true] at h
    have hf := (goodB_iff m).1 h.1
    exact ⟨hf.small.1, by show (hungL m xs).length ≤ _; rw [hungL_len]; exact hf.small.1⟩
  · exact smallM_nil
theorem wf_bnd {xs : List Int} (h : ∀ n ∈ xs, (Lit.int .i64 n).wf = true) (i : Nat) : -9223372036854775808 ≤ xs.getD i 0 ∧ xs.getD i 0 ≤ 9223372036854775807 := by
  have := range_i64 h i
  rwa [← List.getD_eq_getElem?_getD] at this
end Go.Proofs.Ythncgcdnljoakaa
namespace Go.Proofs.Ythncgcdnljoakaa
open Go.RowKit
set_option maxRecDepth 100000 in
theorem max_any (b off c : Nat) (zs : List Int) (w : World) (h0 : 0 < zs.length) (hb : zs.length ≤ 2000000) (hc : ∀ j, j < zs.length → w.cell? ⟨b, off + j, none⟩ = some (.int .i64 (zs.getD j 0))) :
    Calls Try.prog 149 #[.slice (some ⟨b, off, none⟩) zs.length c] w fun e w' => e = .returned (.int .i64 (Lib.maxOf zs)) ∧ w' = w := by
  have HC := Lib.hid hc
  have HS := Lib.hid (fun k h1 h2 => Lib.maxOf_step zs k h1 h2)
  have HA := Lib.hid (show Lib.maxOf (zs.take zs.length) = Lib.maxOf zs by rw [List.take_length])
  have H1 := Lib.hid (Lib.maxOf_one zs)
  have c0 := hc 0 h0
  rw [Nat.add_zero] at c0
  obtain ⟨x0, hx0⟩ : ∃ x, zs.getD 0 0 = x := ⟨_, rfl⟩
  rw [hx0] at c0 H1
  clear hx0
  have hn1 : ¬ (zs.length : Int) < 1 := by omega
  have hn2 : (0 : Int) < (zs.length : Int) := by omega
  generalize hn : zs.length = n at *
  clear hc
  go_enter Try.func149, Try.ntmps149
  go_wp2
  go_loopw [3, 4] (fun m i wr => ∃ k : Nat, 0 < k ∧ k ≤ n ∧ i = .int .i64 k ∧ m = .int .i64 (Lib.maxOf (zs.take k)) ∧ wr = w) (fun _ i _ => n - (intOf i).toNat)
  case atStart => exact ⟨1, Nat.one_pos, h0, rfl, by rw [H1.out], rfl⟩
  case round =>
    obtain ⟨k, hk0, hk, rfl, rfl, rfl⟩ := hrel
    by_cases hlt : k < n
    · have hlt' : (k : Int) < (n : Int) := by omega
      have ck := HC.out k hlt
      have hs := HS.out k hk0 hlt
      obtain ⟨M, hM⟩ : ∃ M, Lib.maxOf (zs.take k) = M := ⟨_, rfl⟩
      obtain ⟨y, hy⟩ : ∃ y, zs.getD k 0 = y := ⟨_, rfl⟩
      rw [hy] at ck
      rw [hM, hy] at hs
      rw [hM]
      have HS1 := Lib.hid hs
      clear hs hM hy
      by_cases hmy : M < y
      · have e : max M y = y := by omega
        go_wp2
        go_roundw
        case rel => exact ⟨k + 1, by omega, by omega, by go_num, by rw [HS1.out, e], by first | rfl | trivial⟩
        case measure => simp [intOf]; omega
      · have e : max M y = M := by omega
        go_wp2
        go_roundw
        case rel => exact ⟨k + 1, by omega, by omega, by go_num, by rw [HS1.out, e], by first | rfl | trivial⟩
        case measure => simp [intOf]; omega
    · obtain rfl : k = n := by omega
      have hge : ¬ (k : Int) < (k : Int) := by omega
      go_wp2
      go_ret
      exact ⟨by rw [← HA.out]; rfl, rfl⟩
end Go.Proofs.Ythncgcdnljoakaa
