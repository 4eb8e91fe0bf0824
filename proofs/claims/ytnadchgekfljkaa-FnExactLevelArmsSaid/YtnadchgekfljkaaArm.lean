/- The contract of the program's LevelArms. -/
import Derived.Test.YtnadchgekfljkaaMobO
import Derived.Test.YtnadchgekfljkaaLevS
import Derived.Test.YtnadchgekfljkaaRod2
import Derived.Deep.RegionHeld3
namespace Go.Proofs.Ytnadchgekfljkaa
open Go.RowKit
theorem levE_bnd {m : MobV} (hf : MobF m) (t : Nat) (ht : t < 2 * m.am.length) : 0 ≤ levE m t ∧ levE m t ≤ 24 := by
  obtain ⟨i, hi⟩ : ∃ i, t / 2 = i := ⟨_, rfl⟩
  have hin : i < m.am.length := by omega
  have hb := both_bnd hf i hin
  have hw := wtM_eq hf i hin
  have hp := wtM_pos hf i hin
  have h0 := (wtR_rodF hf).at_bnd (2 * i) (by omega)
  have h1 := (wtR_rodF hf).at_bnd (2 * i + 1) (by omega)
  rw [atR_rodF hf _ (by omega)] at h0 h1
  have hl : lvM m i = bothA m i * atM (hvM m (2 * i + 1)) (wtM m) := rfl
  unfold levE
  rw [hi]
  generalize atM (hvM m (2 * i)) (wtM m) = c at *
  generalize atM (hvM m (2 * i + 1)) (wtM m) = a at *
  generalize wtM m i = d at *
  generalize bothA m i = b at *
  rw [hl]
  have q0 : 0 ≤ b * a / d := Int.ediv_nonneg (Int.mul_nonneg (by omega) h1.1) (by omega)
  have q1 : b * a / d ≤ b := Int.ediv_le_of_le_mul (by omega) (Int.mul_le_mul_of_nonneg_left (by omega) (by omega))
  split <;> omega
/-- The rods when the first k of them have new arms. -/
def armR (m : MobV) (k : Nat) : RodF := ⟨laM m k, (rodF m).le, (rodF m).be⟩
theorem wtR_arm {m : MobV} (hf : MobF m) (k : Nat) : WtR m.am.length (armR m k) (wtM m) := ⟨(wtR_rodF hf).down, (wtR_rodF hf).eq, (wtR_rodF hf).small, (wtR_rodF hf).leaf⟩
theorem armR_bnd {m : MobV} (hf : MobF m) (k t : Nat) (ht : t < 2 * m.am.length) : 0 ≤ (armR m k).ar t ∧ (armR m k).ar t ≤ 24 := by
  show 0 ≤ laM m k t ∧ laM m k t ≤ 24
  unfold laM
  split
  · exact levE_bnd hf t ht
  · have := (hf.ends t ht).1; omega
theorem avM_lev {m : MobV} (t : Nat) (ht : t < 2 * m.am.length) : avM (lev0 m) t = levE m t := by
  unfold avM
  show (if t % 2 = 0 then ((levL m).getD (t / 2) (0, 0)).1 else ((levL m).getD (t / 2) (0, 0)).2) = _
  rw [levL_at m _ (by omega)]
  split
  · rw [show 2 * (t / 2) = t by omega]
  · rw [show 2 * (t / 2) + 1 = t by omega]
theorem madeR_lev {m : MobV} (hf : MobF m) : madeR m.am.length (rodF (lev0 m)) = lev0 m :=
  madeR_rodF hf (fun _ => rfl) (levL_len m) hf.same (fun t ht => by have := (hf.ends t ht).2; show 0 < hvM m t ∨ hvM m t < 0; omega)
theorem RodSt.arms {w0 w : World} {B g k n : Nat} {b : Nat → Nat} {m : MobV} (h : RodSt w0 w B g n b (armR m k)) (hk : k < n) (x y : Int) (hx : levE m (2 * k) = x) (hy : levE m (2 * k + 1) = y) :
    RodSt w0 ((w.setCell ⟨b k, 1, none⟩ (.int .i64 x)).setCell ⟨b k, 2, none⟩ (.int .i64 y)) B g n b (armR m (k + 1)) := by
  subst hx hy
  have ho : Only (b k) w ((w.setCell ⟨b k, 1, none⟩ (.int .i64 (levE m (2 * k)))).setCell ⟨b k, 2, none⟩ (.int .i64 (levE m (2 * k + 1)))) := (only_set w (b k) 1 _).trans (only_set _ (b k) 2 _)
  have hr := h.rods.rod k (by omega) hk
  have hb := h.rods.far k (by omega) hk
  refine ⟨h.rods.one hk ho (((hr.set_arm 0 (by omega) (levE m (2 * k))).set_arm 1 (by omega) (levE m (2 * k + 1))).congr (fun e he => ?_) (fun _ _ => rfl) (fun _ _ => rfl)) (fun i e hi he hne => ⟨?_, rfl, rfl⟩), fun j hj => (ho.cell (p := ⟨g, j, none⟩) (fun e => h.ap k hk e.symm) h.gl).trans (h.row j hj), Nat.lt_of_lt_of_le h.gl ho.size, h.ap, h.lo.trans ((ho.below (by have := hr.lt; omega)).mono hb)⟩
  · have h2 : laM m (k + 1) (2 * k + e) = levE m (2 * k + e) := by unfold laM; rw [if_pos (by omega)]
    show (if e = 1 then levE m (2 * k + 1) else if e = 0 then levE m (2 * k) else laM m k (2 * k + e)) = laM m (k + 1) (2 * k + e)
    rw [h2]
    rcases (show e = 0 ∨ e = 1 by omega) with rfl | rfl <;> simp
  · show laM m k (2 * i + e) = laM m (k + 1) (2 * i + e)
    unfold laM
    by_cases hl : i < k
    · rw [if_pos (by omega), if_pos (by omega)]
    · rw [if_neg (by omega), if_neg (by omega)]
set_option maxRecDepth 100000 in
set_option maxHeartbeats 6400000 in
theorem arms_yes (v : Value) (m : MobV) (w : World) (hv : MobRow w v m) (hb : BndM m) (hf : MobF m) :
    Calls Try.prog 43 #[v] w fun e w' => ∃ u, e = .returned (.tuple #[u, .bool (levB m)]) ∧ MineMb w' w.heap.size w'.heap.size u (levM m) ∧ Below w.heap.size w w' := by
  have hg : goodB m = true := (goodB_iff m).2 hf
  have h1 := hf.one
  have h6 := hf.short
  have HF := Lib.hid hf
  have RO := Lib.hid (fun w1 (l : Below w.heap.size w w1) => rodsOf_yes v m w1 (hv.lo l) hb hf)
  obtain ⟨n, hn⟩ : ∃ n, m.am.length = n := ⟨_, rfl⟩
  have HN := Lib.hid hn
  have MO := Lib.hid (fun (B : Nat) (b : Nat → Nat) (w1 : World) (H : RodsIn w1 B 0 n b (fun i => (i : Int)) (armR m n)) (hB : B ≤ w1.heap.size) => (by
    subst hn
    have := mobileOf_any m.am.length B b (rodF (lev0 m)) w1 h1 h6 ⟨(treeR_rodF hf).down, (treeR_rodF hf).once⟩
      (bndR_rodF (fun t ht => by rw [avM_lev t ht]; have := levE_bnd hf t ht; omega) (fun t ht => by show _ ≤ hvM m t ∧ hvM m t ≤ _; have := (hf.ends t ht).2; omega))
      (H.same (fun t ht => by show laM m _ t = avM (lev0 m) t; rw [avM_lev t ht]; unfold laM; rw [if_pos ht]) (fun _ _ => rfl) (fun _ _ => rfl)) hB
    rw [madeR_lev hf] at this
    exact this : Calls Try.prog 94 #[.pointer (some ⟨b 0, 0, none⟩)] w1 fun e w' => ∃ u, e = .returned (.tuple #[u, .bool (goodB (lev0 m))]) ∧ MineMb w' w1.heap.size w'.heap.size u (keptM (lev0 m)) ∧ Below B w1 w'))
  have HNO := Lib.hid (fun k (hk : k < n) (h : ¬ lvM m k % wtM m k = 0) => lev_no (m := m) (fun f => h (f k (by omega))))
  have HYES := Lib.hid (show (∀ i, i < n → lvM m i % wtM m i = 0) → levB m = goodB (lev0 m) ∧ levM m = keptM (lev0 m) from fun h => by
    have e : levB m = goodB (lev0 m) := by unfold levB; rw [hg, (propB_iff _).2 (by rw [hn]; exact h)]; rfl
    exact ⟨e, by unfold levM keptM; rw [e]⟩)
  obtain ⟨a, c, a', c', rfl⟩ := hv.form
  obtain ⟨lb, hlb⟩ : ∃ lb, m.hu.length = lb := ⟨_, rfl⟩
  rw [hn, hlb] at RO ⊢
  rw [hn] at h1 h6
  obtain ⟨W, hW⟩ : ∃ W, (w.alloc (.cells #[.slice a n a', .slice c lb c'] 27)).alloc (.cells #[.slice none 0 0, .slice none 0 0] 27) = W := ⟨_, rfl⟩
  have LW := Lib.hid (show Below w.heap.size w W by rw [← hW]; exact ((Below.refl _ _).alloc (Nat.le_refl _) _).alloc (by simp) _)
  have BX := Lib.hid (show Box2 W w.heap.size (.slice a n a') (.slice c lb c') by rw [← hW]; exact (box2_new _ _ _ _).lo ((Below.refl _ _).alloc (Nat.le_refl _) _))
  have BY := Lib.hid (show Box2 W (w.heap.size + 1) (.slice none 0 0) (.slice none 0 0) by rw [← hW]; have := box2_new (w.alloc (.cells #[.slice a n a', .slice c lb c'] 27)) (.slice none 0 0) (.slice none 0 0) 27; simpa using this)
  have FY := Lib.hid (show ∀ j, W.frozen? ⟨w.heap.size + 1, j, none⟩ = false by rw [← hW]; exact fun j => World.frozen?_alloc_at _ _ _ _ (by simp))
  have R1 := Lib.hid (RO.out W LW.out)
  clear RO hv hb hf hlb hn hg
  obtain ⟨_, u0, u1⟩ := BX.out
  go_enter Try.func43, Try.ntmps43
  go_wp2_with fail
  clear hW u0 u1
  refine R1.out.mono ?_
  rintro e w1 ⟨g, b, rfl, hr, hg, l1⟩
  have S0 := Lib.hid (RodSt.of hr l1)
  clear hr l1 R1
  have M0 := Lib.hid (show RodSt W w1 W.heap.size g n b (armR m 0) from ⟨S0.out.rods.same (fun t _ => by simp [armR, laM, rodF]) (fun t _ => rfl) (fun t _ => rfl), S0.out.row, S0.out.gl, S0.out.ap, S0.out.lo⟩)
  clear S0
  go_wp2
  go_loopw [20] (fun x wr => ∃ k : Nat, k ≤ n ∧ x = .int .i64 k ∧ Hid (∀ i, i < k → lvM m i % wtM m i = 0) ∧ Hid (RodSt W wr W.heap.size g n b (armR m k))) (fun x _ => n - (intOf x).toNat)
  case atStart => exact ⟨0, Nat.zero_le _, rfl, Lib.hid (fun i hi => by omega), M0⟩
  case round =>
    obtain ⟨k, hk, rfl, HAL, HS⟩ := hrel
    obtain ⟨wq, rfl⟩ : ∃ wq : World, wq = wr := ⟨_, rfl⟩
    clear M0
    by_cases hlt : k < n
    · have hlt' : (k : Int) < (n : Int) := by omega
      have cr := HS.out.row k hlt
      have hgl := HS.out.gl
      have KW := Lib.hid (show WtR n (armR m k) (wtM m) from HN.out ▸ wtR_arm HF.out k)
      have AB := Lib.hid (fun t (ht : t < 2 * n) => armR_bnd HF.out k t (by have := HN.out; omega))
      have hml : m.am.length = n := HN.out
      have hbd := both_bnd HF.out k (by omega)
      have hlb := lvM_bnd HF.out k (by omega)
      have hqq := levQ_bnd HF.out k (by omega)
      have hwk := wtM_pos HF.out k (by omega)
      have HLV : bothA m k * atR (armR m k) (wtM m) (2 * k + 1) = lvM m k := by
        show bothA m k * atR (rodF m) (wtM m) (2 * k + 1) = _
        rw [atR_rodF HF.out _ (by omega)]; rfl
      have HBA : (armR m k).ar (2 * k) + (armR m k).ar (2 * k + 1) = bothA m k := by
        show laM m k (2 * k) + laM m k (2 * k + 1) = _
        unfold laM; rw [if_neg (by omega), if_neg (by omega)]; rfl
      have HNOk := Lib.hid (HNO.out k hlt)
      have HALs := Lib.hid (fun (h : lvM m k % wtM m k = 0) => show ∀ i, i < k + 1 → lvM m i % wtM m i = 0 from fun i hi => by
        by_cases e : i = k
        · rw [e]; exact h
        · exact HAL.out i (by omega))
      have HL0 : levE m (2 * k) = lvM m k / wtM m k := by unfold levE; rw [if_pos (by omega), show 2 * k / 2 = k by omega]
      have HL1 : levE m (2 * k + 1) = bothA m k - lvM m k / wtM m k := by unfold levE; rw [if_neg (by omega), show (2 * k + 1) / 2 = k by omega]
      have hdb : wtM m k ≤ 6336 := (wsM_small HF.out m.am.length (Nat.le_refl _) k).2
      have LE := Lib.hid (fun wd (H : RodSt W wd W.heap.size g n b (armR m k)) => HBA ▸ length_any k wd hlt AB.out H.rods)
      have WA := Lib.hid (fun wd (H : RodSt W wd W.heap.size g n b (armR m k)) => (weightAt_any KW.out k 1 wd hlt (by omega) H.rods : Calls Try.prog 108 #[.pointer (some ⟨b k, 0, none⟩), .int .i64 1] wd fun r w' => r = .returned (.int .i64 (atR (armR m k) (wtM m) (2 * k + 1))) ∧ ∃ d, w' = wd.drewN d))
      have WT := Lib.hid (fun wd (H : RodSt W wd W.heap.size g n b (armR m k)) => weight_any KW.out k wd hlt H.rods)
      have ST := Lib.hid (fun wd (H : RodSt W wd W.heap.size g n b (armR m k)) (x y : Int) (hx : levE m (2 * k) = x) (hy : levE m (2 * k + 1) = y) => H.arms hlt x y hx hy)
      obtain ⟨bo, hbo⟩ : ∃ q, bothA m k = q := ⟨_, rfl⟩
      obtain ⟨l, hl⟩ : ∃ q, lvM m k = q := ⟨_, rfl⟩
      obtain ⟨d, hd⟩ : ∃ q, wtM m k = q := ⟨_, rfl⟩
      obtain ⟨aw, haw⟩ : ∃ q, atR (armR m k) (wtM m) (2 * k + 1) = q := ⟨_, rfl⟩
      rw [hbo] at HLV hbd LE HL1
      rw [haw] at HLV WA
      rw [hl] at HLV hlb hqq HNOk HALs HL0 HL1
      rw [hd] at hwk hqq HNOk HALs HL0 HL1 WT hdb
      have hm2 : IntKind.i64.wrap (bo * aw) = l := (wrap_mid (bo * aw) (by omega) (by omega)).trans HLV
      have hd0 : ¬ d = 0 := by omega
      have ht1 : l % d = Int.tmod l d := (Int.tmod_eq_emod_of_nonneg hlb.1).symm
      have ht2 : l / d = Int.tdiv l d := (Int.tdiv_eq_ediv_of_nonneg hlb.1).symm
      have hr1 := Int.emod_nonneg l hd0
      have hr2 := Int.emod_lt_of_pos l (show 0 < d by omega)
      rw [ht1] at HNOk HALs hr1 hr2
      rw [ht2] at hqq HL0 HL1
      obtain ⟨r, hr⟩ : ∃ r, Int.tmod l d = r := ⟨_, rfl⟩
      obtain ⟨q, hq⟩ : ∃ q, Int.tdiv l d = q := ⟨_, rfl⟩
      rw [hr] at HNOk HALs hr1 hr2
      rw [hq] at hqq HL0 HL1
      have hm3 := wrap_mid r (by omega) (by omega)
      have hm4 := wrap_mid q (by omega) (by omega)
      have hm5 := wrap_mid (bo - q) (by omega) (by omega)
      have HLL := Lib.hid (And.intro HL0 HL1)
      clear HLV HBA HL0 HL1 ht1 ht2 hbo hl hd haw hml KW AB HAL HNO
      go_wp2_with fail
      refine (LE.out wq HS.out).mono ?_
      rintro e w2 ⟨rfl, d1, hw2⟩
      have HS2 := Lib.hid (HS.out.far (show Below wq.heap.size wq w2 by rw [hw2]; exact drewN_lo _ _))
      clear hw2 cr hgl HS
      go_wp2_with fail
      refine (WA.out w2 HS2.out).mono ?_
      rintro e w3 ⟨rfl, d2, hw3⟩
      have HS3 := Lib.hid (HS2.out.far (show Below w2.heap.size w2 w3 by rw [hw3]; exact drewN_lo _ _))
      clear hw3 HS2
      go_wp2_with fail
      refine (WT.out w3 HS3.out).mono ?_
      rintro e w4 ⟨rfl, d3, hw4⟩
      have HS4 := Lib.hid (HS3.out.far (show Below w3.heap.size w3 w4 by rw [hw4]; exact drewN_lo _ _))
      clear hw4 HS3
      have hwW : w.heap.size + 1 < W.heap.size := BY.out.1
      obtain ⟨by0, y0, y1⟩ := BY.out.lo HS4.out.lo
      have fy : ∀ j, w4.frozen? ⟨w.heap.size + 1, j, none⟩ = false := fun j => (HS4.out.lo.frozen (p := ⟨w.heap.size + 1, j, none⟩) BY.out.1).trans (FY.out j)
      have fy0 := fy 0
      have fy1 := fy 1
      by_cases hr0 : r = 0
      · have c1 := (HS4.out.rods.rod k (by omega) hlt).arm 0 (by omega)
        have c2 := (HS4.out.rods.rod k (by omega) hlt).arm 1 (by omega)
        have f1 := (HS4.out.rods.rod k (by omega) hlt).fz 1
        have f2 := (HS4.out.rods.rod k (by omega) hlt).fz 2
        simp only [Nat.add_zero, Nat.reduceAdd] at c1 c2
        generalize (armR m k).ar (2 * k) = x1 at c1
        generalize (armR m k).ar (2 * k + 1) = x2 at c2
        have HALn := Lib.hid (HALs.out hr0)
        clear fy y0 y1 fy0 fy1 HNOk HALs by0
        go_wp2
        go_region_held3 (fun _ => True)
          (exact trivial)
          (first
            | (go_at_call 100; refine (LE.out _ (HS4.out.far (drew_below w4))).mono ?_; rintro e5 v5 ⟨rfl, d5, hv5⟩; have HS5 := Lib.hid ((HS4.out.far (drew_below w4)).far (show Below w4.drew.heap.size w4.drew v5 by rw [hv5]; exact drewN_lo _ _)); have k1 : v5.cell? ⟨b k, 1, none⟩ = some (.int .i64 x1) := by rw [hv5]; exact c1
               have k2 : v5.cell? ⟨b k, 2, none⟩ = some (.int .i64 x2) := by rw [hv5]; exact c2
               have k3 : v5.frozen? ⟨b k, 1, none⟩ = false := by rw [hv5]; exact f1
               have k4 : v5.frozen? ⟨b k, 2, none⟩ = false := by rw [hv5]; exact f2
               clear hv5))
        have HN5 := Lib.hid (ST.out v5 HS5.out q (bo - q) HLL.out.1 HLL.out.2)
        go_wp2
        go_roundw
        case rel => exact ⟨k + 1, by omega, by go_num, HALn, HN5⟩
        case measure => simp [intOf]; omega
      · have HNK := Lib.hid (HNOk.out hr0)
        have TS := Lib.hid (two_set w4 (w.heap.size + 1) 0 (.slice none 0 0) (.slice none 0 0) y0 y1)
        have LF := Lib.hid ((lo_on LW.out HS4.out.lo).setCell (p := ⟨w.heap.size + 1, 0, none⟩) (Nat.le_succ _) (.slice none 0 0) |>.setCell (p := ⟨w.heap.size + 1, 1, none⟩) (Nat.le_succ _) (.slice none 0 0))
        clear fy HNOk HALs
        go_wp2
        obtain ⟨q0, q1, _⟩ := TS.out
        exact bodyPost_ret (v := .tuple #[.agg #[.slice none 0 0, .slice none 0 0], .bool false]) (by simp [results, Try.results43, go_sem, q0, q1]) rfl ⟨_, by rw [HNK.out.1], by rw [HNK.out.2]; exact minePl_nilM _ _ _ LF.out.size, LF.out⟩
    · obtain rfl : k = n := by omega
      have hge : ¬ (k : Int) < (k : Int) := by omega
      have cr := HS.out.row 0 (by omega)
      have hk1 : (1 : Int) ≤ (k : Int) := by omega
      have hk0 : (0 : Int) < (k : Int) := by omega
      have hk0' : 0 < k := by omega
      have hgl := HS.out.gl
      have HY := Lib.hid (HYES.out HAL.out)
      obtain ⟨r, hr⟩ : ∃ r, goodB (lev0 m) = r := ⟨_, rfl⟩
      rw [hr] at MO HY
      clear hr HYES HNO HAL
      go_wp2_with fail
      refine (MO.out W.heap.size b wq HS.out.rods HS.out.lo.size).mono ?_
      rintro e w2 ⟨u, rfl, hm, l2⟩
      have L2 := Lib.hid (HS.out.lo.trans l2)
      have hwW : w.heap.size + 1 < W.heap.size := BY.out.1
      obtain ⟨by0, y0, y1⟩ := BY.out.lo L2.out
      have fy : ∀ j, w2.frozen? ⟨w.heap.size + 1, j, none⟩ = false := fun j => (L2.out.frozen (p := ⟨w.heap.size + 1, j, none⟩) BY.out.1).trans (FY.out j)
      have fy0 := fy 0
      have fy1 := fy 1
      have hrow := hm.row
      obtain ⟨xa, xb, xc, xd, rfl⟩ := hrow.form
      generalize (keptM (lev0 m)).am.length = na at *
      generalize (keptM (lev0 m)).hu.length = nb at *
      have TS := Lib.hid (two_set w2 (w.heap.size + 1) 0 (.slice xa na xc) (.slice xb nb xd) y0 y1)
      have LF := Lib.hid ((lo_on LW.out L2.out).setCell (p := ⟨w.heap.size + 1, 0, none⟩) (Nat.le_succ _) (.slice xa na xc) |>.setCell (p := ⟨w.heap.size + 1, 1, none⟩) (Nat.le_succ _) (.slice xb nb xd))
      have hwq : w.heap.size + 1 < wq.heap.size := by have := HS.out.lo.size; omega
      have MF := Lib.hid ((((hm.part (part_set _ _ 0 (.slice xa na xc)) (.inr (by omega))).part (part_set _ (w.heap.size + 1) 1 (.slice xb nb xd)) (.inr (by omega))).mono (show w.heap.size ≤ wq.heap.size by omega) (Nat.le_refl _) : MineMb ((w2.setCell ⟨w.heap.size + 1, 0, none⟩ (.slice xa na xc)).setCell ⟨w.heap.size + 1, 1, none⟩ (.slice xb nb xd)) w.heap.size w2.heap.size _ _))
      clear cr hgl fy hm hrow l2
      go_wp2
      obtain ⟨q0, q1, _⟩ := TS.out
      exact bodyPost_ret (v := .tuple #[.agg #[.slice xa na xc, .slice xb nb xd], .bool r]) (by simp [results, Try.results43, go_sem, q0, q1]) rfl ⟨_, by rw [HY.out.1], by rw [HY.out.2]; simpa using MF.out, LF.out⟩
set_option maxRecDepth 100000 in
set_option maxHeartbeats 1600000 in
theorem arms_no (v : Value) (m : MobV) (w : World) (hv : MobRow w v m) (hs : SmallM m) (hb : BndM m) (hr : goodB m = false) :
    Calls Try.prog 43 #[v] w fun e w' => ∃ u, e = .returned (.tuple #[u, .bool false]) ∧ MineMb w' w.heap.size w'.heap.size u nilM ∧ Below w.heap.size w w' := by
  have D := Lib.hid (fun w1 (l : Below w.heap.size w w1) => rodsOf_no v m w1 (hv.lo l) hs hb hr)
  obtain ⟨a, b, c, d, rfl⟩ := hv.form
  obtain ⟨W, hW⟩ : ∃ W, (w.alloc (.cells #[.slice a m.am.length c, .slice b m.hu.length d] 27)).alloc (.cells #[.slice none 0 0, .slice none 0 0] 27) = W := ⟨_, rfl⟩
  have LW := Lib.hid (show Below w.heap.size w W by rw [← hW]; exact ((Below.refl _ _).alloc (Nat.le_refl _) _).alloc (by simp) _)
  have BX := Lib.hid (show Box2 W w.heap.size (.slice a m.am.length c) (.slice b m.hu.length d) by rw [← hW]; exact (box2_new _ _ _ _).lo ((Below.refl _ _).alloc (Nat.le_refl _) _))
  have BY := Lib.hid (show Box2 W (w.heap.size + 1) (.slice none 0 0) (.slice none 0 0) by rw [← hW]; have := box2_new (w.alloc (.cells #[.slice a m.am.length c, .slice b m.hu.length d] 27)) (.slice none 0 0) (.slice none 0 0) 27; simpa using this)
  have FY := Lib.hid (show ∀ j, W.frozen? ⟨w.heap.size + 1, j, none⟩ = false by rw [← hW]; exact fun j => World.frozen?_alloc_at _ _ _ _ (by simp))
  have D1 := Lib.hid (D.out W LW.out)
  generalize m.am.length = n at *
  generalize m.hu.length = n2 at *
  clear hv hs hb D hr
  obtain ⟨_, u0, u1⟩ := BX.out
  go_enter Try.func43, Try.ntmps43
  go_wp2_with fail
  clear hW u0 u1
  refine D1.out.mono ?_
  rintro e' w1 ⟨rfl, l1⟩
  have L1 := Lib.hid (lo_on LW.out l1)
  obtain ⟨by0, y0, y1⟩ := BY.out.lo l1
  have fy : ∀ j, w1.frozen? ⟨w.heap.size + 1, j, none⟩ = false := fun j => (l1.frozen (p := ⟨w.heap.size + 1, j, none⟩) BY.out.1).trans (FY.out j)
  have fy0 := fy 0
  have fy1 := fy 1
  have TS := Lib.hid (two_set w1 (w.heap.size + 1) 0 (.slice none 0 0) (.slice none 0 0) y0 y1)
  have LF := Lib.hid (L1.out.setCell (p := ⟨w.heap.size + 1, 0, none⟩) (Nat.le_succ _) (.slice none 0 0) |>.setCell (p := ⟨w.heap.size + 1, 1, none⟩) (Nat.le_succ _) (.slice none 0 0))
  clear l1 D1 fy
  go_wp2
  obtain ⟨q0, q1, _⟩ := TS.out
  exact bodyPost_ret (v := .tuple #[.agg #[.slice none 0 0, .slice none 0 0], .bool false]) (by simp [results, Try.results43, go_sem, q0, q1]) rfl ⟨_, rfl, minePl_nilM _ _ _ LF.out.size, LF.out⟩
theorem arms_any (v : Value) (m : MobV) (w : World) (hv : MobRow w v m) (hs : SmallM m) (hb : BndM m) :
    Calls Try.prog 43 #[v] w fun e w' => ∃ u, e = .returned (.tuple #[u, .bool (levB m)]) ∧ MineMb w' w.heap.size w'.heap.size u (levM m) ∧ Below w.heap.size w w' := by
  cases h : goodB m with
  | true => exact arms_yes v m w hv hb ((goodB_iff m).1 h)
  | false =>
    have e : levB m = false := by unfold levB; rw [h]; rfl
    have e2 : levM m = nilM := by unfold levM; rw [e]; rfl
    rw [e, e2]
    exact arms_no v m w hv hs hb h
theorem smallM_lev (m : MobV) : SmallM (levM m) := by
  unfold levM
  split
  · rename_i h
    refine lev0_small ((goodB_iff m).1 ?_)
    unfold levB at h
    simp only [Bool.and_eq_true] at h
    exact h.1
  · exact smallM_nil
end Go.Proofs.Ytnadchgekfljkaa
