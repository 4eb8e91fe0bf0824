/- The contract of the model's LevelWeights. -/
import Derived.Test.YtnadchgekfljkaaLvR
import Derived.Test.YtnadchgekfljkaaLvM
import Derived.Test.YtnadchgekfljkaaFrac
import Derived.Deep.RegionHeld3
import Derived.Deep.AppendLies
import Derived.Test.YtnadchgekfljkaaLvJ
namespace Go.Proofs.Ytnadchgekfljkaa
open Go.RowKit
theorem l1Least_any (a b : Int) (w : World) : Calls Try.prog 99 #[.int .i64 a, .int .i64 b] w fun e w' => e = .returned (.int .i64 (if a < b then a else b)) ∧ w = w' := by
  by_cases h : a < b
  all_goals go_enter Try.func99, Try.ntmps99
  all_goals go_wp2
  all_goals go_ret
  all_goals exact ⟨rfl, rfl⟩
theorem gcd_sort (c x : Nat) : Nat.gcd (if x < c then c else x) (if c < x then c else x) = Nat.gcd c x := by
  by_cases h : x < c
  · rw [if_pos h, if_neg (by omega)]
  · rw [if_neg h]
    by_cases h2 : c < x
    · rw [if_pos h2, Nat.gcd_comm]
    · rw [if_neg h2, show c = x by omega]
theorem most_nat (c x : Nat) (w : World) : Calls Try.prog 98 #[.int .i64 (c : Int), .int .i64 (x : Int)] w fun e w' => e = .returned (.int .i64 ((if x < c then c else x : Nat) : Int)) ∧ w' = w := by
  refine (l1Most_any c x w).mono ?_
  rintro e w' ⟨rfl, rfl⟩
  refine ⟨?_, rfl⟩
  by_cases h : x < c
  · rw [if_pos h, if_pos (by omega)]
  · rw [if_neg h, if_neg (by omega)]
theorem least_nat (c x : Nat) (w : World) : Calls Try.prog 99 #[.int .i64 (c : Int), .int .i64 (x : Int)] w fun e w' => e = .returned (.int .i64 ((if c < x then c else x : Nat) : Int)) ∧ w' = w := by
  refine (l1Least_any c x w).mono ?_
  rintro e w' ⟨rfl, rfl⟩
  refine ⟨?_, rfl⟩
  by_cases h : c < x
  · rw [if_pos h, if_pos (by omega)]
  · rw [if_neg h, if_neg (by omega)]
def topL (m : MobV) : List Nat := (lfT m).map (fun t => (shE m t).1)
def shareL (m : MobV) : List (Int × Int) := (lfT m).map (fun t => shZ (shE m t))
theorem share_at (m : MobV) (k : Nat) (h : k < (lfT m).length) : (shareL m).getD k (0, 0) = shZ ((topL m).getD k 0, (botL m).getD k 0) := by
  unfold shareL topL botL
  rw [getD_map _ _ 0 _ _ h, getD_map _ _ 0 _ _ h, getD_map _ _ 0 _ _ h]
theorem outL_at (m : MobV) (k : Nat) (h : k < (lfT m).length) : (outL m).getD k 0 = lcmM m / (botL m).getD k 0 * (topL m).getD k 0 := by
  unfold outL topL botL
  rw [getD_map _ _ 0 _ _ h, getD_map _ _ 0 _ _ h, getD_map _ _ 0 _ _ h]
  rfl
theorem intsN_snoc (os : List Nat) (k : Nat) (h : k < os.length) : intsN (os.take (k + 1)) = intsN (os.take k) ++ [((os.getD k 0 : Nat) : Int)] := by
  unfold intsN
  rw [List.take_add_one, List.getElem?_eq_getElem h, List.map_append]
  simp [List.getD, h]
theorem tdiv_nat (a b : Nat) : Int.tdiv (a : Int) (b : Int) = ((a / b : Nat) : Int) := (Int.ofNat_tdiv a b).symm
set_option maxRecDepth 100000 in
set_option maxHeartbeats 6400000 in
theorem specLv_yes (v : Value) (m : MobV) (w : World) (hv : MobRow w v m) (hb : BndM m) (hf : MobF m) :
    Calls Try.prog 40 #[v] w fun e w' => ∃ u, e = .returned (.tuple #[u, .bool (lvOk m)]) ∧ IntRow w' u (if lvOk m = true then intsN (lvR m) else []) ∧ Below w.heap.size w w' := by
  have hg : goodB m = true := (goodB_iff m).2 hf
  have D := Lib.hid (fun w1 (l : Below w.heap.size w w1) => l5Good_any v m w1 (hv.lo l) hf.small hb)
  rw [hg] at D
  have SH := Lib.hid (fun w1 (l : Below w.heap.size w w1) => specShares_any v m w1 (hv.lo l) hf)
  have hN0 := lfT_pos hf
  have hN12 : (lfT m).length ≤ 12 := by have := lfT_len m; have := hf.short; omega
  have SA := Lib.hid (fun k (h : k < (lfT m).length) => share_at m k h)
  have OA := Lib.hid (fun k (h : k < (lfT m).length) => outL_at m k h)
  have KB := Lib.hid (fun k => lcmK_bnd hf k)
  have KS := Lib.hid (fun k (h : k < (lfT m).length) => lcmK_step m k (by rw [botL_len]; exact h))
  have KA := Lib.hid (show lcmK m (lfT m).length = lcmM m by rw [← botL_len]; exact lcmK_all m)
  have K0 := Lib.hid (show lcmK m 0 = 1 from rfl)
  have BB := Lib.hid (fun k (h : k < (lfT m).length) => show 1 ≤ (botL m).getD k 0 ∧ (botL m).getD k 0 ≤ 191102976 from by
    have hm := botL_mem hf _ (getD_mem (botL m) 0 k (by rw [botL_len]; exact h))
    exact ⟨hm.1, Nat.le_trans (Nat.le_of_dvd (prodN_bnd hf _ (Nat.le_refl _)).1 hm.2) (prodN_all hf)⟩)
  have OB := Lib.hid (fun k (h : k < (lfT m).length) => outL_le hf _ (getD_mem (outL m) 0 k (by rw [outL_len]; exact h)))
  have LM := Lib.hid (lcmM_le hf)
  have GT := Lib.hid (fun k => outG_take_le hf k)
  have GS := Lib.hid (fun k (h : k < (lfT m).length) => show ((outL m).take (k + 1)).foldl Nat.gcd 0 = Nat.gcd (((outL m).take k).foldl Nat.gcd 0) ((outL m).getD k 0) from foldl_take _ _ _ _ _ (by rw [outL_len]; exact h))
  have GA := Lib.hid (show ((outL m).take (lfT m).length).foldl Nat.gcd 0 = gcdL (outL m) by rw [← outL_len, List.take_length]; rfl)
  have hgc := outL_gcd hf (by rw [outL_len]; exact hN0)
  have LA := Lib.hid (fun k (h : k < (lfT m).length) => show (lvR m).getD k 0 = (outL m).getD k 0 / gcdL (outL m) by
    rw [lvR_outL hf]
    exact getD_map _ _ _ _ _ (by rw [outL_len]; exact h))
  have hll : (lvR m).length = (lfT m).length := lvR_len m
  have hol : (outL m).length = (lfT m).length := outL_len m
  have OK := Lib.hid (lvOk_iff m)
  have hsl : (shareL m).length = (lfT m).length := by unfold shareL; simp
  have SH2 : Hid (∀ w1, Below w.heap.size w w1 → Calls Try.prog 96 #[v] w1 fun e w' => ∃ u, e = .returned u ∧ OwnS w' w1.heap.size u (shareL m) ∧ Below w1.heap.size w1 w') := SH
  clear SH
  obtain ⟨ok, hok⟩ : ∃ ok, lvOk m = ok := ⟨_, rfl⟩
  rw [hok] at OK
  rw [hok]
  obtain ⟨a, c0, c, d, rfl⟩ := hv.form
  obtain ⟨W, hW⟩ : ∃ W, w.alloc (.cells #[.slice a m.am.length c, .slice c0 m.hu.length d] 27) = W := ⟨_, rfl⟩
  have LW := Lib.hid (show Below w.heap.size w W by rw [← hW]; exact (Below.refl _ _).alloc (Nat.le_refl _) _)
  have BX := Lib.hid (show Box2 W w.heap.size (.slice a m.am.length c) (.slice c0 m.hu.length d) by rw [← hW]; exact box2_new _ _ _ _)
  have D1 := Lib.hid (D.out W LW.out)
  obtain ⟨i0, hi, hz0, hz1, hz2⟩ := info_parts infoInt
  clear hv hb hf D hok hg
  generalize m.am.length = n1 at *
  generalize m.hu.length = n2 at *
  generalize lvR m = rs at *
  generalize outL m = os at *
  generalize botL m = bs at *
  generalize topL m = ts at *
  generalize shareL m = ss at *
  generalize lcmK m = kk at *
  generalize lcmM m = lm at *
  generalize (lfT m).length = N at *
  obtain ⟨_, u0, u1⟩ := BX.out
  go_enter Try.func40, Try.ntmps40
  go_wp2_with fail
  clear hW u0 u1
  refine D1.out.mono ?_
  rintro eq1 w1 ⟨rfl, l1⟩
  have L1 := Lib.hid (lo_on LW.out l1)
  obtain ⟨_, u0, u1⟩ := BX.out.lo l1
  clear l1 D1
  go_wp2_with fail
  refine (SH2.out w1 L1.out).mono ?_
  rintro eq2 w2 ⟨us, rfl, hos, l2⟩
  have L2 := Lib.hid (lo_on L1.out l2)
  obtain ⟨gs, so, sc, rfl, hgs, hcs⟩ := pair_at (loadRow_ownS hos) (by rw [hsl]; exact hN0)
  rw [hsl] at hcs
  rw [hsl]
  have CS := Lib.hid (fun k (hk : k < N) => (by
    have h := hcs k hk
    rw [SA.out k hk] at h
    exact h : w2.cell? ⟨gs, so + k * 2, none⟩ = some (.int .i64 ((ts.getD k 0 : Nat) : Int)) ∧ w2.cell? ⟨gs, so + k * 2 + 1, none⟩ = some (.int .i64 ((bs.getD k 0 : Nat) : Int))))
  clear hcs hos l2 SH2 u0 u1 SA hsl
  have k0 := K0.out
  have M0 := Lib.hid (Below.refl w2.heap.size w2)
  go_wp2
  go_loopw [5, 6] (fun x y wr => ∃ k : Nat, k ≤ N ∧ x = .int .i64 (kk k : Int) ∧ y = .int .i64 k ∧ Hid (Below w2.heap.size w2 wr)) (fun _ y _ => N - (intOf y).toNat)
  case atStart => exact ⟨0, Nat.zero_le _, by rw [k0]; rfl, rfl, M0⟩
  case round =>
    obtain ⟨k, hk, rfl, rfl, HL⟩ := hrel
    obtain ⟨wq, rfl⟩ : ∃ wq : World, wq = wr := ⟨_, rfl⟩
    clear M0 k0
    by_cases hlt : k < N
    · have hlt' : (k : Int) < (N : Int) := by omega
      have c1 := (HL.out.cell (p := ⟨gs, so + k * 2 + 1, none⟩) hgs).trans (CS.out k hlt).2
      have hbb := BB.out k hlt
      have hkb := (KB.out k).2.2
      have hk1 := (KB.out k).1
      have hkb2 := (KB.out (k + 1)).2.2
      have hks := KS.out k hlt
      obtain ⟨b, hb⟩ : ∃ b, bs.getD k 0 = b := ⟨_, rfl⟩
      obtain ⟨L, hL⟩ : ∃ L, kk k = L := ⟨_, rfl⟩
      obtain ⟨r, hr⟩ : ∃ r, kk (k + 1) = r := ⟨_, rfl⟩
      rw [hb] at c1 hbb hks
      rw [hL] at hkb hk1 hks
      rw [hr] at hkb2 hks
      have GC := Lib.hid (fun w1 => l2Gcd_any L b w1 (by omega) (by omega))
      have hg0 : 0 < Nat.gcd L b := Nat.gcd_pos_of_pos_left _ (by omega)
      obtain ⟨g, hg⟩ : ∃ g, Nat.gcd L b = g := ⟨_, rfl⟩
      rw [hg] at GC hg0 hks
      have hq1 : L / g ≤ L := Nat.div_le_self _ _
      obtain ⟨q, hq⟩ : ∃ q, L / g = q := ⟨_, rfl⟩
      rw [hq] at hks hq1
      have hd1 : Int.tdiv (L : Int) (g : Int) = (q : Int) := by rw [tdiv_nat, hq]
      have hwq : IntKind.i64.wrap (q : Int) = (q : Int) := wrap_mid _ (by omega) (by omega)
      have hm : IntKind.i64.wrap ((q : Int) * (b : Int)) = (r : Int) := by rw [← Int.natCast_mul, ← hks]; exact wrap_mid _ (by omega) (by omega)
      have hgn : ¬ g = 0 := by omega
      have hgi : (g : Int) ≠ 0 := by omega
      have hgq : gs < wq.heap.size := Nat.lt_of_lt_of_le hgs HL.out.size
      have HRR := Lib.hid hr
      rw [hL]
      clear hks hq hb hL hr hg
      go_wp2
      go_region_held3 (fun w' => w'.cell? ⟨gs, so + k * 2 + 1, none⟩ = some (.int .i64 (b : Int)))
        (first
          | exact c1
          | exact r1
          | go_keep)
        (first
          | (go_at_call 97; refine (GC.out _).mono ?_; rintro e5 v5 ⟨rfl, l5⟩; have r1 := (l5.cell (p := ⟨gs, so + k * 2 + 1, none⟩) hgq).trans c1))
      have HLn := Lib.hid (lo_on HL.out ((drew_below wq).trans l5))
      clear l5 r1 c1
      go_wp2
      go_roundw
      case rel => exact ⟨k + 1, by omega, by rw [HRR.out], by go_num, HLn⟩
      case measure => simp [intOf]; omega
    · obtain rfl : N = k := by omega
      have hge : ¬ (N : Int) < (N : Int) := by omega
      rw [KA.out]
      have hgq : gs < wq.heap.size := Nat.lt_of_lt_of_le hgs HL.out.size
      have LQ := Lib.hid (lo_on L2.out HL.out)
      obtain ⟨Wo, hWo⟩ : ∃ Wo, wq.alloc (.cells #[] 3) = Wo := ⟨_, rfl⟩
      have O0 := Lib.hid (show OwnI Wo wq.heap.size (.slice (some ⟨wq.heap.size, 0, none⟩) 0 0) (intsN (os.take 0)) by rw [← hWo]; exact ownI_lit0 wq _ (Nat.le_refl _))
      have M1 := Lib.hid (show Below wq.heap.size wq Wo by rw [← hWo]; exact (Below.refl _ _).alloc (Nat.le_refl _) _)
      go_wp2
      clear hWo
      go_loopw [7, 8, 9] (fun u x y wr => ∃ k : Nat, k ≤ N ∧ x = .int .i64 (((os.take k).foldl Nat.gcd 0 : Nat) : Int) ∧ y = .int .i64 k ∧ Hid (OwnI wr wq.heap.size u (intsN (os.take k))) ∧ Hid (Below wq.heap.size wq wr)) (fun _ _ y _ => N - (intOf y).toNat)
      case atStart => exact ⟨0, Nat.zero_le _, rfl, rfl, O0, M1⟩
      case round =>
        obtain ⟨k, hk2, rfl, rfl, HO, HLr⟩ := hrel
        obtain ⟨wx, rfl⟩ : ∃ wx : World, wx = wr := ⟨_, rfl⟩
        clear O0 M1
        by_cases hlt2 : k < N
        · have hlt' : (k : Int) < (N : Int) := by omega
          have LX := lo_on HL.out HLr.out
          have c0 := (LX.cell (p := ⟨gs, so + k * 2, none⟩) hgs).trans (CS.out k hlt2).1
          have c1 := (LX.cell (p := ⟨gs, so + k * 2 + 1, none⟩) hgs).trans (CS.out k hlt2).2
          have hbb := BB.out k hlt2
          have hoa := OA.out k hlt2
          have hob := OB.out k hlt2
          have hlm := LM.out
          have hgs2 := GS.out k hlt2
          have hgt := GT.out k
          have HSN := Lib.hid (intsN_snoc os k (by omega))
          have hlen : (intsN (os.take k)).length = k := by rw [intsN_len, List.length_take]; omega
          have hown := HO.out
          unfold OwnI at hown
          rw [hlen] at hown
          have ag : u7.ownBlock ≠ some gs := fun h => by have := (hown.lt gs h).1; omega
          obtain ⟨b, hb⟩ : ∃ b, bs.getD k 0 = b := ⟨_, rfl⟩
          obtain ⟨t, ht⟩ : ∃ t, ts.getD k 0 = t := ⟨_, rfl⟩
          obtain ⟨y, hy⟩ : ∃ y, os.getD k 0 = y := ⟨_, rfl⟩
          obtain ⟨cm, hcm⟩ : ∃ cm, (os.take k).foldl Nat.gcd 0 = cm := ⟨_, rfl⟩
          rw [hb] at c1 hbb hoa
          rw [ht] at c0 hoa
          rw [hy] at hoa hob HSN hgs2
          rw [hcm] at hgt hgs2
          rw [hcm]
          have hq1 : lm / b ≤ lm := Nat.div_le_self _ _
          obtain ⟨q, hq⟩ : ∃ q, lm / b = q := ⟨_, rfl⟩
          rw [hq] at hoa hq1
          have hd1 : Int.tdiv (lm : Int) (b : Int) = (q : Int) := by rw [tdiv_nat, hq]
          have hwq : IntKind.i64.wrap (q : Int) = (q : Int) := wrap_mid _ (by omega) (by omega)
          have hm : IntKind.i64.wrap ((q : Int) * (t : Int)) = (y : Int) := by rw [← Int.natCast_mul, ← hoa]; exact wrap_mid _ (by omega) (by omega)
          have hbn : ¬ b = 0 := by omega
          have hbi : (b : Int) ≠ 0 := by omega
          have hgx : gs < wx.heap.size := Nat.lt_of_lt_of_le hgq HLr.out.size
          have hbx := HLr.out.size
          have MO := Lib.hid (fun w1 => most_nat cm y w1)
          have LE := Lib.hid (fun w1 => least_nat cm y w1)
          have GG := Lib.hid (fun w1 => l2Gcd_any (if y < cm then cm else y) (if cm < y then cm else y) w1 (by split <;> omega) (by split <;> omega))
          rw [gcd_sort, ← hgs2] at GG
          generalize (if y < cm then cm else y) = mx at *
          generalize (if cm < y then cm else y) = mn at *
          obtain ⟨gr, hgr⟩ : ∃ gr, (os.take (k + 1)).foldl Nat.gcd 0 = gr := ⟨_, rfl⟩
          rw [hgr] at GG
          have HGR := Lib.hid hgr
          obtain ⟨X, hX⟩ : ∃ X, intsN (os.take k) = X := ⟨_, rfl⟩
          rw [hX] at hown hlen HSN
          have HXL := Lib.hid hlen
          clear hoa hq hb ht hy hcm hgs2 hgr HO hX hlen LX
          go_wp2
          go_region_held3 (fun w' => w'.cell? ⟨gs, so + k * 2, none⟩ = some (.int .i64 (t : Int)) ∧ w'.cell? ⟨gs, so + k * 2 + 1, none⟩ = some (.int .i64 (b : Int)))
            (first
              | exact ⟨c0, c1⟩
              | go_keep
              | (go_split_ands
                 refine ⟨?_, ?_⟩
                 · (rw [hgrow.cell_far _ (by simp; omega) (Ne.symm ag)]; assumption)
                 · (rw [hgrow.cell_far _ (by simp; omega) (Ne.symm ag)]; assumption)))
            ((refine step_append_lies _ (by rfl) _ _ _ (by rfl) wq.heap.size 3 i0 _ 1 8 Try.underlying31 hi hz0 hz1 hz2 rfl (by omega) u7 k _ (by rfl) ((hown.alloc _).drew)
                ⟨wx.heap.size, 0, none⟩ 1 1 [.int .i64 (y : Int)] (by rfl) (by rfl) (World.news_of_block (cs := #[.int .i64 (y : Int)]) (t := 3) (fr := (0, 0)) (heap_alloc_new wx _)) (by simp [Value.oneCell'])
                (by omega) (by unfold maxLen; omega) (by omega) (by simp; omega) (wx.heap.size + 1) (by simp) ?_; intro gg cap w5 hown1 hgrow hat hlt))
          have HNN := Lib.hid (show OwnI w5 wq.heap.size (.slice (some ⟨gg, 0, none⟩) (k + 1) cap) (intsN (os.take (k + 1))) by rw [HSN.out]; exact ownI_snoc hown1 HXL.out)
          have HLN := Lib.hid (show Below wq.heap.size wq w5 from ((HLr.out.alloc hbx _).drew).grown hgrow (by simp; omega) (fun q hq => (hown.lt q hq).1))
          have cy : w5.cell? ⟨gg, k, none⟩ = some (.int .i64 (y : Int)) := by
            have h := hown1.cellAt k (by omega)
            rw [h, List.getElem?_append_right (by simp [icells]; have := HXL.out; omega)]
            have hl : (icells X).length = k := by simp [icells]; exact HXL.out
            rw [hl, Nat.sub_self]
            rfl
          have hgg5 : gg < w5.heap.size := hlt
          clear hown1 hgrow hat hown c0 c1 ag
          go_wp2
          have hkk1 : (k : Int) < (k : Int) + 1 := by omega
          have hkk2 : (k : Int) < ((k + 1 : Nat) : Int) := by omega
          go_region_held3 (fun w' => w'.cell? ⟨gg, k, none⟩ = some (.int .i64 (y : Int)))
            (first
              | exact cy
              | exact r1
              | go_keep)
            (first
              | (go_at_call 98; refine (MO.out _).mono ?_; rintro e5 v5 ⟨rfl, rfl⟩)
              | (go_at_call 99; refine (LE.out _).mono ?_; rintro e5 v5 ⟨rfl, rfl⟩)
              | (go_at_call 97; refine (GG.out _).mono ?_; rintro e6 v6 ⟨rfl, l6⟩; have r1 := (l6.cell (p := ⟨gg, k, none⟩) hgg5).trans cy))
          all_goals
            have HN6 := Lib.hid (show OwnI v6 wq.heap.size (.slice (some ⟨gg, 0, none⟩) (k + 1) cap) (intsN (os.take (k + 1))) from ownsRow_lo HNN.out ((drew_below w5).trans l6))
            have HL6 := Lib.hid (HLN.out.trans (((drew_below w5).trans l6).mono HLN.out.size))
            clear HNN HLN l6 r1 cy
            go_wp2
            go_roundw
            case rel => exact ⟨k + 1, by omega, by rw [HGR.out], by go_num, HN6, HL6⟩
            case measure => simp [intOf]; omega
        · obtain rfl : N = k := by omega
          rw [GA.out]
          obtain ⟨c, hc⟩ : ∃ c, gcdL os = c := ⟨_, rfl⟩
          rw [hc] at hgc LA
          rw [hc]
          have hto : os.take N = os := List.take_of_length_le (by omega)
          rw [hto] at HO
          have hoI : (intsN os).length = N := by rw [intsN_len]; exact hol
          have hrI : (intsN rs).length = N := by rw [intsN_len]; exact hll
          obtain ⟨gw, cap, rfl, hgB, hgl⟩ := (show wx.ownsRow wq.heap.size 3 1 u7 (intsN os).length (icells (intsN os)) from HO.out).form (by rw [hoI]; exact hN0)
          rw [hoI] at HO
          rw [hoI]
          have O3 := Lib.hid (show OwnI wx wq.heap.size (.slice (some ⟨gw, 0, none⟩) N cap) ((intsN rs).take 0 ++ (intsN os).drop 0) by rw [List.take_zero, List.nil_append, List.drop_zero]; exact HO.out)
          have hge2 : ¬ (N : Int) < (N : Int) := by omega
          have L3 := Lib.hid (lo_on LQ.out HLr.out)
          have hwq2 := LQ.out.size
          clear HO hc hto
          go_wp2
          go_loopw [10] (fun y wr => ∃ k : Nat, k ≤ N ∧ y = .int .i64 k ∧ Hid (OwnI wr wq.heap.size (.slice (some ⟨gw, 0, none⟩) N cap) ((intsN rs).take k ++ (intsN os).drop k)) ∧ Hid (∀ j, j < k → rs.getD j 0 ≤ 99) ∧ Hid (Below w.heap.size w wr)) (fun y _ => N - (intOf y).toNat)
          case atStart => exact ⟨0, Nat.zero_le _, rfl, O3, Lib.hid (fun j hj => by omega), L3⟩
          case round =>
            obtain ⟨k, hk3, rfl, HO, HAL, HL⟩ := hrel
            obtain ⟨wr, rfl⟩ : ∃ w0 : World, w0 = wr := ⟨_, rfl⟩
            clear O3 L3
            have hml := mix_len (intsN rs) (intsN os) k (by omega) (by omega)
            have hown : wr.ownsRow wq.heap.size 3 1 (.slice (some ⟨gw, 0, none⟩) N cap) N (icells ((intsN rs).take k ++ (intsN os).drop k)) := by
              have h := HO.out
              unfold OwnI at h
              rw [hml, hoI] at h
              exact h
            by_cases hkl : k < N
            · have hkl' : (k : Int) < (N : Int) := by omega
              have ck := hown.cellAt k (by omega)
              rw [icells_at _ k (by omega), mix_at _ _ k (by omega) (by omega), intsN_at _ k (by omega)] at ck
              have fk := hown.frozenAt k
              have st := hown.stored k (.int .i64 ((rs.getD k 0 : Nat) : Int))
              rw [icells_set] at st
              have hms := mix_set (intsN rs) (intsN os) k (by omega) (by omega)
              rw [intsN_at _ k (by omega)] at hms
              rw [hms] at st
              have hml2 := mix_len (intsN rs) (intsN os) (k + 1) (by omega) (by omega)
              have HN := Lib.hid (show OwnI (wr.setCell ⟨gw, k, none⟩ (.int .i64 ((rs.getD k 0 : Nat) : Int))) wq.heap.size (.slice (some ⟨gw, 0, none⟩) N cap) ((intsN rs).take (k + 1) ++ (intsN os).drop (k + 1)) by
                unfold OwnI
                rw [hml2, hoI]
                exact st.1)
              have HLN := Lib.hid (HL.out.setCell (p := ⟨gw, k, none⟩) (by show w.heap.size ≤ gw; omega) (.int .i64 ((rs.getD k 0 : Nat) : Int)))
              have na := OB.out k hkl
              have la := LA.out k hkl
              have HMEM := Lib.hid (show ((rs.getD k 0 : Nat) : Int) ∈ intsN rs by rw [← intsN_at rs k (by omega)]; exact getD_mem _ _ _ (by omega))
              have HAS := Lib.hid (fun (h : rs.getD k 0 ≤ 99) j (hj : j < k + 1) => show rs.getD j 0 ≤ 99 from by
                by_cases e : j = k
                · rw [e]; exact h
                · exact HAL.out j (by omega))
              obtain ⟨x, hx⟩ : ∃ x, os.getD k 0 = x := ⟨_, rfl⟩
              obtain ⟨y, hy⟩ : ∃ y, rs.getD k 0 = y := ⟨_, rfl⟩
              rw [hx] at na la ck
              rw [hy] at la HN HLN HMEM HAS
              have cs := cell_set wr gw k (.int .i64 (y : Int)) ck
              have hyx : y ≤ x := by rw [la]; exact Nat.div_le_self _ _
              have hdv : Int.tdiv (x : Int) (c : Int) = (y : Int) := by rw [la]; exact tdiv_nat x c
              have hwy : IntKind.i64.wrap (y : Int) = (y : Int) := wrap_mid _ (by omega) (by omega)
              have hc0 : ¬ c = 0 := by omega
              have hc0' : ¬ (c : Int) = 0 := by omega
              clear hx hy la hms st hown HO hml hml2 HAL
              by_cases h99 : y ≤ 99
              · have HA9 := Lib.hid (HAS.out h99)
                have h9 : ¬ (99 : Int) < (y : Int) := by omega
                clear HAS
                go_wp2
                go_roundw
                case rel => exact ⟨k + 1, by omega, by go_num, HN, HA9, HLN⟩
                case measure => simp [intOf]; omega
              · have h9 : (99 : Int) < (y : Int) := by omega
                have e1 : ok = false := by
                  cases ok with
                  | false => rfl
                  | true => have := OK.out.1 rfl _ HMEM.out; omega
                subst e1
                have LF := Lib.hid (show Below w.heap.size w ((wr.setCell ⟨gw, k, none⟩ (.int .i64 (y : Int))).alloc (.cells #[] 3)) from HLN.out.alloc HLN.out.size _)
                clear HAS OK
                go_wp2
                go_ret2
                exact ⟨_, rfl, intRow_nil _ _ _, LF.out⟩
            · obtain rfl : N = k := by omega
              have hge3 : ¬ (N : Int) < (N : Int) := by omega
              have hmx : (intsN rs).take N ++ (intsN os).drop N = intsN rs := by
                rw [List.take_of_length_le (by omega), List.drop_of_length_le (by omega), List.append_nil]
              rw [hmx] at HO
              have e1 : ok = true := OK.out.2 (fun x hx => by
                obtain ⟨y, hy, rfl⟩ := List.mem_map.1 hx
                obtain ⟨j, hj, he⟩ := List.getElem_of_mem hy
                have := HAL.out j (by omega)
                rw [show rs.getD j 0 = rs[j] by simp [List.getD, hj], he] at this
                omega)
              subst e1
              have HRW := Lib.hid (show IntRow wr (.slice (some ⟨gw, 0, none⟩) N cap) (intsN rs) from HO.out.mine.row)
              clear hown hml HO OK
              go_wp2
              go_ret2
              exact ⟨_, rfl, HRW.out, HL.out⟩
set_option maxRecDepth 100000 in
theorem specLv_no (v : Value) (m : MobV) (w : World) (hv : MobRow w v m) (hs : SmallM m) (hb : BndM m) (hf : goodB m = false) :
    Calls Try.prog 40 #[v] w fun e w' => ∃ u, e = .returned (.tuple #[u, .bool false]) ∧ IntRow w' u [] ∧ Below w.heap.size w w' := by
  have D := Lib.hid (fun w1 (l : Below w.heap.size w w1) => l5Good_any v m w1 (hv.lo l) hs hb)
  rw [hf] at D
  obtain ⟨a, b, c, d, rfl⟩ := hv.form
  obtain ⟨W, hW⟩ : ∃ W, w.alloc (.cells #[.slice a m.am.length c, .slice b m.hu.length d] 27) = W := ⟨_, rfl⟩
  have LW := Lib.hid (show Below w.heap.size w W by rw [← hW]; exact (Below.refl _ _).alloc (Nat.le_refl _) _)
  have BX := Lib.hid (show Box2 W w.heap.size (.slice a m.am.length c) (.slice b m.hu.length d) by rw [← hW]; exact box2_new _ _ _ _)
  have D1 := Lib.hid (D.out W LW.out)
  generalize m.am.length = n at *
  generalize m.hu.length = n2 at *
  clear hv hs hb D hf
  obtain ⟨_, u0, u1⟩ := BX.out
  go_enter Try.func40, Try.ntmps40
  go_wp2_with fail
  clear hW u0 u1
  refine D1.out.mono ?_
  rintro e' w1 ⟨rfl, l1⟩
  have L1 := Lib.hid (lo_on LW.out l1)
  have LF := Lib.hid (show Below w.heap.size w (w1.alloc (.cells #[] 3)) from L1.out.alloc L1.out.size _)
  clear l1 D1
  go_wp2
  go_ret2
  exact ⟨_, rfl, intRow_nil _ _ _, LF.out⟩
theorem specLv_any (v : Value) (m : MobV) (w : World) (hv : MobRow w v m) (hs : SmallM m) (hb : BndM m) :
    Calls Try.prog 40 #[v] w fun e w' => ∃ u, e = .returned (.tuple #[u, .bool (lvB m)]) ∧ IntRow w' u (lvYs m) ∧ Below w.heap.size w w' := by
  unfold lvYs lvB
  cases hg : goodB m with
  | false =>
    simp only [Bool.false_and, Bool.false_eq_true, if_false]
    exact specLv_no v m w hv hs hb hg
  | true =>
    rw [Bool.true_and]
    exact specLv_yes v m w hv hb ((goodB_iff m).1 hg)
end Go.Proofs.Ytnadchgekfljkaa
