/- FhI, FhJ, as one text. -/
import Derived.Test.YthncgcdnljoakaaG31
import Derived.Test.YthncgcdnljoakaaG32
import Derived.Test.YthncgcdnljoakaaG33
namespace Go.Proofs.Ythncgcdnljoakaa
open Go.RowKit
set_option maxRecDepth 100000 in
theorem vals_is (a : Option Addr) (n c : Nat) (w : World) : Calls Try.prog 117 #[.slice a n c] w fun e w' => e = .returned (.func (.func 152) #[] #[.pointer (some ⟨w.heap.size, 0, none⟩)]) ∧ w' = w.alloc (.cells #[.slice a n c] 38) := by
  go_enter Try.func117, Try.ntmps117
  go_wp2
  go_ret
  exact ⟨rfl, rfl⟩
/-- A sorted copy of a row. -/
theorem sorted_row (g off c : Nat) (xs : List Int) (h0 : 0 < xs.length) (hx : xs.length ≤ 2000) (w : World) (k2 : g < w.heap.size) (hc : ∀ j, j < xs.length → w.cell? ⟨g, off + j, none⟩ = some (.int .i64 (xs.getD j 0))) :
    Calls Try.prog 116 #[.func (.func 152) #[] #[.pointer (some ⟨w.heap.size, 0, none⟩)]] (w.alloc (.cells #[.slice (some ⟨g, off, none⟩) xs.length c] 38)) fun e w' => ∃ gs cap, e = .returned (.slice (some ⟨gs, 0, none⟩) xs.length cap) ∧ gs < w'.heap.size ∧ (∀ j, j < xs.length → w'.cell? ⟨gs, 0 + j, none⟩ = some (.int .i64 ((sortI xs).getD j 0))) ∧ Below w.heap.size w w' := by
  have hl : Below w.heap.size w (w.alloc (.cells #[.slice (some ⟨g, off, none⟩) xs.length c] 38)) := (Below.refl _ _).alloc (Nat.le_refl _) _
  refine (sorted_is w.heap.size g off c xs h0 hx _ (by simp) (by simp; omega) ((World.cell?_alloc_at _ _ _ _ rfl).trans rfl) (fun j hj => (hl.cell (p := ⟨g, off + j, none⟩) k2).trans (hc j hj))).mono ?_
  rintro e w' ⟨gs, cap, rfl, ho, l⟩
  refine ⟨gs, cap, rfl, (ho.lt gs rfl).2, fun j hj => ?_, hl.trans (l.mono (by simp))⟩
  rw [Nat.zero_add, ho.cellAt j (by omega), icells_at _ j (by rw [sortI_len]; exact hj)]
theorem equal_is (g1 g2 c1 c2 n : Nat) (xs ys : List Int) (w : World) (hx : xs.length = n) (hy : ys.length = n) (hn : n ≤ 2000) (r : Bool) (hr : (xs = ys) ↔ r = true) (h1 : ∀ j, j < n → w.cell? ⟨g1, 0 + j, none⟩ = some (.int .i64 (xs.getD j 0))) (h2 : ∀ j, j < n → w.cell? ⟨g2, 0 + j, none⟩ = some (.int .i64 (ys.getD j 0))) :
    Calls Try.prog 115 #[.slice (some ⟨g1, 0, none⟩) n c1, .slice (some ⟨g2, 0, none⟩) n c2] w fun e w' => e = .returned (.bool r) ∧ ∃ q, w' = w.drewN q := by
  refine (Try.slices_Equal_int g1 0 n c1 g2 0 n c2 xs ys w (by omega) (by omega) (by omega) (by omega) (fun j hj => h1 j (by omega)) (fun j hj => h2 j (by omega))).mono ?_
  rintro e w' ⟨rfl, q, rfl⟩
  refine ⟨?_, q, rfl⟩
  rw [List.take_of_length_le (by omega), List.take_of_length_le (by omega)]
  congr 2
  cases r with
  | true => rw [hr.2 rfl]; simp
  | false =>
    rw [Bool.eq_false_iff]
    intro h
    have := hr.1 (by simpa using h)
    cases this
theorem timesL_at2 (m : MobV) (c k : Nat) (h : k < (lvR m).length) : (timesL m c).getD k 0 = ((c * (lvR m).getD k 0 : Nat) : Int) := by
  unfold timesL
  rw [intsN_at _ _ (by simp; exact h), getD_map _ _ 0 _ _ h]
theorem timesL_len (m : MobV) (c : Nat) : (timesL m c).length = (lvR m).length := by unfold timesL; rw [intsN_len, List.length_map]
set_option maxRecDepth 100000 in
set_option maxHeartbeats 6400000 in
theorem fh_yes (v vx : Value) (m : MobV) (ws : List Int) (w : World) (hv : MobRow w v m) (hs : SmallM m) (hb : BndM m) (hx : IntRow w vx ws) (hxb : ∀ i, -9223372036854775808 ≤ ws.getD i 0 ∧ ws.getD i 0 ≤ 9223372036854775807) (hf : MobF m) (ha : areB ws ((m.am.length : Int) + 1) = true) (hok : lvOk m = true) (rb : Bool) (hrb : fhP m ws ↔ rb = true) :
    Calls Try.prog 62 #[v, vx] w fun e w' => ∃ u, e = .returned (.tuple #[u, .bool rb]) ∧ MineI w' w.heap.size w'.heap.size u (if rb = true then timesL m (fhC m ws) else []) ∧ Below w.heap.size w w' := by
  have hhb : hangB m ws = true := by unfold hangB; rw [(goodB_iff m).2 hf, ha]; rfl
  have HA := Lib.hid (fun w1 (l : Below w.heap.size w w1) => hang_any v vx m ws w1 (hv.lo l) hs hb (hx.lo l) hxb)
  rw [hhb] at HA
  have LV := Lib.hid (fun w1 (l : Below w.heap.size w w1) => lvW_yes v m w1 (hv.lo l) hb hf)
  rw [hok, if_pos rfl] at LV
  obtain ⟨hw1, hw2⟩ := (areB_iff _ _).1 ha
  have h1 := hf.one
  have h6 := hf.short
  have hrl : (lvR m).length = m.am.length + 1 := by rw [lvR_len, lfT_total hf]
  obtain ⟨N, hN⟩ : ∃ N, m.am.length + 1 = N := ⟨_, rfl⟩
  have hwl : ws.length = N := by omega
  have hN07 : 0 < N ∧ N ≤ 7 := by omega
  have hrN : (lvR m).length = N := by omega
  have hsw := sumI_bnd 1 99 ws (fun x hm => by
    obtain ⟨j, hj, he⟩ := List.getElem_of_mem hm
    have := hw1 j hj
    rw [show ws.getD j 0 = ws[j] by simp [List.getD, hj], he] at this
    exact this)
  have hlv99 : ∀ x, x ∈ intsN (lvR m) → 1 ≤ x ∧ x ≤ 99 := fun x hm => by
    have h9 := (lvOk_iff m).1 hok x hm
    obtain ⟨y, hy, rfl⟩ := List.mem_map.1 hm
    have := lvR_pos hf y hy
    omega
  have hsl := sumI_bnd 1 99 (intsN (lvR m)) hlv99
  rw [intsN_len, hrl, hN] at hsl
  rw [hwl] at hsw
  have SW := Lib.hid (fun u w1 (h : RowS w1 u ws) => sumOf_is u ws w1 h (by omega) (fun x hm => by
    obtain ⟨j, hj, he⟩ := List.getElem_of_mem hm
    have := hw1 j hj
    rw [show ws.getD j 0 = ws[j] by simp [List.getD, hj], he] at this
    omega))
  have SL := Lib.hid (fun u w1 (h : RowS w1 u (intsN (lvR m))) => sumOf_is u (intsN (lvR m)) w1 h (by rw [intsN_len]; omega) (fun x hm => by have := hlv99 x hm; omega))
  have hC : fhC m ws = (sumI ws / sumI (intsN (lvR m))).toNat := rfl
  have HR := Lib.hid (show sortI (timesL m (fhC m ws)) = sortI ws ↔ rb = true from (sortI_iff _ _).trans ((fh_iff hf ha).symm.trans hrb))
  have TA := Lib.hid (fun k (h : k < (lvR m).length) => timesL_at2 m (fhC m ws) k h)
  have hTL := timesL_len m (fhC m ws)
  have LB := Lib.hid (fun k (h : k < (lvR m).length) => show 1 ≤ (lvR m).getD k 0 ∧ (lvR m).getD k 0 ≤ 99 from by
    have := hlv99 ((lvR m).getD k 0 : Nat) (List.mem_map.2 ⟨_, getD_mem (lvR m) 0 k h, rfl⟩)
    omega)
  generalize timesL m (fhC m ws) = tl at *
  generalize fhC m ws = C at *
  generalize lvR m = rs at *
  obtain ⟨s1, hs1⟩ : ∃ s, sumI ws = s := ⟨_, rfl⟩
  obtain ⟨s2, hs2⟩ : ∃ s, sumI (intsN rs) = s := ⟨_, rfl⟩
  rw [hs1] at hsw hC SW
  rw [hs2] at hsl hC SL
  have hq0 : 0 ≤ s1 / s2 := Int.ediv_nonneg (by omega) (by omega)
  have hq1 : s1 / s2 ≤ s1 := Int.ediv_le_self _ (by omega)
  have hdv : Int.tdiv s1 s2 = (C : Int) := by rw [Int.tdiv_eq_ediv_of_nonneg (by omega), hC]; omega
  have hC7 : C ≤ 693 := by omega
  have hwC : IntKind.i64.wrap (C : Int) = (C : Int) := wrap_mid _ (by omega) (by omega)
  have hs20 : ¬ s2 = 0 := by omega
  obtain ⟨a, c0, c, d, rfl⟩ := hv.form
  have hws := hx
  obtain ⟨aw, cw, rfl, hxx⟩ := hx
  rcases hxx with h | ⟨gx, ox, rfl, hgx, hcx⟩
  · rw [h] at hwl; simp at hwl; omega
  rw [hwl] at hcx
  rw [hwl]
  have HWL := Lib.hid hwl
  have CX := Lib.hid hcx
  obtain ⟨W, hW⟩ : ∃ W, w.alloc (.cells #[.slice a m.am.length c, .slice c0 m.hu.length d] 62) = W := ⟨_, rfl⟩
  have LW := Lib.hid (show Below w.heap.size w W by rw [← hW]; exact (Below.refl _ _).alloc (Nat.le_refl _) _)
  have BX := Lib.hid (show Box2 W w.heap.size (.slice a m.am.length c) (.slice c0 m.hu.length d) by rw [← hW]; exact box2_new _ _ _ _)
  have H1 := Lib.hid (HA.out W LW.out)
  rw [hwl] at H1
  clear hv hs hb hws hxb hf ha hok hrb hhb hw1 hw2 hlv99 hcx hs1 hs2 hC HA hN
  generalize m.am.length = n1 at *
  generalize m.hu.length = n2 at *
  obtain ⟨_, u0, u1⟩ := BX.out
  go_enter Try.func62, Try.ntmps62
  go_wp2_with fail
  clear hW u0 u1
  refine H1.out.mono ?_
  rintro e w1 ⟨uh, rfl, hm, l1⟩
  have L1 := Lib.hid (lo_on LW.out l1)
  obtain ⟨ha0, hb0, hc0, hd0, rfl⟩ := hm.row.form
  obtain ⟨_, u0, u1⟩ := BX.out.lo l1
  clear H1 hm u0 u1
  obtain ⟨wy, hwy⟩ : ∃ wy, w1.alloc (.cells #[.slice ha0 (hungM m ws).am.length hc0, .slice hb0 (hungM m ws).hu.length hd0] 62) = wy := ⟨_, rfl⟩
  have ly : Below w1.heap.size w1 wy := by rw [← hwy]; exact (Below.refl _ _).alloc (Nat.le_refl _) _
  have LY := Lib.hid (lo_on L1.out ly)
  have LV1 := Lib.hid (LV.out wy LY.out)
  generalize (hungM m ws).am.length = q1 at *
  generalize (hungM m ws).hu.length = q2 at *
  have hbw := BX.out.lo (lo_on (Below.refl W.heap.size W) l1 |>.trans (ly.mono l1.size))
  obtain ⟨_, u0, u1⟩ := hbw
  clear l1 ly LV
  go_wp2_with fail
  clear hwy u0 u1
  refine LV1.out.mono ?_
  rintro e w2 ⟨uo, rfl, oo, l2⟩
  have L2 := Lib.hid (lo_on LY.out l2)
  have hrI : (intsN rs).length = N := by rw [intsN_len]; omega
  have hyb := LY.out.size
  have OO := Lib.hid oo
  unfold OwnI at oo
  rw [hrI] at oo
  obtain ⟨go, cap, rfl, hgB, hgl⟩ := oo.form hN07.1
  have hgl2 := Nat.lt_of_lt_of_le hgx L2.out.size
  have R1 := Lib.hid (show RowS w2 (.slice (some ⟨gx, ox, none⟩) N cw) ws from ⟨gx, ox, cw, by rw [HWL.out], hgl2, fun j hj => by rw [L2.out.cell (p := ⟨gx, ox + j, none⟩) hgx]; exact CX.out j (by have := HWL.out; omega)⟩)
  have R2 := Lib.hid (show RowS w2 (.slice (some ⟨go, 0, none⟩) N cap) (intsN rs) from ⟨go, 0, cap, by rw [hrI], hgl, fun j hj => by rw [Nat.zero_add]; exact own_part oo hrI j (by omega)⟩)
  have S1 := Lib.hid (SW.out _ w2 R1.out)
  clear l2 LV1 SW
  go_wp2_with fail
  refine S1.out.mono ?_
  rintro e w3 ⟨rfl, d1, rfl⟩
  have S2 := Lib.hid (SL.out _ (w2.drewN d1) (R2.out.lo (drewN_lo _ _)))
  clear S1 SL
  go_wp2_with fail
  refine S2.out.mono ?_
  rintro e w4 ⟨rfl, d2, rfl⟩
  have L4 := Lib.hid (show Below w.heap.size w ((w2.drewN d1).drewN d2) from lo_drewN (lo_drewN L2.out d1) d2)
  have O4 := Lib.hid (show OwnI ((w2.drewN d1).drewN d2) wy.heap.size (.slice (some ⟨go, 0, none⟩) N cap) (tl.take 0 ++ (intsN rs).drop 0) by rw [List.take_zero, List.nil_append, List.drop_zero]; exact OO.out)
  have hgl4 : go < ((w2.drewN d1).drewN d2).heap.size := hgl
  have htI : tl.length = N := by omega
  clear S2 OO oo R2 hgl R1 hgl2 L2
  generalize (w2.drewN d1).drewN d2 = w4 at *
  go_wp2
  go_loopw [36] (fun y wr => ∃ k : Nat, k ≤ N ∧ y = .int .i64 k ∧ Hid (OwnI wr wy.heap.size (.slice (some ⟨go, 0, none⟩) N cap) (tl.take k ++ (intsN rs).drop k)) ∧ Hid (Below w.heap.size w wr) ∧ go < wr.heap.size) (fun y _ => N - (intOf y).toNat)
  case atStart => exact ⟨0, Nat.zero_le _, rfl, O4, L4, hgl4⟩
  case round =>
    obtain ⟨k, hk, rfl, HO, HL, hgr⟩ := hrel
    obtain ⟨wq, rfl⟩ : ∃ wq : World, wq = wr := ⟨_, rfl⟩
    clear O4 L4 hgl4
    have hml := mix_len tl (intsN rs) k (by omega) (by omega)
    have hown : wq.ownsRow wy.heap.size 3 1 (.slice (some ⟨go, 0, none⟩) N cap) N (icells (tl.take k ++ (intsN rs).drop k)) := by
      have h := HO.out
      unfold OwnI at h
      rw [hml, hrI] at h
      exact h
    by_cases hkl : k < N
    · have hkl' : (k : Int) < (N : Int) := by omega
      have ck := hown.cellAt k (by omega)
      rw [icells_at _ k (by omega), mix_at _ _ k (by omega) (by omega), intsN_at _ k (by omega)] at ck
      have fk := hown.frozenAt k
      have hta := TA.out k (by omega)
      have hlb := LB.out k (by omega)
      have st := hown.stored k (.int .i64 (tl.getD k 0))
      rw [icells_set, mix_set tl (intsN rs) k (by omega) (by omega)] at st
      have hml2 := mix_len tl (intsN rs) (k + 1) (by omega) (by omega)
      have HN := Lib.hid (show OwnI (wq.setCell ⟨go, k, none⟩ (.int .i64 (tl.getD k 0))) wy.heap.size (.slice (some ⟨go, 0, none⟩) N cap) (tl.take (k + 1) ++ (intsN rs).drop (k + 1)) by
        unfold OwnI
        rw [hml2, hrI]
        exact st.1)
      have HLN := Lib.hid (HL.out.setCell (p := ⟨go, k, none⟩) (by show w.heap.size ≤ go; omega) (.int .i64 (tl.getD k 0)))
      obtain ⟨x, hx⟩ : ∃ x, rs.getD k 0 = x := ⟨_, rfl⟩
      obtain ⟨y, hy⟩ : ∃ y, tl.getD k 0 = y := ⟨_, rfl⟩
      rw [hx] at hta hlb ck
      rw [hy] at hta HN HLN
      have hcx : C * x ≤ 693 * 99 := Nat.mul_le_mul hC7 hlb.2
      have hw : IntKind.i64.wrap ((x : Int) * (C : Int)) = y := by rw [hta, ← Int.natCast_mul, Nat.mul_comm]; exact wrap_mid _ (by omega) (by omega)
      clear hx hy hta st hown HO hml hml2
      go_wp2
      go_roundw
      case rel => exact ⟨k + 1, by omega, by go_num, HN, HLN, by simpa using hgr⟩
      case measure => simp [intOf]; omega
    · obtain rfl : N = k := by omega
      have hge : ¬ (N : Int) < (N : Int) := by omega
      have hmx : tl.take N ++ (intsN rs).drop N = tl := by
        rw [List.take_of_length_le (by omega), List.drop_of_length_le (by omega), List.append_nil]
      rw [hmx] at HO hown
      have hgxq : gx < wq.heap.size := Nat.lt_of_lt_of_le hgx HL.out.size
      have SR1 := Lib.hid (sorted_row go 0 cap tl (by omega) (by omega) wq hgr (fun j hj => by rw [Nat.zero_add]; exact own_part hown htI j (by omega)))
      rw [htI] at SR1
      have V1 := Lib.hid (vals_is (some ⟨go, 0, none⟩) N cap wq)
      have HOW := Lib.hid (show OwnI wq w.heap.size (.slice (some ⟨go, 0, none⟩) N cap) tl from ⟨HO.out.1, HO.out.2.imp id (fun ⟨g', cap, cur, a1, a2, a3⟩ => ⟨g', cap, cur, a1, by omega, a3⟩)⟩)
      have CXQ := Lib.hid (fun w5 (l : Below wq.heap.size wq w5) j (hj : j < ws.length) => (show w5.cell? ⟨gx, ox + j, none⟩ = some (.int .i64 (ws.getD j 0)) by
        rw [l.cell (p := ⟨gx, ox + j, none⟩) hgxq, HL.out.cell (p := ⟨gx, ox + j, none⟩) hgx]
        exact CX.out j (by have := HWL.out; omega)))
      clear hown HO hml hmx
      go_wp2_with fail
      refine V1.out.mono ?_
      rintro e w' ⟨rfl, rfl⟩
      go_wp2_with fail
      refine SR1.out.mono ?_
      rintro e w5 ⟨g1, c1, rfl, hg1, hc1, l5⟩
      have L5 := Lib.hid l5
      have C1 := Lib.hid hc1
      have SR2 := Lib.hid (sorted_row gx ox cw ws (by have := HWL.out; omega) (by have := HWL.out; omega) w5 (Nat.lt_of_lt_of_le hgxq l5.size) (CXQ.out w5 l5))
      have V2 := Lib.hid (vals_is (some ⟨gx, ox, none⟩) N cw w5)
      rw [HWL.out] at SR2
      clear SR1 V1 l5 hc1 CXQ
      go_wp2_with fail
      refine V2.out.mono ?_
      rintro e w' ⟨rfl, rfl⟩
      go_wp2_with fail
      refine SR2.out.mono ?_
      rintro e w6 ⟨g2, c2, rfl, hg2, hc2, l6⟩
      have L6 := Lib.hid (L5.out.trans (l6.mono L5.out.size))
      have EQ := Lib.hid (equal_is g1 g2 c1 c2 N (sortI tl) (sortI ws) w6 (by rw [sortI_len]; exact htI) (by rw [sortI_len]; exact HWL.out) (by omega) rb HR.out (fun j hj => by
        rw [l6.cell (p := ⟨g1, 0 + j, none⟩) hg1]
        exact C1.out j hj) hc2)
      clear SR2 V2 l6 hc2 C1 L5
      go_wp2_with fail
      refine EQ.out.mono ?_
      rintro e w7 ⟨rfl, q, hw7⟩
      have L7 := Lib.hid (show Below w.heap.size w w7 by rw [hw7]; exact lo_drewN (HL.out.trans (L6.out.mono HL.out.size)) q)
      have M7 := Lib.hid (show MineI w7 w.heap.size w7.heap.size (.slice (some ⟨go, 0, none⟩) N cap) tl by
        have h : OwnI w7 w.heap.size (.slice (some ⟨go, 0, none⟩) N cap) tl := by rw [hw7]; exact owns_drewN (ownsRow_lo HOW.out L6.out) q _ rfl
        exact h.mine)
      clear EQ HOW L6 hw7
      cases rb with
      | true =>
        go_wp2
        go_ret2
        exact ⟨_, rfl, M7.out, L7.out⟩
      | false =>
        go_wp2
        go_ret2
        exact ⟨_, rfl, mineI_nil _ _ _ _ _, L7.out⟩
end Go.Proofs.Ythncgcdnljoakaa
namespace Go.Proofs.Ythncgcdnljoakaa
open Go.RowKit
set_option maxRecDepth 100000 in
set_option maxHeartbeats 1600000 in
theorem fh_no (v vx : Value) (m : MobV) (ws : List Int) (w : World) (hv : MobRow w v m) (hs : SmallM m) (hb : BndM m) (hx : IntRow w vx ws) (hxb : ∀ i, -9223372036854775808 ≤ ws.getD i 0 ∧ ws.getD i 0 ≤ 9223372036854775807) (h : (hangB m ws && lvB m) = false) :
    Calls Try.prog 62 #[v, vx] w fun e w' => e = .returned (.tuple #[.slice none 0 0, .bool false]) ∧ Below w.heap.size w w' := by
  have HA := Lib.hid (fun w1 (l : Below w.heap.size w w1) => hang_any v vx m ws w1 (hv.lo l) hs hb (hx.lo l) hxb)
  have LV := Lib.hid (fun w1 (l : Below w.heap.size w w1) => lv_impl v m w1 (hv.lo l) hs hb)
  obtain ⟨a, c0, c, d, rfl⟩ := hv.form
  obtain ⟨aw, cw, rfl, _⟩ := hx
  obtain ⟨W, hW⟩ : ∃ W, w.alloc (.cells #[.slice a m.am.length c, .slice c0 m.hu.length d] 62) = W := ⟨_, rfl⟩
  have LW := Lib.hid (show Below w.heap.size w W by rw [← hW]; exact (Below.refl _ _).alloc (Nat.le_refl _) _)
  have BX := Lib.hid (show Box2 W w.heap.size (.slice a m.am.length c) (.slice c0 m.hu.length d) by rw [← hW]; exact box2_new _ _ _ _)
  have H1 := Lib.hid (HA.out W LW.out)
  generalize hangB m ws = b1 at *
  generalize lvB m = b2 at *
  generalize m.am.length = n1 at *
  generalize m.hu.length = n2 at *
  clear hv hs hb hxb HA
  obtain ⟨_, u0, u1⟩ := BX.out
  go_enter Try.func62, Try.ntmps62
  go_wp2_with fail
  clear hW u0 u1
  refine H1.out.mono ?_
  rintro e w1 ⟨uh, rfl, hm, l1⟩
  have L1 := Lib.hid (lo_on LW.out l1)
  obtain ⟨ha0, hb0, hc0, hd0, rfl⟩ := hm.row.form
  clear H1 hm
  obtain ⟨wy, hwy⟩ : ∃ wy, w1.alloc (.cells #[.slice ha0 (hungM m ws).am.length hc0, .slice hb0 (hungM m ws).hu.length hd0] 62) = wy := ⟨_, rfl⟩
  have ly : Below w1.heap.size w1 wy := by rw [← hwy]; exact (Below.refl _ _).alloc (Nat.le_refl _) _
  have LY := Lib.hid (lo_on L1.out ly)
  have LV1 := Lib.hid (LV.out wy LY.out)
  generalize (hungM m ws).am.length = q1 at *
  generalize (hungM m ws).hu.length = q2 at *
  have hbw := BX.out.lo (lo_on (Below.refl W.heap.size W) l1 |>.trans (ly.mono l1.size))
  obtain ⟨_, u0, u1⟩ := hbw
  clear l1 ly LV
  go_wp2_with fail
  clear hwy u0 u1
  refine LV1.out.mono ?_
  rintro e w2 ⟨uo, rfl, oo, l2⟩
  have L2 := Lib.hid (lo_on LY.out l2)
  clear oo l2 LV1
  cases b1 with
  | false =>
    clear h
    go_wp2
    go_ret2
    exact ⟨rfl, L2.out⟩
  | true =>
    obtain rfl : b2 = false := by simpa using h
    clear h
    go_wp2
    go_ret2
    exact ⟨rfl, L2.out⟩
theorem fh_impl (v vx : Value) (m : MobV) (ws : List Int) (w : World) (hv : MobRow w v m) (hs : SmallM m) (hb : BndM m) (hx : IntRow w vx ws) (hxb : ∀ i, -9223372036854775808 ≤ ws.getD i 0 ∧ ws.getD i 0 ≤ 9223372036854775807) :
    Calls Try.prog 62 #[v, vx] w fun e w' => ∃ u, e = .returned (.tuple #[u, .bool (fhB m ws)]) ∧ MineI w' w.heap.size w'.heap.size u (fhYs m ws) ∧ Below w.heap.size w w' := by
  have no : fhB m ws = false → (hangB m ws && lvB m) = false → Calls Try.prog 62 #[v, vx] w fun e w' => ∃ u, e = .returned (.tuple #[u, .bool (fhB m ws)]) ∧ MineI w' w.heap.size w'.heap.size u (fhYs m ws) ∧ Below w.heap.size w w' := fun h1 h2 => by
    unfold fhYs
    rw [h1, if_neg (by simp)]
    refine (fh_no v vx m ws w hv hs hb hx hxb h2).mono ?_
    rintro e w' ⟨rfl, l⟩
    exact ⟨_, rfl, mineI_nil _ _ _ _ _, l⟩
  cases hh : hangB m ws with
  | false => exact no (by unfold fhB; rw [hh]; rfl) (by rw [hh]; rfl)
  | true =>
    have hh' := hh
    unfold hangB at hh'
    simp only [Bool.and_eq_true] at hh'
    have hf := (goodB_iff m).1 hh'.1
    cases ho : lvOk m with
    | false =>
      have hP : fhB m ws = false := by
        unfold fhB
        rw [hh, Bool.true_and]
        refine propB_no (fun ⟨p, hp, hl⟩ => ?_)
        have := (fh_only hf hh'.2 hp hl).2.2
        rw [ho] at this
        cases this
      exact no hP (by rw [hh]; unfold lvB; rw [ho]; simp)
    | true =>
      have e : fhB m ws = propB (fhP m ws) := by unfold fhB; rw [hh, Bool.true_and]
      unfold fhYs
      rw [e]
      exact fh_yes v vx m ws w hv hs hb hx hxb hf hh'.2 ho _ (propB_iff _).symm
end Go.Proofs.Ythncgcdnljoakaa
