/- The contract of the program's LeavesOf. -/
import Derived.Test.YtnadchgekfljkaaRod4
namespace Go.Proofs.Ytnadchgekfljkaa
open Go.RowKit
theorem be_rodF {m : MobV} (hf : MobF m) (t : Nat) (ht : t < 2 * m.am.length) : (rodF m).be t = 0 ↔ 0 < hvM m t := by
  have := (hf.ends t ht).2
  simp only [rodF]
  omega
theorem leaves_ends {m : MobV} (hf : MobF m) : ∀ T, T ≤ 2 * m.am.length → leavesF m T = (endT (rodF m) T).map (rodF m).le := by
  intro T
  induction T with
  | zero => intro _; rfl
  | succ T ih =>
    intro hT
    have ih := ih (by omega)
    have hb := be_rodF hf T (by omega)
    rw [leavesF]
    by_cases h : 0 < hvM m T
    · rw [if_pos h, endT_yes (hb.2 h), List.map_append, ← ih]
      simp [rodF, h]
    · rw [if_neg h, endT_no (fun e => h (hb.1 e)), ih]
theorem endP2_at (S : RodF) (T k : Nat) (h : k < (endT S T).length) : ((endT S T).map endP2).getD k (0, 0) = endP2 ((endT S T).getD k 0) := by
  simp [List.getD, h]
theorem endT_at (S : RodF) (T k : Nat) (h : k < (endT S T).length) : (endT S T).getD k 0 < T ∧ S.be ((endT S T).getD k 0) = 0 := by
  have : (endT S T).getD k 0 ∈ endT S T := by simp only [List.getD, List.getElem?_eq_getElem h, Option.getD_some]; exact List.getElem_mem h
  exact endT_mem.1 this
theorem take_snoc (f : Nat → Int) (ts : List Nat) (k : Nat) (h : k < ts.length) : (ts.take (k + 1)).map f = (ts.take k).map f ++ [f (ts.getD k 0)] := by
  rw [List.take_add_one, List.getElem?_eq_getElem h, List.map_append, List.getD, List.getElem?_eq_getElem h]; rfl
set_option maxRecDepth 100000 in
set_option maxHeartbeats 3200000 in
theorem leaves_yes (v : Value) (m : MobV) (w : World) (hv : MobRow w v m) (hb : BndM m) (hf : MobF m) :
    Calls Try.prog 35 #[v] w fun e w' => ∃ u, e = .returned (.tuple #[u, .bool true]) ∧ MineI w' w.heap.size w'.heap.size u (leavesF m (2 * m.am.length)) ∧ Below w.heap.size w w' := by
  obtain ⟨i0, hi, hz0, hz1, hz2⟩ := info_parts infoInt
  have h1 := hf.one
  have h6 := hf.short
  have RO := Lib.hid (fun w1 (l : Below w.heap.size w w1) => rodsOf_yes v m w1 (hv.lo l) hb hf)
  have HLV := Lib.hid (leaves_ends hf (2 * m.am.length) (Nat.le_refl _))
  obtain ⟨a, c0, c, d, rfl⟩ := hv.form
  obtain ⟨n, hn⟩ : ∃ n, m.am.length = n := ⟨_, rfl⟩
  obtain ⟨W, hW⟩ : ∃ W, w.alloc (.cells #[.slice a m.am.length c, .slice c0 m.hu.length d] 27) = W := ⟨_, rfl⟩
  have LW := Lib.hid (show Below w.heap.size w W by rw [← hW]; exact (Below.refl _ _).alloc (Nat.le_refl _) _)
  have BX := Lib.hid (show Box2 W w.heap.size (.slice a m.am.length c) (.slice c0 m.hu.length d) by rw [← hW]; exact box2_new _ _ _ _)
  have RO1 := Lib.hid (RO.out W LW.out)
  rw [HLV.out]
  rw [hn] at RO1 h1 h6 BX hW
  rw [hn]
  clear hv hb hf RO HLV hn
  generalize rodF m = S at *
  obtain ⟨_, u0, u1⟩ := BX.out
  go_enter Try.func35, Try.ntmps35
  go_wp2_with fail
  clear hW u0 u1
  refine RO1.out.mono ?_
  rintro e w1 ⟨g, b, rfl, H, hg, l1⟩
  have HR := Lib.hid H
  have L1 := Lib.hid (lo_on LW.out l1)
  have LE := Lib.hid (leafEnds_any g _ n b S w1 h6 H)
  clear H l1 RO1
  go_wp2_with fail
  refine LE.out.mono ?_
  rintro e w2 ⟨ue, rfl, oe, l2⟩
  have HR2 := Lib.hid (HR.out.lo l2)
  have L2 := Lib.hid (lo_on L1.out l2)
  have hlr := loadRow_ownE oe
  clear LE l2 oe HR L1
  obtain ⟨ae, ce, rfl, hce⟩ := hlr
  rw [List.length_map] at hce
  rw [List.length_map]
  have HTM := Lib.hid (endT_at S (2 * n))
  have hlen := endT_len S (2 * n)
  have HPT := Lib.hid (endP2_at S (2 * n))
  have HSN := Lib.hid (take_snoc S.le (endT S (2 * n)))
  have HALL := Lib.hid (show (endT S (2 * n)).take (endT S (2 * n)).length = endT S (2 * n) from List.take_length)
  obtain ⟨ts, hts⟩ : ∃ ts, endT S (2 * n) = ts := ⟨_, rfl⟩
  have HTS := Lib.hid hts
  rw [hts] at hce hlen HTM HPT HSN HALL ⊢
  clear hts
  have hw2 := L2.out.size
  go_wp2
  have O0 := Lib.hid (show OwnI w2 w2.heap.size (.slice none 0 0) ((ts.take 0).map S.le) from ownI_nil _ _)
  go_loopw [6, 17] (fun v x wr => ∃ k : Nat, k ≤ ts.length ∧ x = .int .i64 k ∧ Hid (OwnI wr w2.heap.size v ((ts.take k).map S.le)) ∧ Hid (Below w2.heap.size w2 wr)) (fun _ x _ => ts.length - (intOf x).toNat)
  case atStart => exact ⟨0, Nat.zero_le _, rfl, O0, Lib.hid (Below.refl _ _)⟩
  case round =>
    obtain ⟨k, hk, rfl, HO, HW⟩ := hrel
    obtain ⟨wq, rfl⟩ : ∃ wq : World, wq = wr := ⟨_, rfl⟩
    clear O0
    by_cases hlt : k < ts.length
    · have hlt' : (k : Int) < (ts.length : Int) := by omega
      rcases hce with h | ⟨ge, oe, rfl, hge, hcc⟩
      · have := congrArg List.length h
        rw [List.length_map, List.length_nil] at this
        omega
      have hcc := hcc k hlt
      rw [HPT.out k hlt] at hcc
      unfold endP2 at hcc
      obtain ⟨ht2, hbe⟩ := HTM.out k hlt
      have HS := Lib.hid (HSN.out k hlt)
      obtain ⟨t, ht⟩ : ∃ t, ts.getD k 0 = t := ⟨_, rfl⟩
      rw [ht] at hcc ht2 hbe HS
      obtain ⟨i, hi2⟩ : ∃ i, t / 2 = i := ⟨_, rfl⟩
      obtain ⟨e, he2⟩ : ∃ e, t % 2 = e := ⟨_, rfl⟩
      have hte : t = 2 * i + e := by omega
      simp only [hi2, he2] at hcc
      obtain ⟨cx, cy⟩ := hcc
      rw [← HW.out.cell (p := ⟨ge, oe + k * 2, none⟩) hge] at cx
      rw [← HW.out.cell (p := ⟨ge, oe + k * 2 + 1, none⟩) hge] at cy
      have hin : i < n := by omega
      have hel : e < 2 := by omega
      have hin' : (i : Int) < (n : Int) := by omega
      have hel' : (e : Int) < 2 := by omega
      have HRq := Lib.hid (HR2.out.lo HW.out)
      have cr := HRq.out.row i hin
      rw [if_neg (by omega)] at cr
      have cl := (HRq.out.rods.rod i (by omega) hin).leaf e hel
      have hbl : b i < wq.heap.size := (HRq.out.rods.rod i (by omega) hin).lt
      have hbl2 : b i < w2.heap.size := (HR2.out.rods.rod i (by omega) hin).lt
      have hgl : g < w2.heap.size := HR2.out.lt
      rw [← hte] at cl
      have hgw := HW.out.size
      obtain ⟨z, hz⟩ : ∃ z, S.le t = z := ⟨_, rfl⟩
      rw [hz] at HS cl
      have hown := HO.out
      unfold OwnI at hown
      rw [List.length_map, List.length_take, Nat.min_eq_left (by omega)] at hown
      obtain ⟨ys, hys⟩ : ∃ ys, (ts.take k).map S.le = ys := ⟨_, rfl⟩
      have HL := Lib.hid (show ys.length = k by rw [← hys, List.length_map, List.length_take]; omega)
      rw [hys] at hown HS
      clear hys ht hi2 he2 hte hz ht2 hbe HRq HO
      go_wp2
      obtain ⟨wb, hwb⟩ : ∃ wb, wq.alloc (.cells #[.int .i64 (i : Int), .int .i64 (e : Int)] 90) = wb := ⟨_, rfl⟩
      have k0 : wb.cell? ⟨wq.heap.size, 0, none⟩ = some (.int .i64 (i : Int)) := by rw [← hwb]; exact (World.cell?_alloc_at _ _ _ _ rfl).trans rfl
      have k1 : wb.cell? ⟨wq.heap.size, 1, none⟩ = some (.int .i64 (e : Int)) := by rw [← hwb]; exact (World.cell?_alloc_at _ _ _ _ rfl).trans rfl
      have lb : Below wq.heap.size wq wb := by rw [← hwb]; exact (Below.refl _ _).alloc (Nat.le_refl _) _
      have k2 : wb.cell? ⟨g, i, none⟩ = some (.pointer (some ⟨b i, 0, none⟩)) := (lb.cell (p := ⟨g, i, none⟩) (by simp only; omega)).trans cr
      have k3 : wb.cell? ⟨b i, 3 + e, none⟩ = some (.int .i64 z) := (lb.cell (p := ⟨b i, 3 + e, none⟩) hbl).trans cl
      have ho2 := show wb.ownsRow w2.heap.size 3 1 u6 k (icells ys) by rw [← hwb]; exact hown.alloc _
      have hsb : wb.heap.size = wq.heap.size + 1 := by rw [← hwb]; simp
      have HWB := Lib.hid (show Below w2.heap.size w2 wb by rw [← hwb]; exact HW.out.alloc hgw _)
      rw [hwb]
      obtain ⟨bx, hbx⟩ : ∃ bx, wq.heap.size = bx := ⟨_, rfl⟩
      rw [hbx] at k0 k1 hsb hgw hbl
      rw [hbx]
      have ag0 : u6.ownBlock ≠ some bx := fun h => by have := (hown.lt bx h).2; omega
      have ag1 : u6.ownBlock ≠ some g := fun h => by have := (ho2.lt g h).1; omega
      have ag2 : u6.ownBlock ≠ some (b i) := fun h => by have := (ho2.lt (b i) h).1; omega
      have hbb : bx < wb.heap.size := by omega
      have hgb : g < wb.heap.size := by omega
      have hib : b i < wb.heap.size := by omega
      have hwb2 : w2.heap.size ≤ wb.heap.size := by omega
      have HSB := Lib.hid hsb
      clear cr cl lb hwb hbx hsb hown cx cy HW
      go_region_held3 (fun w' => w'.cell? ⟨bx, 0, none⟩ = some (.int .i64 (i : Int)) ∧ w'.cell? ⟨bx, 1, none⟩ = some (.int .i64 (e : Int)) ∧ w'.cell? ⟨g, i, none⟩ = some (.pointer (some ⟨b i, 0, none⟩)) ∧ w'.cell? ⟨b i, 3 + e, none⟩ = some (.int .i64 z))
        (first
          | exact ⟨k0, k1, k2, k3⟩
          | go_keep
          | (go_split_ands
             refine ⟨?_, ?_, ?_, ?_⟩
             · (rw [hgrow.cell_far _ (by simp; omega) (Ne.symm ag0)]; assumption)
             · (rw [hgrow.cell_far _ (by simp; omega) (Ne.symm ag0)]; assumption)
             · (rw [hgrow.cell_far _ (by simp; omega) (Ne.symm ag1)]; assumption)
             · (rw [hgrow.cell_far _ (by simp; omega) (Ne.symm ag2)]; assumption)))
        ((refine step_append_lies _ (by rfl) _ _ _ (by rfl) w2.heap.size 3 i0 _ 1 8 Try.underlying31 hi hz0 hz1 hz2 rfl (by omega) u6 k _ (by rfl) ((ho2.alloc _).drew)
            ⟨wb.heap.size, 0, none⟩ 1 1 [.int .i64 z] (by rfl) (by rfl) (World.news_of_block (cs := #[.int .i64 z]) (t := 3) (fr := (0, 0)) (heap_alloc_new wb _)) (by simp [Value.oneCell'])
            (by omega) (by unfold maxLen; omega) (by omega) (by simp; omega) (wb.heap.size + 1) (by simp) ?_; intro gg cap w1 hown1 hgrow hat hlt))
      have HNN := Lib.hid (show OwnI w1 w2.heap.size (.slice (some ⟨gg, 0, none⟩) (k + 1) cap) ((ts.take (k + 1)).map S.le) by rw [HS.out]; exact ownI_snoc hown1 HL.out)
      have HLN := Lib.hid (show Below w2.heap.size w2 w1 from ((HWB.out.alloc hwb2 _).drew).grown hgrow (by simp; omega) (fun q hq => (ho2.lt q hq).1))
      clear hown1 hgrow hat hlt ag0 ag1 ag2 ho2 k0 k1 k2 k3
      go_wp2
      go_roundw
      case rel => exact ⟨k + 1, by omega, by go_num, HNN, HLN⟩
      case measure => simp [intOf]; omega
    · obtain rfl : k = ts.length := by omega
      have hge : ¬ (ts.length : Int) < (ts.length : Int) := by omega
      have LF := Lib.hid (L2.out.trans (HW.out.mono hw2))
      rw [HALL.out] at HO
      go_wp2
      go_ret2
      rw [← HTS.out] at HO
      exact ⟨u6, rfl, HO.out.mine.mono hw2 (Nat.le_refl _) (Nat.le_refl _), LF.out⟩
theorem leaves_no (v : Value) (m : MobV) (w : World) (hv : MobRow w v m) (hs : SmallM m) (hb : BndM m) (hf : goodB m = false) :
    Calls Try.prog 35 #[v] w fun e w' => ∃ u, e = .returned (.tuple #[u, .bool false]) ∧ MineI w' w.heap.size w'.heap.size u [] ∧ Below w.heap.size w w' := by
  have RO := Lib.hid (fun w1 (l : Below w.heap.size w w1) => rodsOf_no v m w1 (hv.lo l) hs hb hf)
  obtain ⟨a, c0, c, d, rfl⟩ := hv.form
  generalize m.am.length = n at *
  generalize m.hu.length = n2 at *
  obtain ⟨W, hW⟩ : ∃ W, w.alloc (.cells #[.slice a n c, .slice c0 n2 d] 27) = W := ⟨_, rfl⟩
  have LW := Lib.hid (show Below w.heap.size w W by rw [← hW]; exact (Below.refl _ _).alloc (Nat.le_refl _) _)
  have BX := Lib.hid (show Box2 W w.heap.size (.slice a n c) (.slice c0 n2 d) by rw [← hW]; exact box2_new _ _ _ _)
  have RO1 := Lib.hid (RO.out W LW.out)
  clear hv hs hb hf RO
  obtain ⟨_, u0, u1⟩ := BX.out
  go_enter Try.func35, Try.ntmps35
  go_wp2_with fail
  clear hW u0 u1
  refine RO1.out.mono ?_
  rintro e w1 ⟨rfl, l1⟩
  have L1 := Lib.hid (lo_on LW.out l1)
  clear l1 RO1
  go_wp2_with fail
  refine (leafEnds_nil w1).mono ?_
  rintro e w2 ⟨rfl, rfl⟩
  go_wp2
  refine wp_loop_rounds 1 ?_
  rw [rounds_succ]
  go_wp2
  go_ret2
  exact ⟨_, rfl, mineI_nil _ _ _ _ _, L1.out⟩
theorem leaves_impl (v : Value) (m : MobV) (w : World) (hv : MobRow w v m) (hs : SmallM m) (hb : BndM m) :
    Calls Try.prog 35 #[v] w fun e w' => ∃ u, e = .returned (.tuple #[u, .bool (goodB m)]) ∧ MineI w' w.heap.size w'.heap.size u (rodsL m (leavesF m (2 * m.am.length))) ∧ Below w.heap.size w w' := by
  cases hg : goodB m with
  | true => rw [rodsL_yes hg]; exact leaves_yes v m w hv hb ((goodB_iff m).1 hg)
  | false => rw [rodsL_no hg]; exact leaves_no v m w hv hs hb hg
end Go.Proofs.Ytnadchgekfljkaa
