/- The contract of the program's LeafRow. -/
import Derived.Test.YtnadchgekfljkaaRod8
import Derived.Test.YtnadchgekfljkaaRod5
import Derived.Test.YtnadchgekfljkaaMob9
namespace Go.Proofs.Ytnadchgekfljkaa
open Go.RowKit
theorem MineL.mono {w : World} {B E B' E' : Nat} {v : Value} {xs : List (Int × Int)} (h : MineL w B E v xs) (h1 : B' ≤ B) (h2 : E ≤ E') (h3 : E' ≤ w.heap.size) : MineL w B' E' v xs := by
  rcases h with h | ⟨g, c, e, k1, k2, k3, r⟩
  · exact .inl h
  · exact .inr ⟨g, c, e, by omega, by omega, h3, r⟩
/-- A place at an end, from that of its rod. -/
def stepP (S : RodF) (T : Nat) (x : Int) : Int := x + (2 * ((T % 2 : Nat) : Int) - 1) * S.ar T
theorem rowClo_any (S : RodF) (n B : Nat) (b : Nat → Nat) (nu : Nat → Int) (i e : Nat) (x y : Int) (w : World) (hi : i < n) (he : e < 2) (H : RodsIn w B 0 n b nu S) (ha : 0 ≤ S.ar (2 * i + e) ∧ S.ar (2 * i + e) ≤ 24) (hx : -1000 ≤ x ∧ x ≤ 1000) (hy : stepP S (2 * i + e) x = y) :
    Calls Try.prog 116 #[.pointer (some ⟨b i, 0, none⟩), .int .i64 (e : Int), .int .i64 x] w fun r w' => r = .returned (.int .i64 y) ∧ ∃ d, w' = w.drewN d := by
  have ca := (H.rod i (by omega) hi).arm e he
  have hlt := (H.rod i (by omega) hi).lt
  unfold stepP at hy
  rw [show (2 * i + e) % 2 = e by omega] at hy
  obtain ⟨hx0, hx1⟩ := hx
  generalize S.ar (2 * i + e) = a at *
  obtain ⟨ha0, ha1⟩ := ha
  clear H
  rcases (show e = 0 ∨ e = 1 by omega) with rfl | rfl
  · have e1 : x - a = y := by simp at hy; omega
    simp only [Nat.add_zero] at ca
    clear hy
    go_enter Try.func116, Try.ntmps116
    go_wp2
    go_ret
    exact ⟨rfl, 0, rfl⟩
  · have e1 : x + a = y := by simp at hy; omega
    simp only [Nat.reduceAdd] at ca
    clear hy
    go_enter Try.func116, Try.ntmps116
    go_wp2
    go_ret
    exact ⟨rfl, 0, rfl⟩
theorem rodP_num {m : MobV} (hf : MobF m) (p : Int) : ∀ T, T ≤ 2 * m.am.length → ∀ j, numH (rodF m) (stepP (rodF m)) p T j = rodP m p T j := by
  intro T
  induction T with
  | zero => intro _ j; rfl
  | succ T ih =>
    intro hT j
    have ih := ih (by omega)
    have hb := be_rodF hf T (by omega)
    have hh := (hf.ends T (by omega)).2
    by_cases h0 : (rodF m).be T = 0
    · rw [numH_none _ _ _ _ _ h0, ih j]
      show _ = if hvM m T < 0 ∧ (-hvM m T).toNat = j then rodP m p T (T / 2) + (2 * ((T % 2 : Nat) : Int) - 1) * avM m T else rodP m p T j
      rw [if_neg (fun h => by have := hb.1 h0; omega)]
    · rw [numH_some _ _ _ _ _ h0]
      have hneg : hvM m T < 0 := by
        have : ¬ 0 < hvM m T := fun h => h0 (hb.2 h)
        omega
      have hbe : (rodF m).be T = (-hvM m T).toNat := rfl
      rw [hbe]
      show _ = if hvM m T < 0 ∧ (-hvM m T).toNat = j then rodP m p T (T / 2) + (2 * ((T % 2 : Nat) : Int) - 1) * avM m T else rodP m p T j
      by_cases e : j = (-hvM m T).toNat
      · rw [if_pos e, if_pos ⟨hneg, e.symm⟩]
        show stepP (rodF m) T (numH (rodF m) (stepP (rodF m)) p T (T / 2)) = _
        rw [ih]
        rfl
      · rw [if_neg e, if_neg (fun h => e h.2.symm), ih]
theorem outH_endP {m : MobV} (hf : MobF m) (p : Int) (T : Nat) (hT : T ≤ 2 * m.am.length) : outH (rodF m) (stepP (rodF m)) p T = endP m p T := by
  show stepP (rodF m) T (numH (rodF m) (stepP (rodF m)) p T (T / 2)) = _
  rw [rodP_num hf p T hT]
  rfl
theorem leafR_ends {m : MobV} (hf : MobF m) (p : Int) : ∀ T, T ≤ 2 * m.am.length → leafR m p T = (endT (rodF m) T).map (fun t => (outH (rodF m) (stepP (rodF m)) p t, (rodF m).le t)) := by
  intro T
  induction T with
  | zero => intro _; rfl
  | succ T ih =>
    intro hT
    have hb := be_rodF hf T (by omega)
    have hh := (hf.ends T (by omega)).2
    rw [leafR]
    by_cases h : hvM m T < 0
    · rw [if_pos h, endT_no (fun e => by have := hb.1 e; omega), ih (by omega)]
    · rw [if_neg h, endT_yes (hb.2 (by omega)), List.map_append, ← ih (by omega)]
      simp only [List.map_cons, List.map_nil]
      rw [outH_endP hf p T (by omega), show (rodF m).le T = hvM m T from if_pos (by omega)]
theorem leafR_row {m : MobV} (hf : MobF m) (p : Int) : rowB (leafR m p (2 * m.am.length)) = propB (allP m p (2 * m.am.length)) := by
  have hmem : ∀ T, T ≤ 2 * m.am.length → ∀ x, x ∈ leafR m p T ↔ ∃ t, t < T ∧ ¬ hvM m t < 0 ∧ x = (endP m p t, hvM m t) := by
    intro T
    induction T with
    | zero => intro _ x; simp [leafR]
    | succ T ih =>
      intro hT x
      rw [leafR]
      by_cases h : hvM m T < 0
      · rw [if_pos h, ih (by omega)]
        constructor
        · rintro ⟨t, h1, h2⟩; exact ⟨t, by omega, h2⟩
        · rintro ⟨t, h1, h2, h3⟩
          have : t ≠ T := fun e => h2 (e ▸ h)
          exact ⟨t, by omega, h2, h3⟩
      · rw [if_neg h, List.mem_append, ih (by omega)]
        constructor
        · rintro (⟨t, h1, h2⟩ | h1)
          · exact ⟨t, by omega, h2⟩
          · simp at h1; exact ⟨T, by omega, h, h1⟩
        · rintro ⟨t, h1, h2, h3⟩
          by_cases e : t = T
          · subst e; exact .inr (by simp [h3])
          · exact .inl ⟨t, by omega, h2, h3⟩
  have h6 := hf.short
  have hl := leafR_len m p (2 * m.am.length)
  by_cases ha : allP m p (2 * m.am.length)
  · rw [propB_yes ha]
    refine (rowB_iff _).2 ⟨by omega, fun x hx => ?_⟩
    obtain ⟨t, h1, h2, rfl⟩ := (hmem _ (Nat.le_refl _) x).1 hx
    have := ha t h1
    have := (hf.ends t h1).2
    simp only
    omega
  · rw [propB_no ha, Bool.eq_false_iff]
    intro hr
    have hr := (rowB_iff _).1 hr
    refine ha (fun t ht => ?_)
    by_cases h : hvM m t < 0
    · exact .inl h
    · exact .inr ((hr.each _ ((hmem _ (Nat.le_refl _) _).2 ⟨t, ht, h, rfl⟩)).1)
theorem map_at {α : Type} (f : Nat → α) (d : α) (ts : List Nat) (k : Nat) (h : k < ts.length) : (ts.map f).getD k d = f (ts.getD k 0) := by simp [List.getD, h]
theorem take_snocP (f : Nat → Int × Int) (ts : List Nat) (k : Nat) (h : k < ts.length) : (ts.take (k + 1)).map f = (ts.take k).map f ++ [f (ts.getD k 0)] := by
  rw [List.take_add_one, List.getElem?_eq_getElem h, List.map_append, List.getD, List.getElem?_eq_getElem h]; rfl
set_option maxRecDepth 100000 in
set_option maxHeartbeats 6400000 in
theorem leafRow_yes (v : Value) (m : MobV) (p : Int) (w : World) (hv : MobRow w v m) (hb : BndM m) (hf : MobF m) (p0 : 0 ≤ p) (p1 : p ≤ 60) :
    Calls Try.prog 49 #[v, .int .i64 p] w fun e w' => ∃ u, e = .returned (.tuple #[u, .bool (rowB (leafR m p (2 * m.am.length)))]) ∧ MineL w' w.heap.size w'.heap.size u (if rowB (leafR m p (2 * m.am.length)) = true then leafR m p (2 * m.am.length) else []) ∧ Below w.heap.size w w' := by
  obtain ⟨i0, hi, hz0, hz1, hz2⟩ := info_parts infoLoad
  have h1 := hf.one
  have h6 := hf.short
  have RO := Lib.hid (fun w1 (l : Below w.heap.size w w1) => rodsOf_yes v m w1 (hv.lo l) hb hf)
  have HLR := Lib.hid (leafR_ends hf p (2 * m.am.length) (Nat.le_refl _))
  have IP := Lib.hid (fun w => isPlace_any p w)
  rw [show (decide (0 ≤ p) && decide (p ≤ 60)) = true by simp; omega] at IP
  have HD := Lib.hid (fun g B b w1 (H : RodsTo w1 B g 0 m.am.length b (rodF m)) => handDown_row g B m.am.length b (rodF m) (stepP (rodF m)) p w1 h1 h6 H (fun t ht h => ((wtR_rodF hf).down t ht h).2) (fun i e w2 hi he H2 =>
    rowClo_any (rodF m) m.am.length B b _ i e _ _ w2 hi he H2 (ar_rodF hf _ (by omega)) (by rw [rodP_num hf p _ (by omega)]; have := rodP_bnd hf p0 p1 (2 * i + e) (by omega) i; omega) (by unfold outH; rw [show (2 * i + e) / 2 = i by omega])))
  obtain ⟨a, c0, c, d, rfl⟩ := hv.form
  obtain ⟨n, hn⟩ : ∃ n, m.am.length = n := ⟨_, rfl⟩
  obtain ⟨W, hW⟩ : ∃ W, w.alloc (.cells #[.slice a m.am.length c, .slice c0 m.hu.length d] 27) = W := ⟨_, rfl⟩
  have LW := Lib.hid (show Below w.heap.size w W by rw [← hW]; exact (Below.refl _ _).alloc (Nat.le_refl _) _)
  have BX := Lib.hid (show Box2 W w.heap.size (.slice a m.am.length c) (.slice c0 m.hu.length d) by rw [← hW]; exact box2_new _ _ _ _)
  have RO1 := Lib.hid (RO.out W LW.out)
  obtain ⟨R, hR⟩ : ∃ R, leafR m p (2 * m.am.length) = R := ⟨_, rfl⟩
  rw [hR] at HLR
  rw [hR]
  rw [hn] at RO1 HLR HD h1 h6 BX hW
  rw [hn]
  obtain ⟨rb, hrb⟩ : ∃ rb, rowB R = rb := ⟨_, rfl⟩
  have HRB := Lib.hid hrb
  rw [hrb]
  obtain ⟨res, hres⟩ : ∃ res, (if rb = true then R else []) = res := ⟨_, rfl⟩
  have HRES := Lib.hid hres
  rw [hres]
  clear hres
  clear hv hb hf RO hn hR hrb p0 p1
  generalize rodF m = S at *
  have HTM := Lib.hid (endT_at S (2 * n))
  have hlen := endT_len S (2 * n)
  have HPT := Lib.hid (endP2_at S (2 * n))
  have HOA := Lib.hid (fun k (h : k < (endT S (2 * n)).length) => map_at (outH S (stepP S) p) 0 (endT S (2 * n)) k h)
  have HSN := Lib.hid (take_snocP (fun t => (outH S (stepP S) p t, S.le t)) (endT S (2 * n)))
  have HALL := Lib.hid (show (endT S (2 * n)).take (endT S (2 * n)).length = endT S (2 * n) from List.take_length)
  have LEN := Lib.hid (fun g B b w1 (H : RodsTo w1 B g 0 n b S) => leafEnds_any g B n b S w1 h6 H)
  obtain ⟨ts, hts⟩ : ∃ ts, endT S (2 * n) = ts := ⟨_, rfl⟩
  rw [hts] at hlen HTM HPT HSN HALL HLR HD LEN HOA
  clear hts
  obtain ⟨fo, hfo⟩ : ∃ fo, outH S (stepP S) p = fo := ⟨_, rfl⟩
  rw [hfo] at HD HLR HSN HOA
  clear hfo
  obtain ⟨_, u0, u1⟩ := BX.out
  go_enter Try.func49, Try.ntmps49
  go_wp2_with fail
  clear hW u0 u1
  refine RO1.out.mono ?_
  rintro e w1 ⟨g, b, rfl, H, hg, l1⟩
  have HR := Lib.hid H
  have L1 := Lib.hid (lo_on LW.out l1)
  have HD1 := Lib.hid (HD.out g _ b w1 H)
  clear H l1 RO1 HD
  go_wp2_with fail
  refine (IP.out _).mono ?_
  rintro e w' ⟨rfl, rfl⟩
  go_wp2_with fail
  refine HD1.out.mono ?_
  rintro e w2 ⟨up, rfl, op, l2⟩
  have HR2 := Lib.hid (HR.out.lo l2)
  have L2 := Lib.hid (lo_on L1.out l2)
  have PR := Lib.hid op.mine.row
  have LE := Lib.hid (LEN.out g _ b w2 HR2.out)
  clear l2 op HD1 HR L1
  go_wp2_with fail
  refine LE.out.mono ?_
  rintro e w3 ⟨ue, rfl, oe, l3⟩
  have HR3 := Lib.hid (HR2.out.lo l3)
  have L3 := Lib.hid (lo_on L2.out l3)
  have hlr := loadRow_ownE oe
  have hpr := PR.out.lo l3
  clear LE l3 oe HR2 L2 PR LEN
  obtain ⟨ae, ce, rfl, hce⟩ := hlr
  obtain ⟨ap, cp, rfl, hcp⟩ := hpr
  rw [List.length_map] at hce hcp
  rw [List.length_map, List.length_map]
  have hw3 := L3.out.size
  go_wp2
  have O0 := Lib.hid (show OwnL w3 w3.heap.size (.slice none 0 0) ((ts.take 0).map (fun t => (fo t, S.le t))) from World.ownsRow_nil _ _ _ _)
  go_loopw [9, 30] (fun v x wr => ∃ k : Nat, k ≤ ts.length ∧ x = .int .i64 k ∧ Hid (OwnL wr w3.heap.size v ((ts.take k).map (fun t => (fo t, S.le t)))) ∧ Hid (Below w3.heap.size w3 wr)) (fun _ x _ => ts.length - (intOf x).toNat)
  case atStart => exact ⟨0, Nat.zero_le _, rfl, O0, Lib.hid (Below.refl _ _)⟩
  case round =>
    obtain ⟨k, hk, rfl, HO, HW⟩ := hrel
    obtain ⟨wq, rfl⟩ : ∃ wq : World, wq = wr := ⟨_, rfl⟩
    clear O0
    by_cases hlt : k < ts.length
    · have hlt' : (k : Int) < (ts.length : Int) := by omega
      rcases hce with hh | ⟨ge, oe, rfl, hge, hcc⟩
      · have := congrArg List.length hh
        rw [List.length_map, List.length_nil] at this
        omega
      rcases hcp with hh | ⟨gp, op, rfl, hgp, hpc⟩
      · have := congrArg List.length hh
        rw [List.length_map, List.length_nil] at this
        omega
      have hcc := hcc k hlt
      have cp0 := hpc k hlt
      rw [HPT.out k hlt] at hcc
      rw [HOA.out k hlt] at cp0
      unfold endP2 at hcc
      obtain ⟨ht2, hbe⟩ := HTM.out k hlt
      have HS := Lib.hid (HSN.out k hlt)
      obtain ⟨t, ht⟩ : ∃ t, ts.getD k 0 = t := ⟨_, rfl⟩
      rw [ht] at hcc ht2 hbe HS cp0
      obtain ⟨i, hi2⟩ : ∃ i, t / 2 = i := ⟨_, rfl⟩
      obtain ⟨e, he2⟩ : ∃ e, t % 2 = e := ⟨_, rfl⟩
      have hte : t = 2 * i + e := by omega
      simp only [hi2, he2] at hcc
      obtain ⟨cx, cy⟩ := hcc
      rw [← HW.out.cell (p := ⟨ge, oe + k * 2, none⟩) hge] at cx
      rw [← HW.out.cell (p := ⟨ge, oe + k * 2 + 1, none⟩) hge] at cy
      rw [← HW.out.cell (p := ⟨gp, op + k, none⟩) hgp] at cp0
      have hin : i < n := by omega
      have hel : e < 2 := by omega
      have hin' : (i : Int) < (n : Int) := by omega
      have hel' : (e : Int) < 2 := by omega
      have HRq := Lib.hid (HR3.out.lo HW.out)
      have cr := HRq.out.row i hin
      rw [if_neg (by omega)] at cr
      have cl := (HRq.out.rods.rod i (by omega) hin).leaf e hel
      have hbl : b i < wq.heap.size := (HRq.out.rods.rod i (by omega) hin).lt
      have hbl2 : b i < w3.heap.size := (HR3.out.rods.rod i (by omega) hin).lt
      have hgl : g < w3.heap.size := HR3.out.lt
      rw [← hte] at cl
      have hgw := HW.out.size
      obtain ⟨z, hz⟩ : ∃ z, S.le t = z := ⟨_, rfl⟩
      obtain ⟨y, hy⟩ : ∃ y, fo t = y := ⟨_, rfl⟩
      simp only [hz, hy] at HS cl cp0
      have hown := HO.out
      unfold OwnL at hown
      rw [List.length_map, List.length_take, Nat.min_eq_left (by omega)] at hown
      obtain ⟨ys, hys⟩ : ∃ ys, (ts.take k).map (fun t => (fo t, S.le t)) = ys := ⟨_, rfl⟩
      have HL := Lib.hid (show ys.length = k by rw [← hys, List.length_map, List.length_take]; omega)
      rw [hys] at hown HS
      clear hys ht hi2 he2 hte hz hy ht2 hbe HRq HO hpc
      go_wp2
      obtain ⟨wb, hwb⟩ : ∃ wb, wq.alloc (.cells #[.int .i64 (i : Int), .int .i64 (e : Int)] 90) = wb := ⟨_, rfl⟩
      have k0 : wb.cell? ⟨wq.heap.size, 0, none⟩ = some (.int .i64 (i : Int)) := by rw [← hwb]; exact (World.cell?_alloc_at _ _ _ _ rfl).trans rfl
      have k1 : wb.cell? ⟨wq.heap.size, 1, none⟩ = some (.int .i64 (e : Int)) := by rw [← hwb]; exact (World.cell?_alloc_at _ _ _ _ rfl).trans rfl
      have lb : Below wq.heap.size wq wb := by rw [← hwb]; exact (Below.refl _ _).alloc (Nat.le_refl _) _
      have k2 : wb.cell? ⟨g, i, none⟩ = some (.pointer (some ⟨b i, 0, none⟩)) := (lb.cell (p := ⟨g, i, none⟩) (by simp only; omega)).trans cr
      have k3 : wb.cell? ⟨b i, 3 + e, none⟩ = some (.int .i64 z) := (lb.cell (p := ⟨b i, 3 + e, none⟩) hbl).trans cl
      have k4 : wb.cell? ⟨gp, op + k, none⟩ = some (.int .i64 y) := (lb.cell (p := ⟨gp, op + k, none⟩) (by simp only; omega)).trans cp0
      have ho2 := show wb.ownsRow w3.heap.size 112 2 u9 k (cellsF ys) by rw [← hwb]; exact hown.alloc _
      have hsb : wb.heap.size = wq.heap.size + 1 := by rw [← hwb]; simp
      have HWB := Lib.hid (show Below w3.heap.size w3 wb by rw [← hwb]; exact HW.out.alloc hgw _)
      rw [hwb]
      obtain ⟨bx, hbx⟩ : ∃ bx, wq.heap.size = bx := ⟨_, rfl⟩
      rw [hbx] at k0 k1 hsb hgw hbl
      rw [hbx]
      have ag0 : u9.ownBlock ≠ some bx := fun h => by have := (hown.lt bx h).2; omega
      have ag1 : u9.ownBlock ≠ some g := fun h => by have := (ho2.lt g h).1; omega
      have ag2 : u9.ownBlock ≠ some (b i) := fun h => by have := (ho2.lt (b i) h).1; omega
      have ag3 : u9.ownBlock ≠ some gp := fun h => by have := (ho2.lt gp h).1; omega
      have hbb : bx < wb.heap.size := by omega
      have hgb : g < wb.heap.size := by omega
      have hib : b i < wb.heap.size := by omega
      have hpb : gp < wb.heap.size := by omega
      have hwb2 : w3.heap.size ≤ wb.heap.size := by omega
      clear cr cl lb hwb hbx hsb hown cx cy HW cp0
      go_region_held3 (fun w' => w'.cell? ⟨bx, 0, none⟩ = some (.int .i64 (i : Int)) ∧ w'.cell? ⟨bx, 1, none⟩ = some (.int .i64 (e : Int)) ∧ w'.cell? ⟨g, i, none⟩ = some (.pointer (some ⟨b i, 0, none⟩)) ∧ w'.cell? ⟨b i, 3 + e, none⟩ = some (.int .i64 z) ∧ w'.cell? ⟨gp, op + k, none⟩ = some (.int .i64 y))
        (first
          | exact ⟨k0, k1, k2, k3, k4⟩
          | go_keep
          | (go_split_ands
             refine ⟨?_, ?_, ?_, ?_, ?_⟩
             · (rw [hgrow.cell_far _ (by simp; omega) (Ne.symm ag0)]; assumption)
             · (rw [hgrow.cell_far _ (by simp; omega) (Ne.symm ag0)]; assumption)
             · (rw [hgrow.cell_far _ (by simp; omega) (Ne.symm ag1)]; assumption)
             · (rw [hgrow.cell_far _ (by simp; omega) (Ne.symm ag2)]; assumption)
             · (rw [hgrow.cell_far _ (by simp; omega) (Ne.symm ag3)]; assumption)))
        ((refine step_append_lies _ (by rfl) _ _ _ (by rfl) w3.heap.size 112 i0 _ 2 16 Try.underlying47 hi hz0 hz1 hz2 rfl (by omega) u9 k _ (by rfl) ((ho2.alloc _).drew)
            ⟨wb.heap.size, 0, none⟩ 1 1 [.int .i64 y, .int .i64 z] (by rfl) (by rfl) (World.news_of_block (cs := #[.int .i64 y, .int .i64 z]) (t := 112) (fr := (0, 0)) (heap_alloc_new wb _)) (by simp [Value.oneCell'])
            (by omega) (by unfold maxLen; omega) (by omega) (by simp; omega) (wb.heap.size + 1) (by simp) ?_; intro gg cap w1 hown1 hgrow hat hlt))
      have HNN := Lib.hid (show OwnL w1 w3.heap.size (.slice (some ⟨gg, 0, none⟩) (k + 1) cap) ((ts.take (k + 1)).map (fun t => (fo t, S.le t))) by rw [HS.out]; exact ownL_snoc hown1 HL.out)
      have HLN := Lib.hid (show Below w3.heap.size w3 w1 from ((HWB.out.alloc hwb2 _).drew).grown hgrow (by simp; omega) (fun q hq => (ho2.lt q hq).1))
      clear hown1 hgrow hat hlt ag0 ag1 ag2 ag3 ho2 k0 k1 k2 k3 k4
      go_wp2
      go_roundw
      case rel => exact ⟨k + 1, by omega, by go_num, HNN, HLN⟩
      case measure => simp [intOf]; omega
    · obtain rfl : k = ts.length := by omega
      have hge : ¬ (ts.length : Int) < (ts.length : Int) := by omega
      have LF := Lib.hid (L3.out.trans (HW.out.mono hw3))
      rw [HALL.out, ← HLR.out] at HO
      have IR := Lib.hid (isRow_any u9 R wq (loadRow_own HO.out))
      rw [HRB.out] at IR
      go_wp2_with fail
      refine IR.out.mono ?_
      rintro e w5 ⟨rfl, l5⟩
      have L5 := Lib.hid (lo_on LF.out l5)
      have M5 := Lib.hid (((mineL_own HO.out).mono hw3 (Nat.le_refl _) (Nat.le_refl _)).lo l5)
      have hw5 := l5.size
      clear IR l5 HO
      cases rb with
      | true =>
        have hres : R = res := by have := HRES.out; rw [if_pos rfl] at this; exact this
        subst hres
        go_wp2
        go_ret2
        exact ⟨u9, rfl, M5.out.mono (Nat.le_refl _) hw5 (Nat.le_refl _), L5.out⟩
      | false =>
        have hres : [] = res := by have := HRES.out; rw [if_neg (by simp)] at this; exact this
        subst hres
        go_wp2
        go_ret2
        exact ⟨_, rfl, mineL_nil _ _ _ _ _, L5.out⟩
set_option maxRecDepth 100000 in
theorem leafRow_no (v : Value) (m : MobV) (p : Int) (w : World) (hv : MobRow w v m) (hs : SmallM m) (hb : BndM m) (hf : goodB m = false) :
    Calls Try.prog 49 #[v, .int .i64 p] w fun e w' => e = .returned (.tuple #[.slice none 0 0, .bool false]) ∧ Below w.heap.size w w' := by
  have RO := Lib.hid (fun w1 (l : Below w.heap.size w w1) => rodsOf_no v m w1 (hv.lo l) hs hb hf)
  obtain ⟨a, c0, c, d, rfl⟩ := hv.form
  generalize m.am.length = n at *
  generalize m.hu.length = n2 at *
  obtain ⟨W, hW⟩ : ∃ W, w.alloc (.cells #[.slice a n c, .slice c0 n2 d] 27) = W := ⟨_, rfl⟩
  have LW := Lib.hid (show Below w.heap.size w W by rw [← hW]; exact (Below.refl _ _).alloc (Nat.le_refl _) _)
  have BX := Lib.hid (show Box2 W w.heap.size (.slice a n c) (.slice c0 n2 d) by rw [← hW]; exact box2_new _ _ _ _)
  have RO1 := Lib.hid (RO.out W LW.out)
  clear hv hs hb hf RO
  obtain ⟨_, u0, u1⟩ := BX.out
  go_enter Try.func49, Try.ntmps49
  go_wp2_with fail
  clear hW u0 u1
  refine RO1.out.mono ?_
  rintro e w1 ⟨rfl, l1⟩
  have L1 := Lib.hid (lo_on LW.out l1)
  clear l1 RO1
  go_wp2
  go_ret2
  exact ⟨rfl, L1.out⟩
set_option maxRecDepth 100000 in
theorem leafRow_out (v : Value) (m : MobV) (p : Int) (w : World) (hv : MobRow w v m) (hb : BndM m) (hf : MobF m) (hp : (decide (0 ≤ p) && decide (p ≤ 60)) = false) :
    Calls Try.prog 49 #[v, .int .i64 p] w fun e w' => e = .returned (.tuple #[.slice none 0 0, .bool false]) ∧ Below w.heap.size w w' := by
  have RO := Lib.hid (fun w1 (l : Below w.heap.size w w1) => rodsOf_yes v m w1 (hv.lo l) hb hf)
  have IP := Lib.hid (fun w => isPlace_any p w)
  rw [hp] at IP
  obtain ⟨a, c0, c, d, rfl⟩ := hv.form
  generalize m.am.length = n at *
  generalize m.hu.length = n2 at *
  obtain ⟨W, hW⟩ : ∃ W, w.alloc (.cells #[.slice a n c, .slice c0 n2 d] 27) = W := ⟨_, rfl⟩
  have LW := Lib.hid (show Below w.heap.size w W by rw [← hW]; exact (Below.refl _ _).alloc (Nat.le_refl _) _)
  have BX := Lib.hid (show Box2 W w.heap.size (.slice a n c) (.slice c0 n2 d) by rw [← hW]; exact box2_new _ _ _ _)
  have RO1 := Lib.hid (RO.out W LW.out)
  clear hv hb hf RO hp
  obtain ⟨_, u0, u1⟩ := BX.out
  go_enter Try.func49, Try.ntmps49
  go_wp2_with fail
  clear hW u0 u1
  refine RO1.out.mono ?_
  rintro e w1 ⟨g, b, rfl, H, hg, l1⟩
  have L1 := Lib.hid (lo_on LW.out l1)
  clear H l1 RO1
  go_wp2_with fail
  refine (IP.out _).mono ?_
  rintro e w' ⟨rfl, rfl⟩
  go_wp2
  go_ret2
  exact ⟨rfl, L1.out⟩
theorem leafRow_impl (v : Value) (m : MobV) (p : Int) (w : World) (hv : MobRow w v m) (hs : SmallM m) (hb : BndM m) :
    Calls Try.prog 49 #[v, .int .i64 p] w fun e w' => ∃ u, e = .returned (.tuple #[u, .bool (leafB m p)]) ∧ MineL w' w.heap.size w'.heap.size u (leafYs m p) ∧ Below w.heap.size w w' := by
  unfold leafYs leafB
  cases hg : goodB m with
  | false =>
    simp only [Bool.false_and, Bool.false_eq_true, if_false]
    refine (leafRow_no v m p w hv hs hb hg).mono ?_
    rintro e w' ⟨rfl, l⟩
    exact ⟨_, rfl, mineL_nil _ _ _ _ _, l⟩
  | true =>
    have hf := (goodB_iff m).1 hg
    cases hp : (decide (0 ≤ p) && decide (p ≤ 60)) with
    | false =>
      simp only [Bool.and_false, Bool.false_and, Bool.false_eq_true, if_false]
      refine (leafRow_out v m p w hv hb hf hp).mono ?_
      rintro e w' ⟨rfl, l⟩
      exact ⟨_, rfl, mineL_nil _ _ _ _ _, l⟩
    | true =>
      rw [Bool.and_true, Bool.true_and, ← leafR_row hf]
      simp only [Bool.and_eq_true, decide_eq_true_eq] at hp
      exact leafRow_yes v m p w hv hb hf hp.1 hp.2
end Go.Proofs.Ytnadchgekfljkaa
