/- The contracts of the program's GreatestBend, InfluenceOf and BendBy. -/
import Derived.Test.YthncgcdnljoakaaBi2
import Derived.Test.YthncgcdnljoakaaBm9
namespace Go.Proofs.Ythncgcdnljoakaa
open Go.RowKit
theorem gbF_congr {f g : Nat → Int} (k : Nat) (h : ∀ j, j < k → f j = g j) : gbF f k = gbF g k := by
  induction k with
  | zero => rfl
  | succ k ih => simp only [gbF, ih (fun j hj => h j (by omega)), h k (by omega)]
/-- What is told of all bends as a list. -/
structure BsF (p : BeamV) (xs : List (Int × Int)) (n : Nat) (bs : List Int) : Prop where
  len : bs.length = n
  short : n ≤ 61
  each : ∀ j, j < n → -59875200 ≤ bs.getD j 0 ∧ bs.getD j 0 ≤ 59875200
  best : gbF (fun j => szZ (bs.getD j 0)) n = gbR p xs
theorem bsF_of (p : BeamV) (xs : List (Int × Int)) : ∃ n, BsF p xs n (bendR p xs) := by
  unfold bendR
  cases h : onB p xs with
  | false => exact ⟨0, by simp, by omega, fun j hj => by omega, by simp [gbF, gbR, h]⟩
  | true =>
    have hf := (onB_iff p xs).1 h
    have hl := onF_len hf
    refine ⟨p.l.toNat + 1, by simp [rowOf_len], by omega, fun j hj => ?_, ?_⟩
    · rw [if_pos rfl, rowOf_at _ _ _ hj]
      exact (fcF_bounds (fsF_fc hf)).2 _ (by omega)
    · unfold gbR
      rw [if_pos h]
      exact gbF_congr _ (fun j hj => by rw [if_pos rfl, rowOf_at _ _ _ hj])
theorem max_is (z : Int) : (if z < -z then -z else z) = szZ z := by unfold szZ; split <;> split <;> omega
set_option maxRecDepth 100000 in
set_option maxHeartbeats 3200000 in
theorem gb_any (p : BeamV) (v : Value) (xs : List (Int × Int)) (w : World) (hr : LoadRow w v xs) :
    Calls Try.prog 39 #[.agg #[.int .i64 p.l, .int .i64 p.a, .int .i64 p.b], v] w fun e w' => e = .returned (.tuple #[.int .i64 (gbR p xs).1, .int .i64 (gbR p xs).2, .bool (onB p xs)]) ∧ Below w.heap.size w w' := by
  have C := Lib.hid (fun w1 (l : Below w.heap.size w w1) => bendTimes_any p v xs w1 (hr.lo l))
  obtain ⟨n, hbs⟩ := bsF_of p xs
  have HBS := Lib.hid hbs
  generalize bendR p xs = bs at *
  generalize onB p xs = r at *
  have HE := Lib.hid hbs.best
  have hn61 := hbs.short
  have HGB := Lib.hid (fun k (hk : k ≤ n) => gbF_bound (fun j => szZ (bs.getD j 0)) 59875200 k (by omega) (fun j hj => (szZ_bound (HBS.out.each j (by omega)).1 (HBS.out.each j (by omega)).2).2))
  have HST := Lib.hid (fun k : Nat => show gbF (fun j => szZ (bs.getD j 0)) (k + 1) = if (gbF (fun j => szZ (bs.getD j 0)) k).1 < szZ (bs.getD k 0) then (szZ (bs.getD k 0), (k : Int)) else gbF (fun j => szZ (bs.getD j 0)) k from rfl)
  have HG0 := Lib.hid (show gbF (fun j => szZ (bs.getD j 0)) 0 = (0, 0) from rfl)
  generalize gbF (fun j => szZ (bs.getD j 0)) = G at *
  generalize gbR p xs = T at *
  clear hbs hr
  obtain ⟨l, a, b⟩ := p
  simp only at C ⊢
  obtain ⟨W, hW⟩ : ∃ W, w.alloc (.cells #[.int .i64 l, .int .i64 a, .int .i64 b] 25) = W := ⟨_, rfl⟩
  have LW := Lib.hid (show Below w.heap.size w W by rw [← hW]; exact below_new _ _)
  have BX := Lib.hid (show Cel3 W w.heap.size (.int .i64 l) (.int .i64 a) (.int .i64 b) by rw [← hW]; exact cel3_new _ _ _ _ _)
  obtain ⟨_, u0, u1, u2⟩ := BX.out
  go_enter Try.func39, Try.ntmps39
  go_wp2_with fail
  clear hW
  refine (C.out W LW.out).mono ?_
  rintro e w1 ⟨u, rfl, m, l1⟩
  have L1 := Lib.hid (lo_on LW.out l1)
  have hlen := HBS.out.len
  obtain ⟨ua, uc, rfl, hu⟩ := m.row
  have HU := Lib.hid hu
  clear l1 C u0 u1 u2 BX m hu
  rw [hlen]
  go_wp2
  go_loopw [9, 10, 22] (fun x y i wr => ∃ k : Nat, k ≤ n ∧ i = .int .i64 k ∧ x = .int .i64 (G k).1 ∧ y = .int .i64 (G k).2 ∧ wr = w1) (fun _ _ i _ => n - (intOf i).toNat)
  case atStart => exact ⟨0, Nat.zero_le _, rfl, by rw [HG0.out], by rw [HG0.out], rfl⟩
  case round =>
    obtain ⟨k, hk, rfl, rfl, rfl, rfl⟩ := hrel
    by_cases hlt : k < n
    · rcases HU.out with h | ⟨g, off, rfl, hg, hc⟩
      · rw [h] at hlen; simp at hlen; omega
      have hcf := hc k (by rw [hlen]; exact hlt)
      have hlt' : (k : Int) < (n : Int) := by omega
      have b2 := HBS.out.each k hlt
      have b3 := szZ_bound b2.1 b2.2
      have hb := HGB.out k hk
      have HSk := Lib.hid (HST.out k)
      obtain ⟨z0, z1⟩ := b2
      generalize bs.getD k 0 = z at *
      have HM := max_is z
      obtain ⟨s, hs⟩ : ∃ s, szZ z = s := ⟨_, rfl⟩
      rw [hs] at HM HSk b3
      obtain ⟨x, hx⟩ : ∃ x, (G k).1 = x := ⟨_, rfl⟩
      obtain ⟨y, hy⟩ : ∃ y, (G k).2 = y := ⟨_, rfl⟩
      rw [hx] at hb HSk ⊢
      rw [hy] at hb ⊢
      have HX := Lib.hid hx
      have HY := Lib.hid hy
      clear hx hy hs hc hlen HU
      by_cases hgt : x < s
      · go_wp2
        go_roundw
        case rel => exact ⟨k + 1, by omega, by go_num, by rw [HSk.out, if_pos hgt], by rw [HSk.out, if_pos hgt], trivial⟩
        case measure => simp [intOf]; omega
      · go_wp2
        go_roundw
        case rel => exact ⟨k + 1, by omega, by go_num, by rw [HSk.out, if_neg (by omega), HX.out], by rw [HSk.out, if_neg (by omega), HY.out], trivial⟩
        case measure => simp [intOf]; omega
    · obtain rfl : k = n := by omega
      have hge : ¬ (k : Int) < (k : Int) := by omega
      rw [HE.out]
      go_wp2
      go_ret3
      exact ⟨rfl, L1.out⟩
theorem isPl_any (p : BeamV) (q : Int) (w : World) : Calls Try.prog 94 #[.agg #[.int .i64 p.l, .int .i64 p.a, .int .i64 p.b], .int .i64 q] w fun e w' => e = .returned (.bool (plB p q)) ∧ Below w.heap.size w w' := by
  have C := Lib.hid (fun w => isBeam_any p w)
  have HP := Lib.hid (show plB p q = (beamB p && (decide (0 ≤ q) && decide (q ≤ p.l))) from rfl)
  generalize beamB p = b1 at *
  generalize plB p q = r at *
  have HP2 := HP.out
  subst HP2
  obtain ⟨l, a, b⟩ := p
  simp only at C ⊢
  obtain ⟨W, hW⟩ : ∃ W, w.alloc (.cells #[.int .i64 l, .int .i64 a, .int .i64 b] 25) = W := ⟨_, rfl⟩
  have LW := Lib.hid (show Below w.heap.size w W by rw [← hW]; exact below_new _ _)
  have BX := Lib.hid (show Cel3 W w.heap.size (.int .i64 l) (.int .i64 a) (.int .i64 b) by rw [← hW]; exact cel3_new _ _ _ _ _)
  obtain ⟨_, u0, u1, u2⟩ := BX.out
  cases b1 with
  | false =>
    go_enter Try.func94, Try.ntmps94
    go_wp2_with fail
    clear hW
    refine (C.out W).mono ?_
    rintro e w1 ⟨rfl, l1⟩
    go_wp2
    go_ret
    exact ⟨rfl, lo_on LW.out l1⟩
  | true =>
    by_cases h1 : 0 ≤ q
    · by_cases h2 : q ≤ l
      all_goals
        (go_enter Try.func94, Try.ntmps94
         go_wp2_with fail
         clear hW
         refine (C.out W).mono ?_
         rintro e w1 ⟨rfl, l1⟩
         obtain ⟨_, x0, x1, x2⟩ := BX.out.lo l1
         have L1 := Lib.hid (lo_on LW.out l1)
         clear l1 u0 u1 u2 C
         go_wp2
         go_ret
         exact ⟨by simp [h1, h2], L1.out⟩)
    · go_enter Try.func94, Try.ntmps94
      go_wp2_with fail
      clear hW
      refine (C.out W).mono ?_
      rintro e w1 ⟨rfl, l1⟩
      have L1 := Lib.hid (lo_on LW.out l1)
      clear l1 u0 u1 u2 C
      go_wp2
      go_ret
      exact ⟨by simp; omega, L1.out⟩
theorem isPl_is (p : BeamV) (q : Int) (r : Bool) (h : plB p q = r) (w : World) : Calls Try.prog 94 #[.agg #[.int .i64 p.l, .int .i64 p.a, .int .i64 p.b], .int .i64 q] w fun e w' => e = .returned (.bool r) ∧ Below w.heap.size w w' := by
  subst h
  exact isPl_any p q w
set_option maxHeartbeats 800000 in
theorem inf_no (p : BeamV) (q : Int) (w : World) (h : plB p q = false) :
    Calls Try.prog 41 #[.agg #[.int .i64 p.l, .int .i64 p.a, .int .i64 p.b], .int .i64 q] w fun e w' => e = .returned (.tuple #[.slice none 0 0, .bool false]) ∧ Below w.heap.size w w' := by
  have C := Lib.hid (fun w1 => isPl_is p q false h w1)
  clear h
  obtain ⟨l, a, b⟩ := p
  simp only at C ⊢
  obtain ⟨W, hW⟩ : ∃ W, w.alloc (.cells #[.int .i64 l, .int .i64 a, .int .i64 b] 25) = W := ⟨_, rfl⟩
  have LW := Lib.hid (show Below w.heap.size w W by rw [← hW]; exact below_new _ _)
  have BX := Lib.hid (show Cel3 W w.heap.size (.int .i64 l) (.int .i64 a) (.int .i64 b) by rw [← hW]; exact cel3_new _ _ _ _ _)
  obtain ⟨_, u0, u1, u2⟩ := BX.out
  go_enter Try.func41, Try.ntmps41
  go_wp2_with fail
  clear hW
  refine (C.out W).mono ?_
  rintro e w1 ⟨rfl, l1⟩
  go_wp2
  go_ret2
  exact ⟨rfl, lo_on LW.out l1⟩
set_option maxRecDepth 100000 in
set_option maxHeartbeats 3200000 in
theorem inf_yes (p : BeamV) (L : Nat) (hL : p.l = (L : Int)) (q : Int) (w : World) (hp : PlF p q) :
    Calls Try.prog 41 #[.agg #[.int .i64 p.l, .int .i64 p.a, .int .i64 p.b], .int .i64 q] w fun e w' => ∃ u, e = .returned (.tuple #[u, .bool true]) ∧ MineI w' w.heap.size w'.heap.size u (rowOf (fun x : Nat => inF p q (x : Int)) (L + 1)) ∧ Below w.heap.size w w' := by
  have C := Lib.hid (fun w1 => isPl_is p q true ((plB_iff p q).2 hp) w1)
  have A := Lib.hid (fun (x : Nat) (hx : (x : Int) ≤ p.l) w1 v (hr : LoadRow w1 v [((x : Int), 1)]) => allF_any p v [((x : Int), 1)] w1 hr (one_on hp (by omega) hx))
  have D := Lib.hid (fun (x : Nat) (hx : (x : Int) ≤ p.l) w1 v (hr : LoadRow w1 v (fsF p [((x : Int), 1)])) => show Calls Try.prog 90 #[.int .i64 q, v] w1 fun e w' => e = .returned (.int .i64 (inF p q (x : Int))) ∧ Below w1.heap.size w1 w' from bendAt_any q (by have := hp.q1; have := hp.l1; omega) v (fsF p [((x : Int), 1)]) w1 hr (fsF_fc (one_on hp (by omega) hx)))
  have hl1 := hp.l1
  clear hp
  generalize inF p q = F at *
  have HFS := Lib.hid (fun x : Nat => show fsF p [((x : Int), 1)] = fsF p [((x : Int), 1)] from rfl)
  generalize hfs : (fun x : Nat => fsF p [((x : Int), 1)]) = FS at *
  have A2 := Lib.hid (fun (x : Nat) (hx : (x : Int) ≤ p.l) w1 v (hr : LoadRow w1 v [((x : Int), 1)]) => show Calls Try.prog 95 #[.agg #[.int .i64 p.l, .int .i64 p.a, .int .i64 p.b], v] w1 fun e w' => ∃ u, e = .returned u ∧ LoadRow w' u (FS x) ∧ Below w1.heap.size w1 w' by rw [← hfs]; exact A.out x hx w1 v hr)
  have D2 := Lib.hid (fun (x : Nat) (hx : (x : Int) ≤ p.l) w1 v (hr : LoadRow w1 v (FS x)) => D.out x hx w1 v (by rw [← hfs] at hr; exact hr))
  clear A D HFS hfs
  obtain ⟨l, a, b⟩ := p
  simp only at hL hl1 C A2 D2 ⊢
  subst hL
  have HM := make_ints (L + 1) (by omega)
  rw [show ((L + 1 : Nat) : Int) = (L : Int) + 1 by omega] at HM
  obtain ⟨W, hW⟩ : ∃ W, w.alloc (.cells #[.int .i64 (L : Int), .int .i64 a, .int .i64 b] 25) = W := ⟨_, rfl⟩
  have LW := Lib.hid (show Below w.heap.size w W by rw [← hW]; exact below_new _ _)
  have BX := Lib.hid (show Cel3 W w.heap.size (.int .i64 (L : Int)) (.int .i64 a) (.int .i64 b) by rw [← hW]; exact cel3_new _ _ _ _ _)
  obtain ⟨_, u0, u1, u2⟩ := BX.out
  go_enter Try.func41, Try.ntmps41
  go_wp2_with fail
  clear hW
  refine (C.out W).mono ?_
  rintro e w1 ⟨rfl, l1⟩
  have L1 := Lib.hid (lo_on LW.out l1)
  obtain ⟨hbx, x0, x1, x2⟩ := BX.out.lo l1
  have B1 := Lib.hid (BX.out.lo l1)
  obtain ⟨W3, hW3⟩ : ∃ W3, w1.alloc (.cells (madeCells #[.int .i64 0] (L + 1)) 3) = W3 := ⟨_, rfl⟩
  have F3 := Lib.hid (show FcC W3 w1.heap.size (L + 1) (fun j => if j < 0 then F (j : Int) else 0) from ⟨fun j hj => by rw [← hW3, World.cell?_alloc_at _ _ _ _ rfl]; exact made_int _ _ hj, fun j => by rw [← hW3]; exact World.frozen?_alloc_at _ _ _ _ rfl⟩)
  have L3 := Lib.hid (show Below w1.heap.size w1 W3 by rw [← hW3]; exact below_new _ _)
  have hs3 : w1.heap.size + 1 ≤ W3.heap.size := by rw [← hW3]; simp
  clear l1 C u0 u1 u2 BX
  go_wp2
  clear hW3 HM x0 x1 x2
  go_loopw [18] (fun i wr => ∃ k : Nat, k ≤ L + 1 ∧ i = .int .i64 k ∧ Hid (FcC wr w1.heap.size (L + 1) (fun j => if j < k then F (j : Int) else 0)) ∧ Hid (Below w1.heap.size w1 wr) ∧ w1.heap.size + 1 ≤ wr.heap.size) (fun i _ => L + 1 - (intOf i).toNat)
  case atStart => exact ⟨0, Nat.zero_le _, rfl, F3, L3, hs3⟩
  case round =>
    obtain ⟨k, hk, rfl, HG, HB, hs4⟩ := hrel
    clear F3 L3 hs3
    by_cases hlt : k < L + 1
    · have hlt' : (k : Int) < (L : Int) + 1 := by omega
      obtain ⟨_, x0, x1, x2⟩ := B1.out.lo HB.out
      have AK := Lib.hid (A2.out k (by omega) (wr.alloc (.cells #[.int .i64 (k : Int), .int .i64 1] 78)) _ (row_one wr k 1 _))
      have DK := Lib.hid (D2.out k (by omega))
      generalize FS k = fk at *
      go_wp2_with fail
      refine AK.out.mono ?_
      rintro e w2 ⟨fu, rfl, m, l2⟩
      have DD := Lib.hid (DK.out w2 fu m)
      have LB := Lib.hid (lo_on (below_new wr _) l2)
      clear AK DK m l2 x0 x1 x2
      go_wp2_with fail
      refine DD.out.mono ?_
      rintro e w4 ⟨rfl, l4⟩
      have LC := Lib.hid (lo_on LB.out l4)
      have G4 := Lib.hid (HG.out.lo (by omega) LC.out)
      have L4 := Lib.hid (lo_on HB.out LC.out)
      have hs5 := Nat.le_trans hs4 LC.out.size
      have z1 : w4.cell? ⟨w1.heap.size, k, none⟩ = some (.int .i64 0) := (G4.out.1 k hlt).trans (by simp)
      have f1 := G4.out.2 k
      clear l4 LB LC HG HB DD
      go_wp2
      go_roundw
      case rel =>
        refine ⟨k + 1, by omega, by go_num, Lib.hid (G4.out.set k hlt _ (by rw [if_pos (Nat.lt_succ_self k)]) (fun j hj => ?_)), Lib.hid (L4.out.setCell (p := ⟨w1.heap.size, k, none⟩) (Nat.le_refl _) _), by simpa using hs5⟩
        by_cases h1 : j < k
        · rw [if_pos h1, if_pos (by omega)]
        · rw [if_neg h1, if_neg (by omega)]
      case measure => simp [intOf]; omega
    · obtain rfl : k = L + 1 := by omega
      have hge : ¬ ((L : Int) + 1 < (L : Int) + 1) := by omega
      have hws := L1.out.size
      have M := Lib.hid (show MineI wr w.heap.size wr.heap.size (.slice (some ⟨w1.heap.size, 0, none⟩) (L + 1) (L + 1)) (rowOf (fun x : Nat => F (x : Int)) (L + 1)) from FcC.mine (f := fun x : Nat => F (x : Int)) ⟨fun j hj => (HG.out.1 j hj).trans (by simp [hj]), HG.out.2⟩ hws (by omega) (L + 1))
      have LE := Lib.hid (lo_on L1.out HB.out)
      clear HG HB
      go_wp2
      go_ret2
      exact ⟨_, rfl, M.out, LE.out⟩
theorem inf_any (p : BeamV) (q : Int) (w : World) :
    Calls Try.prog 41 #[.agg #[.int .i64 p.l, .int .i64 p.a, .int .i64 p.b], .int .i64 q] w fun e w' => ∃ u, e = .returned (.tuple #[u, .bool (plB p q)]) ∧ MineI w' w.heap.size w'.heap.size u (infR p q) ∧ Below w.heap.size w w' := by
  unfold infR
  cases h : plB p q with
  | true => simpa using inf_yes p p.l.toNat (plF_len ((plB_iff p q).1 h)).1 q w ((plB_iff p q).1 h)
  | false =>
    refine (inf_no p q w h).mono ?_
    rintro e w' ⟨rfl, l⟩
    exact ⟨_, rfl, by simpa using mineI_nil _ _ _ _ _, l⟩
set_option maxRecDepth 100000 in
set_option maxHeartbeats 3200000 in
theorem byInf_any (p : BeamV) (L : Nat) (hL : p.l = (L : Int)) (q : Int) (u v : Value) (xs : List (Int × Int)) (w : World) (hu : IntRow w u (rowOf (fun x : Nat => inF p q (x : Int)) (L + 1))) (hr : LoadRow w v xs) (hf : OnF p xs) (hq : q ≤ 60) :
    Calls Try.prog 96 #[u, v] w fun e w' => e = .returned (.int .i64 (sumW (inF p q) xs)) ∧ Below w.heap.size w w' := by
  have hlen := hf.row.short
  have HB := Lib.hid (fun k => sumW_on (q := q) hf hq k)
  have HS := Lib.hid (fun k h => sumW_take (inF p q) xs k h)
  have HX := Lib.hid (fun k (hk : k < xs.length) => show (0 ≤ (xs.getD k (0, 0)).1 ∧ (xs.getD k (0, 0)).1 ≤ p.l) ∧ (1 ≤ (xs.getD k (0, 0)).2 ∧ (xs.getD k (0, 0)).2 ≤ 99) ∧ -59875200 ≤ inF p q (xs.getD k (0, 0)).1 ∧ inF p q (xs.getD k (0, 0)).1 ≤ 59875200 from by
    have hm := mem_getD hk
    have h1 := hf.row.each _ hm
    exact ⟨⟨h1.1.1, hf.on _ hm⟩, h1.2, inF_bound p q _ hf.l0 hf.l1 hf.a0 hf.ab hf.b1 hq h1.1.1 (hf.on _ hm)⟩)
  have HT := Lib.hid (show sumW (inF p q) (xs.take xs.length) = sumW (inF p q) xs by rw [List.take_length])
  obtain ⟨T, hT⟩ : ∃ T, sumW (inF p q) xs = T := ⟨_, rfl⟩
  rw [hT] at HT ⊢
  clear hT
  have hl1 := hf.l1
  have HR := Lib.hid (fun j (hj : j < L + 1) => show (rowOf (fun x : Nat => inF p q (x : Int)) (L + 1)).getD j 0 = inF p q (j : Int) from rowOf_at _ _ _ hj)
  have hRl := rowOf_len (fun x : Nat => inF p q (x : Int)) (L + 1)
  generalize rowOf (fun x : Nat => inF p q (x : Int)) (L + 1) = R at *
  generalize inF p q = F at *
  obtain ⟨av, cv, rfl, hr⟩ := hr
  obtain ⟨au, cu, rfl, hu⟩ := hu
  rw [hRl]
  rcases hu with h | ⟨g, o, rfl, hg, hc⟩
  · rw [h] at hRl; simp at hRl
  rw [hRl] at hc
  have HC := Lib.hid (fun j (hj : j < L + 1) => show w.cell? ⟨g, o + j, none⟩ = some (.int .i64 (F (j : Int))) by rw [hc j hj, HR.out j hj])
  clear hf hc hRl HR
  rw [hL] at HX hl1
  clear hL
  go_enter Try.func96, Try.ntmps96
  go_wp2
  go_loopw [5, 10] (fun s i wr => ∃ k : Nat, k ≤ xs.length ∧ i = .int .i64 k ∧ s = .int .i64 (sumW F (xs.take k)) ∧ Hid (Below w.heap.size w wr)) (fun _ i _ => xs.length - (intOf i).toNat)
  case atStart => exact ⟨0, Nat.zero_le _, rfl, by rw [List.take_zero]; rfl, Lib.hid (Below.refl _ _)⟩
  case round =>
    obtain ⟨k, hk, rfl, rfl, HL⟩ := hrel
    by_cases hlt : k < xs.length
    · rcases hr with h | ⟨g1, off, rfl, hgl, hcl⟩
      · subst h; simp at hlt
      obtain ⟨h1, h2⟩ := hcl k hlt
      rw [← HL.out.cell (p := ⟨g1, off + k * 2, none⟩) hgl] at h1
      rw [← HL.out.cell (p := ⟨g1, off + k * 2 + 1, none⟩) hgl] at h2
      have hlt' : (k : Int) < (xs.length : Int) := by omega
      have hb := HB.out k
      have hb2 := HB.out (k + 1)
      have hs := HS.out k hlt
      have hx := HX.out k hlt
      generalize xs.getD k (0, 0) = x at h1 h2 hs hx
      obtain ⟨x, z⟩ := x
      simp only at h1 h2 hs hx
      obtain ⟨⟨e0, e1⟩, ⟨q0, q1⟩, f0, f1⟩ := hx
      obtain ⟨X, rfl⟩ := Int.eq_ofNat_of_zero_le e0
      have LN := Lib.hid (fun ob => lo_on HL.out (below_new wr ob))
      have hcf := HC.out X (by omega)
      rw [← (LN.out (.cells #[.int .i64 (X : Int), .int .i64 z] 78)).cell (p := ⟨g, o + X, none⟩) hg] at hcf
      have hXi : (X : Int) < (L : Int) + 1 := by omega
      obtain ⟨y, hy⟩ : ∃ y, sumW F (xs.take k) = y := ⟨_, rfl⟩
      rw [hy] at hs hb ⊢
      rw [hs] at hb2
      have HY := Lib.hid hs
      generalize F (X : Int) = t at *
      have hm := wmul_bound q0 q1 f0 f1
      obtain ⟨b0, b1⟩ := hb
      obtain ⟨c0, c1⟩ := hb2
      have m0 : -9223372036854775808 ≤ z * t := by omega
      have m1 : z * t ≤ 9223372036854775807 := by omega
      have s0 : -9223372036854775808 ≤ y + z * t := by omega
      have s1 : y + z * t ≤ 9223372036854775807 := by omega
      clear hcl hy hs
      go_wp2
      go_quiet (fail)
      go_wp2
      go_roundw
      case rel => exact ⟨k + 1, by omega, by go_num, by rw [HY.out], Lib.hid (lo_drewN (LN.out _) _)⟩
      case measure => simp [intOf]; omega
    · obtain rfl : k = xs.length := by omega
      have hge : ¬ (xs.length : Int) < (xs.length : Int) := by omega
      rw [HT.out]
      go_wp2
      go_ret
      exact ⟨rfl, HL.out⟩
set_option maxRecDepth 100000 in
set_option maxHeartbeats 3200000 in
theorem bb_any (p : BeamV) (v : Value) (xs : List (Int × Int)) (q : Int) (w : World) (hr : LoadRow w v xs) :
    Calls Try.prog 43 #[.agg #[.int .i64 p.l, .int .i64 p.a, .int .i64 p.b], v, .int .i64 q] w fun e w' => e = .returned (.tuple #[.int .i64 (bbR p xs q), .bool (bbB p xs q)]) ∧ Below w.heap.size w w' := by
  have C := Lib.hid (fun w1 => inf_any p q w1)
  have O := Lib.hid (fun w1 (l : Below w.heap.size w w1) => isOn_any p v xs w1 (hr.lo l))
  have Y := Lib.hid (fun (h : onB p xs = true) (k : plB p q = true) u w1 (l : Below w.heap.size w w1) (hu : IntRow w1 u (infR p q)) => by
    have hf := (onB_iff p xs).1 h
    have hp := (plB_iff p q).1 k
    refine byInf_any p p.l.toNat (onF_len hf).1 q u v xs w1 ?_ (hr.lo l) hf (by have := hp.q1; have := hp.l1; omega)
    unfold infR at hu
    rw [if_pos k] at hu
    exact hu)
  have HB := Lib.hid (show bbB p xs q = (plB p q && onB p xs) by
    cases h1 : plB p q with
    | true =>
      have hp := (plB_iff p q).1 h1
      unfold bbB
      have e : (decide (0 ≤ q) && decide (q ≤ p.l)) = true := by have := hp.q0; have := hp.q1; simp; omega
      rw [e, Bool.and_true, Bool.true_and]
    | false =>
      cases h2 : bbB p xs q with
      | false => rfl
      | true => have := ((bbB_iff p xs q).1 h2).2; rw [(plB_iff p q).2 this] at h1; cases h1)
  have HR := Lib.hid (show bbR p xs q = if bbB p xs q = true then sumW (inF p q) xs else 0 from rfl)
  generalize bbR p xs q = R at *
  generalize bbB p xs q = r at *
  generalize sumW (inF p q) xs = T at *
  generalize infR p q = I at *
  generalize plB p q = b1 at *
  generalize onB p xs = b2 at *
  have h1 := HB.out
  subst h1
  have h2 := HR.out
  subst h2
  clear hr HB HR
  obtain ⟨l, a, b⟩ := p
  simp only at C O ⊢
  obtain ⟨W, hW⟩ : ∃ W, w.alloc (.cells #[.int .i64 l, .int .i64 a, .int .i64 b] 25) = W := ⟨_, rfl⟩
  have LW := Lib.hid (show Below w.heap.size w W by rw [← hW]; exact below_new _ _)
  have BX := Lib.hid (show Cel3 W w.heap.size (.int .i64 l) (.int .i64 a) (.int .i64 b) by rw [← hW]; exact cel3_new _ _ _ _ _)
  obtain ⟨_, u0, u1, u2⟩ := BX.out
  cases b1 with
  | false =>
    go_enter Try.func43, Try.ntmps43
    go_wp2_with fail
    clear hW
    refine (C.out W).mono ?_
    rintro e w1 ⟨u, rfl, m, l1⟩
    have L1 := Lib.hid (lo_on LW.out l1)
    clear m l1 u0 u1 u2 C O Y
    go_wp2
    go_ret2
    exact ⟨rfl, L1.out⟩
  | true =>
    cases b2 with
    | false =>
      go_enter Try.func43, Try.ntmps43
      go_wp2_with fail
      clear hW
      refine (C.out W).mono ?_
      rintro e w1 ⟨u, rfl, m, l1⟩
      have L1 := Lib.hid (lo_on LW.out l1)
      obtain ⟨_, x0, x1, x2⟩ := BX.out.lo l1
      clear m l1 u0 u1 u2 C Y
      go_wp2_with fail
      refine (O.out w1 L1.out).mono ?_
      rintro e w2 ⟨rfl, l2⟩
      go_wp2
      go_ret2
      exact ⟨rfl, lo_on L1.out l2⟩
    | true =>
      go_enter Try.func43, Try.ntmps43
      go_wp2_with fail
      clear hW
      refine (C.out W).mono ?_
      rintro e w1 ⟨u, rfl, m, l1⟩
      have L1 := Lib.hid (lo_on LW.out l1)
      have M := Lib.hid m.row
      obtain ⟨_, x0, x1, x2⟩ := BX.out.lo l1
      clear m l1 u0 u1 u2 C
      go_wp2_with fail
      refine (O.out w1 L1.out).mono ?_
      rintro e w2 ⟨rfl, l2⟩
      have L2 := Lib.hid (lo_on L1.out l2)
      have YY := Lib.hid (Y.out trivial trivial u w2 L2.out (M.out.lo l2))
      clear l2 x0 x1 x2 O Y M
      go_wp2_with fail
      refine YY.out.mono ?_
      rintro e w3 ⟨rfl, l3⟩
      go_wp2
      go_ret2
      exact ⟨rfl, lo_on L2.out l3⟩
end Go.Proofs.Ythncgcdnljoakaa
