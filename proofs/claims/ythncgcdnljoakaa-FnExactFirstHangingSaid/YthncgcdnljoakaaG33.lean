/- LvJ, as one text. -/
import Derived.Test.YthncgcdnljoakaaG16
import Derived.Test.YthncgcdnljoakaaG17
import Derived.Test.YthncgcdnljoakaaG5
import Derived.Test.YthncgcdnljoakaaG32
namespace Go.Proofs.Ythncgcdnljoakaa
open Go.RowKit
/-- What the closure hands down, at every rod and end. -/
theorem lvClo_any {m : MobV} (hf : MobF m) (B : Nat) (b : Nat → Nat) (i e : Nat) (w : World) (hi : i < m.am.length) (he : e < 2) (H : RodsIn w B 0 m.am.length b (fun i => (i : Int)) (rodF m)) :
    Calls Try.prog 146 #[.pointer (some ⟨b i, 0, none⟩), .int .i64 (e : Int), .int .i64 (numH (rodF m) (stepW (rodF m)) ((allN m : Nat) : Int) (2 * i + e) i)] w fun r w' => r = .returned (.int .i64 (outH (rodF m) (stepW (rodF m)) ((allN m : Nat) : Int) (2 * i + e))) ∧ ∃ d, w' = w.drewN d := by
  have hs := (shR_end hf (2 * i + e) (by omega)).num (prodN_bnd hf _ (Nat.le_refl _)).1
  have hp := prodN_all hf
  have hn := numH_wn hf (allN m) (2 * i + e) (by omega) i
  rw [show (2 * i + e) / 2 = i by omega] at hs
  have hb := both_cast hf i hi
  have hbb := bothN_bnd hf i hi
  refine wClo_any (rodF m) m.am.length B b _ i e _ _ w hi he H (fun t ht => ar_rodF hf t ht) ?_ ?_ ?_
  · show 1 ≤ avM m (2 * i) + avM m (2 * i + 1)
    omega
  · rw [hn]
    unfold allN
    omega
  · unfold outH
    rw [show (2 * i + e) / 2 = i by omega]
theorem numN_out {m : MobV} (hf : MobF m) : (endT (rodF m) (2 * m.am.length)).map (outH (rodF m) (stepW (rodF m)) ((allN m : Nat) : Int)) = intsN (numN m) := by
  unfold intsN numN
  rw [List.map_map]
  exact List.map_congr_left (fun t ht => outH_wn hf (allN m) t (lfT_lt ht))
theorem lfT_pos {m : MobV} (hf : MobF m) : 0 < (lfT m).length := by
  have h1 := hf.one
  have hm : 2 * m.am.length - 1 ∈ lfT m := by
    refine endT_mem.2 ⟨by omega, (be_rodF hf _ (by omega)).2 ?_⟩
    have := (hf.ends (2 * m.am.length - 1) (by omega)).2
    omega
  exact List.length_pos_of_mem hm
set_option maxRecDepth 100000 in
set_option maxHeartbeats 6400000 in
theorem lvW_yes (v : Value) (m : MobV) (w : World) (hv : MobRow w v m) (hb : BndM m) (hf : MobF m) :
    Calls Try.prog 113 #[v] w fun e w' => ∃ u, e = .returned (.tuple #[u, .bool (lvOk m)]) ∧ OwnI w' w.heap.size u (if lvOk m = true then intsN (lvR m) else []) ∧ Below w.heap.size w w' := by
  have h1 := hf.one
  have h6 := hf.short
  have RO := Lib.hid (fun w1 (l : Below w.heap.size w w1) => rodsOf_yes v m w1 (hv.lo l) hb hf)
  have LN := Lib.hid (fun (B : Nat) (b : Nat → Nat) (k : Nat) (w1 : World) (hk : k < m.am.length) (H : RodsIn w1 B 0 m.am.length b (fun i => (i : Int)) (rodF m)) => (by
    have h := length_any (S := rodF m) k w1 hk (fun t ht => ar_rodF hf t ht) H
    rw [show (rodF m).ar (2 * k) + (rodF m).ar (2 * k + 1) = ((bothN m k : Nat) : Int) from both_cast hf k hk] at h
    exact h : Calls Try.prog 144 #[.pointer (some ⟨b k, 0, none⟩)] w1 fun r w' => r = .returned (.int .i64 ((bothN m k : Nat) : Int)) ∧ ∃ d, w' = w1.drewN d))
  have HB := Lib.hid (fun k (hk : k < m.am.length) => bothN_bnd hf k hk)
  have HP := Lib.hid (fun k (hk : k ≤ m.am.length) => show 1 ≤ prodN m k ∧ prodN m k ≤ 191102976 from ⟨(prodN_bnd hf k hk).1, Nat.le_trans (prodN_bnd hf k hk).2 (Nat.le_trans (Nat.pow_le_pow_right (by omega) (Nat.le_trans hk h6)) (by decide))⟩)
  have HD := Lib.hid (fun g B b w1 (H : RodsTo w1 B g 0 m.am.length b (rodF m)) => (by
    have h := handDown_weights g B m.am.length b (rodF m) (stepW (rodF m)) ((allN m : Nat) : Int) w1 h1 h6 H (fun t ht h => ((wtR_rodF hf).down t ht h).2) (fun i e w2 hi he H2 => lvClo_any hf B b i e w2 hi he H2)
    rw [numN_out hf] at h
    exact h : Calls Try.prog 145 #[.slice (some ⟨g, 0, none⟩) m.am.length m.am.length, .int .i64 ((allN m : Nat) : Int), .func (.func 146) #[] #[]] w1 fun e w' => ∃ u, e = .returned u ∧ OwnI w' w1.heap.size u (intsN (numN m)) ∧ Below w1.heap.size w1 w'))
  have NA := Lib.hid (fun k (h : k < (numN m).length) => numN_at hf k h)
  have GT := Lib.hid (fun k => gcd_take_le hf k)
  have GS := Lib.hid (fun k (h : k < (numN m).length) => show ((numN m).take (k + 1)).foldl Nat.gcd 0 = Nat.gcd (((numN m).take k).foldl Nat.gcd 0) ((numN m).getD k 0) from foldl_take _ _ _ _ _ h)
  have GA := Lib.hid (show ((numN m).take (numN m).length).foldl Nat.gcd 0 = gcdL (numN m) by rw [List.take_length]; rfl)
  have hl0 : 0 < (numN m).length := by rw [numN_len]; exact lfT_pos hf
  have hg := numN_gcd hf hl0
  have LA := Lib.hid (fun k (h : k < (numN m).length) => lvR_at m k h)
  have hll : (lvR m).length = (numN m).length := by rw [lvR_len, numN_len]
  have hl12 : (numN m).length ≤ 12 := by have := lfT_len m; rw [numN_len]; omega
  have OK := Lib.hid (lvOk_iff m)
  have HAN := Lib.hid (show allN m = prodN m m.am.length from rfl)
  have HP0 := Lib.hid (show prodN m 0 = 1 from rfl)
  have HPS := Lib.hid (fun k => show prodN m (k + 1) = prodN m k * bothN m k from rfl)
  have HLX := Lib.hid (fun k (h : k < (numN m).length) => show (lvR m).getD k 0 ≤ (numN m).getD k 0 by rw [lvR_at m k h]; exact Nat.div_le_self _ _)
  obtain ⟨ok, hok⟩ : ∃ ok, lvOk m = ok := ⟨_, rfl⟩
  rw [hok] at OK
  rw [hok]
  obtain ⟨a, c0, c, d, rfl⟩ := hv.form
  obtain ⟨n, hn⟩ : ∃ n, m.am.length = n := ⟨_, rfl⟩
  obtain ⟨W, hW⟩ : ∃ W, w.alloc (.cells #[.slice a m.am.length c, .slice c0 m.hu.length d] 62) = W := ⟨_, rfl⟩
  have LW := Lib.hid (show Below w.heap.size w W by rw [← hW]; exact (Below.refl _ _).alloc (Nat.le_refl _) _)
  have BX := Lib.hid (show Box2 W w.heap.size (.slice a m.am.length c) (.slice c0 m.hu.length d) by rw [← hW]; exact box2_new _ _ _ _)
  have RO1 := Lib.hid (RO.out W LW.out)
  rw [hn] at RO1 h1 h6 BX hW LN HB HP HD HAN
  rw [hn]
  clear hv hb hf RO hn hok
  generalize rodF m = S at *
  generalize lvR m = rs at *
  generalize prodN m = pr at *
  generalize allN m = P at *
  generalize bothN m = bo at *
  generalize numN m = ns at *
  obtain ⟨_, u0, u1⟩ := BX.out
  go_enter Try.func113, Try.ntmps113
  go_wp2_with fail
  clear hW u0 u1
  refine RO1.out.mono ?_
  rintro e w1 ⟨g, b, rfl, H, hg1, l1⟩
  have HR := Lib.hid H
  have L1 := Lib.hid (lo_on LW.out l1)
  clear H l1 RO1
  go_wp2
  have K1 := Lib.hid (Below.refl w1.heap.size w1)
  have p0 := HP0.out
  go_loopw [6, 23] (fun x y wr => ∃ k d : Nat, k ≤ n ∧ x = .int .i64 (pr k : Int) ∧ y = .int .i64 k ∧ wr = w1.drewN d) (fun _ y _ => n - (intOf y).toNat)
  case atStart => exact ⟨0, 0, Nat.zero_le _, by rw [p0]; rfl, rfl, rfl⟩
  case round =>
    obtain ⟨k, d, hk, rfl, rfl, rfl⟩ := hrel
    have HRq := Lib.hid (HR.out.lo (drewN_lo w1 d))
    by_cases hlt : k < n
    · have hlt' : (k : Int) < (n : Int) := by omega
      have cr := HRq.out.row k hlt
      rw [if_neg (by omega)] at cr
      have hgl := HRq.out.lt
      have LN1 := Lib.hid (LN.out _ b k (w1.drewN d) hlt HRq.out.rods)
      have hp1 := HP.out k hk
      have hp2 := HP.out (k + 1) (by omega)
      have hps := HPS.out k
      obtain ⟨r, hr⟩ : ∃ r, pr (k + 1) = r := ⟨_, rfl⟩
      rw [hr] at hp2 hps
      have hps' : (pr k : Int) * (bo k : Int) = (r : Int) := by rw [← Int.natCast_mul, ← hps]
      have hw1 : IntKind.i64.wrap ((pr k : Int) * (bo k : Int)) = (r : Int) := by rw [hps']; exact wrap_mid _ (by omega) (by omega)
      have HRR := Lib.hid hr
      generalize bo k = z at *
      generalize pr k = x at *
      clear hr hps hps'
      go_wp2_with fail
      refine LN1.out.mono ?_
      rintro e w2 ⟨rfl, d2, hw2⟩
      clear LN1 HRq
      go_wp2
      go_roundw
      case rel => exact ⟨k + 1, d + d2, by omega, by rw [HRR.out], by go_num, by first | rfl | (rw [hw2]; simp)⟩
      case measure => simp [intOf]; omega
    · obtain rfl : k = n := by omega
      have hge : ¬ (k : Int) < (k : Int) := by omega
      have HD1 := Lib.hid (HD.out g _ b (w1.drewN d) HRq.out)
      rw [HAN.out] at HD1
      clear HRq HR HD
      have LQ := Lib.hid (lo_drewN L1.out d)
      generalize w1.drewN d = wa at *
      go_wp2_with fail
      refine HD1.out.mono ?_
      rintro e w2 ⟨u, rfl, ow, l2⟩
      have L2 := Lib.hid (lo_on LQ.out l2)
      have OW := Lib.hid ow
      have hwa := LQ.out.size
      clear l2 ow HD1
      have hlI : (intsN ns).length = ns.length := intsN_len ns
      obtain ⟨gw, cap, rfl, hgB, hgl⟩ := (show w2.ownsRow wa.heap.size 3 1 u (intsN ns).length (icells (intsN ns)) from OW.out).form (by rw [hlI]; exact hl0)
      rw [hlI]
      have HCW := Lib.hid (fun k (hk : k < ns.length) => show w2.cell? ⟨gw, k, none⟩ = some (.int .i64 ((ns.getD k 0 : Nat) : Int)) by
        have h := (show w2.ownsRow wa.heap.size 3 1 (.slice (some ⟨gw, 0, none⟩) (intsN ns).length cap) (intsN ns).length (icells (intsN ns)) from OW.out).cellAt k (by rw [hlI]; omega)
        rw [h, icells_at _ k (by rw [hlI]; exact hk), intsN_at _ k hk])
      go_wp2
      go_loopw [10, 37] (fun x y wr => ∃ k d : Nat, k ≤ ns.length ∧ x = .int .i64 (((ns.take k).foldl Nat.gcd 0 : Nat) : Int) ∧ y = .int .i64 k ∧ wr = w2.drewN d) (fun _ y _ => ns.length - (intOf y).toNat)
      case atStart => exact ⟨0, 0, Nat.zero_le _, rfl, rfl, rfl⟩
      case round =>
        obtain ⟨j, d, hj, rfl, rfl, rfl⟩ := hrel
        by_cases hjl : j < ns.length
        · have hjl' : (j : Int) < (ns.length : Int) := by omega
          have cj : (w2.drewN d).cell? ⟨gw, j, none⟩ = some (.int .i64 ((ns.getD j 0 : Nat) : Int)) := HCW.out j hjl
          have gs := GS.out j hjl
          have gt := GT.out j
          have na := NA.out j hjl
          obtain ⟨c1, hc1⟩ : ∃ c1, (ns.take j).foldl Nat.gcd 0 = c1 := ⟨_, rfl⟩
          obtain ⟨x, hx⟩ : ∃ x, ns.getD j 0 = x := ⟨_, rfl⟩
          rw [hc1, hx] at gs
          rw [hc1] at gt
          rw [hx] at na cj
          rw [hc1]
          have CC := Lib.hid (common_any (c1 : Int) (x : Int) (w2.drewN d) (by omega) (by omega))
          rw [Int.natAbs_natCast, Int.natAbs_natCast, ← gs] at CC
          clear hc1 hx gs
          go_wp2_with fail
          refine CC.out.mono ?_
          rintro e w3 ⟨rfl, d3, hw3⟩
          clear CC
          go_wp2
          go_roundw
          case rel => exact ⟨j + 1, d + d3, by omega, rfl, by go_num, by first | rfl | (rw [hw3]; simp)⟩
          case measure => simp [intOf]; omega
        · obtain rfl : j = ns.length := by omega
          have hge2 : ¬ (ns.length : Int) < (ns.length : Int) := by omega
          rw [GA.out]
          obtain ⟨c, hc⟩ : ∃ c, gcdL ns = c := ⟨_, rfl⟩
          rw [hc] at hg LA
          rw [hc]
          have L3 := Lib.hid (lo_drewN L2.out d)
          have O3 := Lib.hid (show OwnI (w2.drewN d) wa.heap.size (.slice (some ⟨gw, 0, none⟩) ns.length cap) ((intsN rs).take 0 ++ (intsN ns).drop 0) by rw [List.take_zero, List.nil_append, List.drop_zero, ← hlI]; exact OW.out)
          have hgl3 : gw < (w2.drewN d).heap.size := hgl
          have HRL := Lib.hid (show (intsN rs).length = (intsN ns).length by rw [intsN_len, intsN_len, hll])
          clear HCW OW hc hgl
          generalize w2.drewN d = w3 at *
          go_wp2
          go_loopw [47] (fun y wr => ∃ k : Nat, k ≤ ns.length ∧ y = .int .i64 k ∧ Hid (OwnI wr wa.heap.size (.slice (some ⟨gw, 0, none⟩) ns.length cap) ((intsN rs).take k ++ (intsN ns).drop k)) ∧ Hid (Below w.heap.size w wr) ∧ gw < wr.heap.size) (fun y _ => ns.length - (intOf y).toNat)
          case atStart => exact ⟨0, Nat.zero_le _, rfl, O3, L3, hgl3⟩
          case round =>
            obtain ⟨k, hk2, rfl, HO, HL, hgr⟩ := hrel
            obtain ⟨wq, rfl⟩ : ∃ wq : World, wq = wr := ⟨_, rfl⟩
            clear O3
            have hml := mix_len (intsN rs) (intsN ns) k (by omega) HRL.out
            have hown : wq.ownsRow wa.heap.size 3 1 (.slice (some ⟨gw, 0, none⟩) ns.length cap) ns.length (icells ((intsN rs).take k ++ (intsN ns).drop k)) := by
              have h := HO.out
              unfold OwnI at h
              rw [hml, hlI] at h
              exact h
            by_cases hkl : k < ns.length
            · have hkl' : (k : Int) < (ns.length : Int) := by omega
              have ck := hown.cellAt k (by omega)
              rw [icells_at _ k (by rw [hml]; omega), mix_at _ _ k (by omega) HRL.out, intsN_at _ k hkl] at ck
              have fk := hown.frozenAt k
              have st := hown.stored k (.int .i64 ((rs.getD k 0 : Nat) : Int))
              rw [icells_set] at st
              have hms := mix_set (intsN rs) (intsN ns) k (by omega) HRL.out
              rw [intsN_at _ k (by omega)] at hms
              rw [hms] at st
              have HN := Lib.hid (show OwnI (wq.setCell ⟨gw, k, none⟩ (.int .i64 ((rs.getD k 0 : Nat) : Int))) wa.heap.size (.slice (some ⟨gw, 0, none⟩) ns.length cap) ((intsN rs).take (k + 1) ++ (intsN ns).drop (k + 1)) by
                unfold OwnI
                rw [mix_len (intsN rs) (intsN ns) (k + 1) (by omega) HRL.out, hlI]
                exact st.1)
              have HLN := Lib.hid (HL.out.setCell (p := ⟨gw, k, none⟩) (by show w.heap.size ≤ gw; omega) (.int .i64 ((rs.getD k 0 : Nat) : Int)))
              have na := NA.out k hkl
              have la := LA.out k hkl
              obtain ⟨x, hx⟩ : ∃ x, ns.getD k 0 = x := ⟨_, rfl⟩
              obtain ⟨y, hy⟩ : ∃ y, rs.getD k 0 = y := ⟨_, rfl⟩
              rw [hx] at na la ck
              rw [hy] at la HN HLN
              have hyx : y ≤ x := by rw [la]; exact Nat.div_le_self _ _
              have hdv : Int.tdiv (x : Int) (c : Int) = (y : Int) := by rw [la]; exact (Int.ofNat_tdiv x c).symm
              have hwy : IntKind.i64.wrap (y : Int) = (y : Int) := wrap_mid _ (by omega) (by omega)
              have hc0 : ¬ c = 0 := by omega
              have hc0' : ¬ (c : Int) = 0 := by omega
              clear hx hy la hms st hown HO hml
              go_wp2
              go_roundw
              case rel => exact ⟨k + 1, by omega, by go_num, HN, HLN, by simpa using hgr⟩
              case measure => simp [intOf]; omega
            · obtain rfl : k = ns.length := by omega
              have hge3 : ¬ (ns.length : Int) < (ns.length : Int) := by omega
              have hmx : (intsN rs).take ns.length ++ (intsN ns).drop ns.length = intsN rs := by
                rw [List.take_of_length_le (by have := HRL.out; omega), List.drop_of_length_le (by omega), List.append_nil]
              rw [hmx] at HO
              have hownR : OwnI wq w.heap.size (.slice (some ⟨gw, 0, none⟩) ns.length cap) (intsN rs) := ⟨HO.out.1, HO.out.2.imp id (fun ⟨g', cap, cur, a1, a2, a3⟩ => ⟨g', cap, cur, a1, by omega, a3⟩)⟩
              have hrl : (intsN rs).length = ns.length := by rw [HRL.out, hlI]
              have MX := Lib.hid (max_any gw 0 cap (intsN rs) wq (by omega) (by omega) (fun j hj => by
                have h := hownR
                unfold OwnI at h
                rw [hrl] at h hj
                rw [Nat.zero_add, h.cellAt j (by omega), icells_at _ j (by omega)]))
              rw [hrl] at MX
              have HMX := maxOf_le 99 (intsN rs) (by omega)
              have okk := OK.out
              rw [← HMX] at okk
              have HOF := Lib.hid hownR
              generalize Lib.maxOf (intsN rs) = M at *
              clear HMX hownR HO hmx
              go_wp2_with fail
              refine MX.out.mono ?_
              rintro e w4 ⟨rfl, rfl⟩
              clear MX
              by_cases hM : 99 < M
              · have e1 : ok = false := by cases ok with
                  | false => rfl
                  | true => have := okk.1 rfl; omega
                clear okk
                subst e1
                go_wp2
                go_ret2
                exact ⟨_, rfl, ownI_nil _ _, HL.out⟩
              · have e1 : ok = true := okk.2 (by omega)
                clear okk
                subst e1
                go_wp2
                go_ret2
                exact ⟨_, rfl, HOF.out, HL.out⟩
set_option maxRecDepth 100000 in
theorem lvW_no (v : Value) (m : MobV) (w : World) (hv : MobRow w v m) (hs : SmallM m) (hb : BndM m) (hf : goodB m = false) :
    Calls Try.prog 113 #[v] w fun e w' => e = .returned (.tuple #[.slice none 0 0, .bool false]) ∧ Below w.heap.size w w' := by
  have RO := Lib.hid (fun w1 (l : Below w.heap.size w w1) => rodsOf_no v m w1 (hv.lo l) hs hb hf)
  obtain ⟨a, c0, c, d, rfl⟩ := hv.form
  generalize m.am.length = n at *
  generalize m.hu.length = n2 at *
  obtain ⟨W, hW⟩ : ∃ W, w.alloc (.cells #[.slice a n c, .slice c0 n2 d] 62) = W := ⟨_, rfl⟩
  have LW := Lib.hid (show Below w.heap.size w W by rw [← hW]; exact (Below.refl _ _).alloc (Nat.le_refl _) _)
  have BX := Lib.hid (show Box2 W w.heap.size (.slice a n c) (.slice c0 n2 d) by rw [← hW]; exact box2_new _ _ _ _)
  have RO1 := Lib.hid (RO.out W LW.out)
  clear hv hs hb hf RO
  obtain ⟨_, u0, u1⟩ := BX.out
  go_enter Try.func113, Try.ntmps113
  go_wp2_with fail
  clear hW u0 u1
  refine RO1.out.mono ?_
  rintro e w1 ⟨rfl, l1⟩
  have L1 := Lib.hid (lo_on LW.out l1)
  clear l1 RO1
  go_wp2
  go_ret2
  exact ⟨rfl, L1.out⟩
theorem lv_impl (v : Value) (m : MobV) (w : World) (hv : MobRow w v m) (hs : SmallM m) (hb : BndM m) :
    Calls Try.prog 113 #[v] w fun e w' => ∃ u, e = .returned (.tuple #[u, .bool (lvB m)]) ∧ MineI w' w.heap.size w'.heap.size u (lvYs m) ∧ Below w.heap.size w w' := by
  unfold lvYs lvB
  cases hg : goodB m with
  | false =>
    simp only [Bool.false_and, Bool.false_eq_true, if_false]
    refine (lvW_no v m w hv hs hb hg).mono ?_
    rintro e w' ⟨rfl, l⟩
    exact ⟨_, rfl, mineI_nil _ _ _ _ _, l⟩
  | true =>
    rw [Bool.true_and]
    refine (lvW_yes v m w hv hb ((goodB_iff m).1 hg)).mono ?_
    rintro e w' ⟨u, rfl, ho, l⟩
    refine ⟨u, rfl, ?_, l⟩
    have h := ho.mine
    exact h
theorem lvYs_len (m : MobV) : (lvYs m).length ≤ 2000000 := by
  unfold lvYs
  split
  · rename_i h
    unfold lvB at h
    simp only [Bool.and_eq_true] at h
    have hf := (goodB_iff m).1 h.1
    have := lfT_len m
    have := hf.short
    rw [intsN_len, lvR_len]
    omega
  · simp
end Go.Proofs.Ythncgcdnljoakaa
