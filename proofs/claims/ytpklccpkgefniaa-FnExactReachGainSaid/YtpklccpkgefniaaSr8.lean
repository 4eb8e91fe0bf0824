/- The program's search for stages: ExactGain. -/
import Derived.Test.YtpklccpkgefniaaSr6
import Derived.Test.YtpklccpkgefniaaSr4
import Derived.Test.YtpklccpkgefniaaCg3
namespace Go.Proofs.Ytpklccpkgefniaa
open Go.RowKit
set_option maxRecDepth 100000 in
set_option maxHeartbeats 12800000 in
theorem fewExactGain_yes (v : Value) (kit : List StageV) (n : Int) (w : World) (hr : StgRow w v kit) (hk : kitB kit n = true) :
    Calls Try.prog 134 #[v, .int .i64 n, .func (.func 136) #[] #[]] w fun e w' => ∃ u, e = .returned (.tuple #[u, .bool (fdB true kit n)]) ∧ MineI w' w.heap.size w'.heap.size u (fdL true kit n) ∧ Below w.heap.size w w' := by
  obtain ⟨⟨ha, h8⟩, n0, n1⟩ := (kitB_iff kit n).1 hk
  obtain ⟨i0, hi, hz0, hz1, hz2⟩ := info_parts infoInt
  obtain ⟨i1, ki, kz0, kz1, kz2⟩ := info_parts infoIntS
  have C := Lib.hid (isKit_is v kit true (by unfold eightB; rw [ha]; simp; omega) w hr (by omega))
  have PK := Lib.hid (fun u xs m w1 (l : Below w.heap.size w w1) (hu : RowS w1 u xs) (hx : xs ∈ levF kit.length m) (hm : m ≤ 8) => stagesAt_any v u kit xs w1 (hr.lo l) hu.row (fun x h => lev_in _ _ xs hx x h) (by omega) (by rw [lev_len _ _ xs hx]; omega))
  have CB := Lib.hid (fun xs m (hx : xs ∈ levF kit.length m) (hm : m ≤ 5) => show chainB (pickF kit xs) = true from (chainB_iff _).2 ⟨pick_all ha hx, by rw [pick_len, lev_len _ _ xs hx]; omega⟩)
  have BD := Lib.hid (fun xs m (hx : xs ∈ levF kit.length m) (hm : m ≤ 5) => And.intro (ch_bound (pick_all ha hx) (by rw [pick_len, lev_len _ _ xs hx]; omega)) (red_ch (pick_all ha hx) (by rw [pick_len, lev_len _ _ xs hx]; omega)))
  have MU := Lib.hid (fun g (g0 : 1 ≤ g) (g1 : g ≤ 254803968) => muln_bound n g (by omega) n1 g0 g1)
  have FY := Lib.hid (fun i => found_que true kit n hk i)
  have FN := Lib.hid (found_que_no true kit n hk)
  obtain ⟨a, c, rfl, _, hr⟩ := hr
  have hn0 : ¬ n < 1 := by omega
  have hn1 : ¬ 1000000 < n := by omega
  clear hk ha n0 n1 hr
  go_enter Try.func134, Try.ntmps134
  go_wp2_with fail
  refine C.out.mono ?_
  rintro e w1 ⟨rfl, l1⟩
  have T0 := Lib.hid (first_tabM w1 w.heap.size l1.size)
  have L0 := Lib.hid (l1.trans ((below_pair w1 (.cells #[] 3) (.cells #[.slice (some ⟨w1.heap.size, 0, none⟩) 0 0] 52)).mono l1.size))
  clear l1 C
  go_wp2
  go_loopw [8, 9] (fun tv i wr => ∃ k : Nat, i = .int .i64 k ∧ k ≤ (everyF kit.length).length ∧ k ≤ (queF kit.length k).length ∧ Hid (∃ us, OwnTabM wr w.heap.size tv (queF kit.length k) us) ∧ Hid (∀ j, j < k → hitB true kit n ((everyF kit.length).getD j []) = false) ∧ Hid (Below w.heap.size w wr)) (fun _ i _ => 300 - (intOf i).toNat)
  case atStart => exact ⟨0, rfl, Nat.zero_le _, Nat.zero_le _, Lib.hid ⟨_, by rw [que_zero]; exact T0.out⟩, Lib.hid (fun j h => by omega), L0⟩
  case round =>
    obtain ⟨k, rfl, hke, hkq, HT, HN, HW⟩ := hrel
    obtain ⟨wq, rfl⟩ : ∃ wq : World, wq = wr := ⟨_, rfl⟩
    clear T0 L0
    obtain ⟨us, hO⟩ := HT.out
    have HO := Lib.hid hO
    clear hO HT
    have hel := every_len h8
    obtain ⟨g, cc, hv8, hgB, hg, hop⟩ := HO.out.open
    by_cases hkl : k < (queF kit.length k).length
    case neg =>
      have hend := que_end h8 (i := k) (by omega) hke
      have HF := Lib.hid (FN.out (fun j hj => HN.out j (by rw [hend]; exact hj)))
      obtain ⟨M, hM⟩ : ∃ M, (queF kit.length k).length = M := ⟨_, rfl⟩
      rw [hM] at hkl hv8
      have hge : ¬ (k : Int) < (M : Int) := by omega
      clear hM hop hend
      subst hv8
      go_wp2
      go_ret2
      exact ⟨_, by unfold fdB; rw [HF.out]; rfl, by unfold fdL; rw [HF.out]; exact mineI_nil _ _ _ _ _, HW.out⟩
    obtain ⟨hqa, hke2⟩ := que_at h8 hkl
    obtain ⟨m, hm, hmem⟩ := every_mem hke2
    have HNK := Lib.hid (que_next hke2)
    have HKN := Lib.hid (show k + 1 ≤ (everyF kit.length).length by omega)
    have HKM := Lib.hid (show k + 1 ≤ (queF kit.length (k + 1)).length by have := (que_mono (n := kit.length) k).length_le; omega)
    have HPK := Lib.hid (fun s => show (queF kit.length k ++ (kidsF kit.length ((everyF kit.length).getD k [])).take s).length ≤ 256 by
      have h1 : (queF kit.length k ++ (kidsF kit.length ((everyF kit.length).getD k [])).take s).length ≤ (queF kit.length (k + 1)).length := by
        rw [que_next hke2, List.length_append, List.length_append, List.length_take]; omega
      exact Nat.le_trans h1 (que_len h8 (k + 1)))
    have HFY := Lib.hid (fun hp => FY.out k hke2 hp HN.out)
    have HQ1 := Lib.hid (fun s => show (queF kit.length k ++ (kidsF kit.length ((everyF kit.length).getD k [])).take s).getD k [] = (everyF kit.length).getD k [] by
      rw [← hqa]; simp only [List.getD]; rw [List.getElem?_append_left hkl])
    obtain ⟨u, huk, hcu, hin⟩ := hop k hkl
    rw [hqa] at hin
    obtain ⟨L, hL⟩ : ∃ L, (everyF kit.length).getD k [] = L := ⟨_, rfl⟩
    rw [hL] at hmem HNK HPK HFY HQ1 hin
    have HHL := Lib.hid hL
    have hLm := lev_len _ _ L hmem
    have HLL := Lib.hid hLm
    have hnxb := nx_in hmem
    have HKT := Lib.hid (fun s h => kids_take kit.length L s h)
    have HKS := Lib.hid (show (kidsF kit.length L).take (kit.length - (nxF L).toNat) = kidsF kit.length L by rw [← kids_len kit.length L, List.take_length])
    have NXE := Lib.hid (show nxF L = if m = 0 then 0 else L.getD (m - 1) 0 + 1 by unfold nxF; rw [hLm])
    obtain ⟨z, hz⟩ : ∃ z, nxF L = z := ⟨_, rfl⟩
    rw [hz] at HKT HKS NXE hnxb
    obtain ⟨S, hS⟩ : ∃ S, kit.length - z.toNat = S := ⟨_, rfl⟩
    rw [hS] at HKT HKS
    have hSz : z + (S : Int) = (kit.length : Int) := by omega
    obtain ⟨gu, cu, hue, hgu0, hgu, hgo, hcc, hff⟩ := hin
    rw [hLm] at hue
    subst hue
    have HIN := Lib.hid (show InnerM wq w.heap.size u8.ownBlock (.slice (some ⟨gu, 0, none⟩) m cu) L from ⟨gu, cu, by rw [hLm], hgu0, hgu, hgo, hcc, hff⟩)
    have HUK := Lib.hid huk
    have HINK := Lib.hid (fun s vs tv wx (h1 : OwnTabM wx w.heap.size tv (queF kit.length k ++ (kidsF kit.length L).take s) vs) (h2 : vs[k]? = some (.slice (some ⟨gu, 0, none⟩) m cu)) => show InnerM wx w.heap.size tv.ownBlock (.slice (some ⟨gu, 0, none⟩) L.length cu) L from by
      obtain ⟨x, hx, hh⟩ := h1.2.2.2 k (by rw [List.length_append]; omega)
      rw [HQ1.out s] at hh
      rw [h2] at hx
      cases hx
      rw [hLm]
      exact hh)
    have P := Lib.hid (PK.out (.slice (some ⟨gu, 0, none⟩) m cu) L m wq HW.out HIN.out.row hmem (by omega))
    have CG := Lib.hid (fun u2 w2 h => chainGain_any u2 (pickF kit L) w2 h (by rw [pick_len, hLm]; omega))
    have HC5 := Lib.hid (fun hm5 => CB.out L m hmem hm5)
    have HB5 := Lib.hid (fun hm5 => BD.out L m hmem hm5)
    have HH5 := Lib.hid (fun (hm5 : m ≤ 5) => hit_short (exact := true) (kit := kit) (n := n) (show L.length ≤ 5 by omega))
    have HHN := Lib.hid (fun (hm5 : ¬ m ≤ 5) => And.intro (show chainB (pickF kit L) = false from not_chain (.inr (by rw [pick_len, hLm]; exact hm5))) (show hitB true kit n L = false by unfold hitB; rw [show decide (L.length ≤ 5) = false by simp; omega]; rfl))
    obtain ⟨M, hM⟩ : ∃ M, (queF kit.length k).length = M := ⟨_, rfl⟩
    rw [hM] at hkl hv8 hkq
    have hMM := que_len h8 k
    rw [hM] at hMM
    have hkl' : (k : Int) < (M : Int) := by omega
    have hmk : m ≤ 8 := by omega
    clear hop hqa hke2 hL hLm hz hS hmem huk hgo hcc hff hM PK CB BD FY hgu hkq hke
    subst hv8
    go_wp2_with fail
    refine P.out.mono ?_
    rintro e w2 ⟨u2, rfl, r2, l2⟩
    have C2 := Lib.hid (CG.out u2 w2 r2)
    have L2 := Lib.hid l2
    clear l2 r2 P CG hcu
    by_cases hm5 : m ≤ 5
    · have hcb := HC5.out hm5
      have hbd := HB5.out hm5
      have HH := Lib.hid (HH5.out hm5)
      rw [cg_yes hcb, hcb] at C2
      obtain ⟨y, hy⟩ : ∃ y, chF (pickF kit L) = y := ⟨_, rfl⟩
      rw [hy] at C2 hbd HH
      obtain ⟨g1, g2⟩ := y
      simp only at C2 hbd
      have MB := MU.out g2 hbd.1.2.1 hbd.1.2.2
      have a0 : -9223372036854775808 ≤ n * g2 := by omega
      have a1 : n * g2 ≤ 9223372036854775807 := by omega
      have hred := hbd.2
      have DO := Lib.hid (fun w => equals_any g1 g2 n w hred)
      obtain ⟨b, hb⟩ : ∃ b, doesB true (g1, g2) n = b := ⟨_, rfl⟩
      rw [hb] at DO HH
      clear hcb hbd hy MB a0 a1 hred hb HC5 HB5 HH5 HHN
      go_wp2_with fail
      refine C2.out.mono ?_
      rintro e w3 ⟨rfl, l3⟩
      have G1 := Lib.hid (cel2_new w3 g1 g2 28)
      have L3 := Lib.hid ((lo_on L2.out l3).alloc (by have := L2.out.size; have := l3.size; omega) (.cells #[.int .i64 g1, .int .i64 g2] 28))
      obtain ⟨_, k1, k2, _, _⟩ := G1.out
      clear l3 C2 L2 G1
      go_wp2_with fail
      refine (DO.out _).mono ?_
      rintro e wz ⟨rfl, l4⟩
      have L4 := Lib.hid (lo_on L3.out l4)
      have HWz := Lib.hid (HW.out.trans (L4.out.mono HW.out.size))
      have HOz := Lib.hid (HO.out.lo L4.out)
      have HINz := Lib.hid (HIN.out.lo L4.out)
      clear l4 L3 L4 k1 k2 DO
      cases b with
      | true =>
        have HF := Lib.hid (HFY.out HH.out)
        go_wp2
        go_ret2
        exact ⟨_, by unfold fdB; rw [HF.out]; rfl, by unfold fdL; rw [HF.out]; exact HINz.out.mine, HWz.out⟩
      | false =>
        have HD := HH
        clear HFY HH
        by_cases h0 : m = 0
        · have HZ := Lib.hid (show z = 0 by rw [NXE.out, if_pos h0])
          have h0' : ¬ (0 : Int) < (m : Int) := by omega
          have hqd : decide (0 < m) = false := by simp; omega
          clear h0
          go_wp2
          go_loopw [8, 14] (fun tv x ws => ∃ (s : Nat) (vs : List Value), s ≤ S ∧ x = .int .i64 (z + (s : Int)) ∧ Hid (OwnTabM ws w.heap.size tv (queF kit.length k ++ (kidsF kit.length L).take s) vs) ∧ Hid (vs[k]? = some (.slice (some ⟨gu, 0, none⟩) m cu)) ∧ Hid (Below w.heap.size w ws)) (fun _ x _ => ((kit.length : Int) - intOf x).toNat)
          case atStart => exact ⟨0, us, Nat.zero_le _, by simp [HZ.out], Lib.hid (by rw [List.take_zero, List.append_nil]; exact HOz.out), HUK, HWz⟩
          case round =>
            obtain ⟨s, vs, hs, rfl, HOs, HVK, HLs⟩ := hrel
            obtain ⟨wx, rfl⟩ : ∃ wx : World, wx = wr := ⟨_, rfl⟩
            by_cases hs3 : s < S
            · have hin := HINK.out s vs u8 wx HOs.out HVK.out
              obtain ⟨gw, cw, ew, hw0, hgw, _, hcw, _⟩ := hin
              cases ew
              have OW := Lib.hid (cloneInts_any gu 0 cu L wx hgw (fun j hj => by rw [Nat.zero_add]; exact hcw j hj) (by rw [HLL.out]; omega))
              rw [HLL.out] at OW
              have HSN := Lib.hid (show queF kit.length k ++ (kidsF kit.length L).take (s + 1) = (queF kit.length k ++ (kidsF kit.length L).take s) ++ [L ++ [z + (s : Int)]] by rw [List.append_assoc, HKT.out s hs3])
              have HSB := HPK.out s
              have HOB := Lib.hid (show ∀ g, u8.ownBlock = some g → w.heap.size ≤ g ∧ g < wx.heap.size from fun g hg => HOs.out.2.1.lt g hg)
              have hws := HLs.out.size
              have HVL := Lib.hid (show ∀ x : Value, (vs ++ [x])[k]? = some (.slice (some ⟨gu, 0, none⟩) m cu) from fun x => by rw [List.getElem?_append_left (List.getElem?_eq_some_iff.1 HVK.out).1]; exact HVK.out)
              obtain ⟨A, hA⟩ : ∃ A, queF kit.length k ++ (kidsF kit.length L).take s = A := ⟨_, rfl⟩
              rw [hA] at HSN HSB HOs
              obtain ⟨N, hN⟩ : ∃ N, A.length = N := ⟨_, rfl⟩
              rw [hN] at HSB
              have HSL := Lib.hid hN
              obtain ⟨sg, hsg⟩ : ∃ y : Int, z + (s : Int) = y := ⟨_, rfl⟩
              have sg1 : sg < (kit.length : Int) := by omega
              have sg0 : 0 ≤ sg := by omega
              rw [hsg] at HSN ⊢
              have HSG := Lib.hid hsg
              clear hsg hA hN hcw
              go_wp2_with fail
              refine OW.out.mono ?_
              rintro e w1 ⟨v1, rfl, o1, l1⟩
              have LL1 := Lib.hid l1
              have hs1 := l1.size
              unfold OwnI at o1
              rw [HLL.out] at o1
              clear l1 OW
              have hs2 : wx.heap.size ≤ w1.heap.size := hs1
              go_wp2_with (first
                | (at_builtin; refine wpList_append_own_at _ rfl _ _ 52 rfl wx.heap.size 3 i0 (.int .i64 0) 1 8 Try.underlying52 hi hz0 hz1 hz2 rfl (by decide) _ _ _ rfl (o1.alloc _) ⟨w1.heap.size, 0, none⟩ 1 1 [.int .i64 sg] rfl rfl (cell_one_new _ _ _) (fun x hx => by simp at hx; subst hx; rfl) (by unfold maxLen; omega) (by omega) (by simp; omega) ?_; intro v2 w2 hown2 hgrow2 hnil2 hloc2; obtain ⟨g2, cap2, rfl⟩ := ownsRow_one hown2; obtain ⟨hInn, hTab, hL2, hsz2⟩ := kid_mid HOs.out HLs.out LL1.out HLL.out o1 hown2 hgrow2 HOB.out; obtain ⟨hul, hown, hnn, hrr⟩ := hTab; rw [HSL.out] at hown; clear hown2 hgrow2 hnil2 hloc2)
                | (at_builtin; refine wpList_append_own_at _ rfl _ _ 175 rfl w.heap.size 52 i1 (.slice none 0 0) 1 24 Try.underlying175 ki kz0 kz1 kz2 rfl (by decide) _ _ _ rfl (hown.alloc _) ⟨w2.heap.size, 0, none⟩ 1 1 [.slice (some ⟨g2, 0, none⟩) (m + 1) cap2] rfl rfl (cell_one_new _ _ _) (fun x hx => by simp at hx; subst hx; rfl) (by unfold maxLen; omega) (by omega) (by simp; omega) ?_; intro v3 w3 hown3 hgrow3 hnil3 hloc3))
              have hg3 : (w2.alloc (.cells #[.slice (some ⟨g2, 0, none⟩) (m + 1) cap2] 52)).grownBy w3 u8.ownBlock := hgrow3
              have hlc : v3.ownBlock = u8.ownBlock ∨ v3.ownBlock = some (w2.alloc (.cells #[.slice (some ⟨g2, 0, none⟩) (m + 1) cap2] 52)).heap.size := hloc3
              have AL := (Below.refl w2.heap.size w2).alloc (Nat.le_refl _) (.cells #[.slice (some ⟨g2, 0, none⟩) (m + 1) cap2] 52)
              have HNN := Lib.hid (show OwnTabM w3 w.heap.size v3 (queF kit.length k ++ (kidsF kit.length L).take (s + 1)) (vs ++ [.slice (some ⟨g2, 0, none⟩) (m + 1) cap2]) by
                rw [HSN.out]
                exact ownTabM_snoc (w := w2.alloc (.cells #[.slice (some ⟨g2, 0, none⟩) (m + 1) cap2] 52)) (v := u8) (us := vs) hul HSL.out hown3 hg3 (fun g hg => by
                  rcases hlc with e | e
                  · exact .inl (by rw [← e]; exact hg)
                  · rw [e] at hg; cases hg; exact .inr (Nat.le_refl _)) (fun j hj => by
                  obtain ⟨u, hu, hh⟩ := hrr j hj
                  exact ⟨u, hu, hh.lo AL⟩) (hInn.lo AL))
              have HLM := Lib.hid (show Below w.heap.size w w3 from (hL2.alloc hL2.size _).grown hg3 (by simp; have := hL2.size; omega) (fun j hj => (HOB.out j hj).1))
              refine ⟨⟨s + 1, vs ++ [.slice (some ⟨g2, 0, none⟩) (m + 1) cap2], by omega, by rw [show sg + 1 = z + ((s + 1 : Nat) : Int) by have := HSG.out; omega], HNN, Lib.hid (HVL.out _), HLM⟩, ?_⟩
              simp [intOf]
              omega
            · obtain rfl : s = S := by omega
              have hge : ¬ z + (s : Int) < (kit.length : Int) := by omega
              have HNN := Lib.hid (show ∃ vs, OwnTabM wx w.heap.size u8 (queF kit.length (k + 1)) vs from ⟨vs, by rw [HNK.out, ← HKS.out]; exact HOs.out⟩)
              go_wp2
              go_roundw
              case rel =>
                refine ⟨k + 1, by go_num, HKN.out, HKM.out, HNN, Lib.hid (fun j hj => ?_), HLs⟩
                by_cases e : j = k
                · subst e; rw [HHL.out]; exact HD.out
                · exact HN.out j (by omega)
              case measure => simp [intOf]; omega
        · have HZ := Lib.hid (show z = L.getD (m - 1) 0 + 1 by rw [NXE.out, if_neg h0])
          obtain ⟨q, hq⟩ : ∃ q, m - 1 = q := ⟨_, rfl⟩
          have hq1 : (m : Int) - 1 = (q : Int) := by omega
          have hqm : q < m := by omega
          have hqm' : (q : Int) < (m : Int) := by omega
          have hq0 : (0 : Int) < (m : Int) := by omega
          have hqd : decide (0 < m) = true := by simp; omega
          obtain ⟨gw, cw, ew, hw0, hgw, _, hcw, _⟩ := HINz.out
          obtain ⟨rfl, rfl⟩ : gu = gw ∧ cu = cw := by
            injection ew with e1 e2 e3
            injection e1 with e4
            injection e4 with e5
            exact ⟨e5, e3⟩
          clear ew
          have hcq := hcw q (by rw [HLL.out]; exact hqm)
          rw [hq] at HZ
          obtain ⟨y, hy⟩ : ∃ y, L.getD q 0 = y := ⟨_, rfl⟩
          rw [hy] at HZ hcq
          have hz1' := HZ.out
          have hyw0 : -9223372036854775808 ≤ y + 1 := by omega
          have hyw1 : y + 1 ≤ 9223372036854775807 := by omega
          clear h0 hq hy hz1' hcw
          go_wp2
          go_loopw [8, 14] (fun tv x ws => ∃ (s : Nat) (vs : List Value), s ≤ S ∧ x = .int .i64 (z + (s : Int)) ∧ Hid (OwnTabM ws w.heap.size tv (queF kit.length k ++ (kidsF kit.length L).take s) vs) ∧ Hid (vs[k]? = some (.slice (some ⟨gu, 0, none⟩) m cu)) ∧ Hid (Below w.heap.size w ws)) (fun _ x _ => ((kit.length : Int) - intOf x).toNat)
          case atStart => exact ⟨0, us, Nat.zero_le _, by simp [HZ.out], Lib.hid (by rw [List.take_zero, List.append_nil]; exact HOz.out), HUK, HWz⟩
          case round =>
            obtain ⟨s, vs, hs, rfl, HOs, HVK, HLs⟩ := hrel
            obtain ⟨wx, rfl⟩ : ∃ wx : World, wx = wr := ⟨_, rfl⟩
            by_cases hs3 : s < S
            · have hin := HINK.out s vs u8 wx HOs.out HVK.out
              obtain ⟨gw, cw, ew, hw0, hgw, _, hcw, _⟩ := hin
              cases ew
              have OW := Lib.hid (cloneInts_any gu 0 cu L wx hgw (fun j hj => by rw [Nat.zero_add]; exact hcw j hj) (by rw [HLL.out]; omega))
              rw [HLL.out] at OW
              have HSN := Lib.hid (show queF kit.length k ++ (kidsF kit.length L).take (s + 1) = (queF kit.length k ++ (kidsF kit.length L).take s) ++ [L ++ [z + (s : Int)]] by rw [List.append_assoc, HKT.out s hs3])
              have HSB := HPK.out s
              have HOB := Lib.hid (show ∀ g, u8.ownBlock = some g → w.heap.size ≤ g ∧ g < wx.heap.size from fun g hg => HOs.out.2.1.lt g hg)
              have hws := HLs.out.size
              have HVL := Lib.hid (show ∀ x : Value, (vs ++ [x])[k]? = some (.slice (some ⟨gu, 0, none⟩) m cu) from fun x => by rw [List.getElem?_append_left (List.getElem?_eq_some_iff.1 HVK.out).1]; exact HVK.out)
              obtain ⟨A, hA⟩ : ∃ A, queF kit.length k ++ (kidsF kit.length L).take s = A := ⟨_, rfl⟩
              rw [hA] at HSN HSB HOs
              obtain ⟨N, hN⟩ : ∃ N, A.length = N := ⟨_, rfl⟩
              rw [hN] at HSB
              have HSL := Lib.hid hN
              obtain ⟨sg, hsg⟩ : ∃ y : Int, z + (s : Int) = y := ⟨_, rfl⟩
              have sg1 : sg < (kit.length : Int) := by omega
              have sg0 : 0 ≤ sg := by omega
              rw [hsg] at HSN ⊢
              have HSG := Lib.hid hsg
              clear hsg hA hN hcw
              go_wp2_with fail
              refine OW.out.mono ?_
              rintro e w1 ⟨v1, rfl, o1, l1⟩
              have LL1 := Lib.hid l1
              have hs1 := l1.size
              unfold OwnI at o1
              rw [HLL.out] at o1
              clear l1 OW
              have hs2 : wx.heap.size ≤ w1.heap.size := hs1
              go_wp2_with (first
                | (at_builtin; refine wpList_append_own_at _ rfl _ _ 52 rfl wx.heap.size 3 i0 (.int .i64 0) 1 8 Try.underlying52 hi hz0 hz1 hz2 rfl (by decide) _ _ _ rfl (o1.alloc _) ⟨w1.heap.size, 0, none⟩ 1 1 [.int .i64 sg] rfl rfl (cell_one_new _ _ _) (fun x hx => by simp at hx; subst hx; rfl) (by unfold maxLen; omega) (by omega) (by simp; omega) ?_; intro v2 w2 hown2 hgrow2 hnil2 hloc2; obtain ⟨g2, cap2, rfl⟩ := ownsRow_one hown2; obtain ⟨hInn, hTab, hL2, hsz2⟩ := kid_mid HOs.out HLs.out LL1.out HLL.out o1 hown2 hgrow2 HOB.out; obtain ⟨hul, hown, hnn, hrr⟩ := hTab; rw [HSL.out] at hown; clear hown2 hgrow2 hnil2 hloc2)
                | (at_builtin; refine wpList_append_own_at _ rfl _ _ 175 rfl w.heap.size 52 i1 (.slice none 0 0) 1 24 Try.underlying175 ki kz0 kz1 kz2 rfl (by decide) _ _ _ rfl (hown.alloc _) ⟨w2.heap.size, 0, none⟩ 1 1 [.slice (some ⟨g2, 0, none⟩) (m + 1) cap2] rfl rfl (cell_one_new _ _ _) (fun x hx => by simp at hx; subst hx; rfl) (by unfold maxLen; omega) (by omega) (by simp; omega) ?_; intro v3 w3 hown3 hgrow3 hnil3 hloc3))
              have hg3 : (w2.alloc (.cells #[.slice (some ⟨g2, 0, none⟩) (m + 1) cap2] 52)).grownBy w3 u8.ownBlock := hgrow3
              have hlc : v3.ownBlock = u8.ownBlock ∨ v3.ownBlock = some (w2.alloc (.cells #[.slice (some ⟨g2, 0, none⟩) (m + 1) cap2] 52)).heap.size := hloc3
              have AL := (Below.refl w2.heap.size w2).alloc (Nat.le_refl _) (.cells #[.slice (some ⟨g2, 0, none⟩) (m + 1) cap2] 52)
              have HNN := Lib.hid (show OwnTabM w3 w.heap.size v3 (queF kit.length k ++ (kidsF kit.length L).take (s + 1)) (vs ++ [.slice (some ⟨g2, 0, none⟩) (m + 1) cap2]) by
                rw [HSN.out]
                exact ownTabM_snoc (w := w2.alloc (.cells #[.slice (some ⟨g2, 0, none⟩) (m + 1) cap2] 52)) (v := u8) (us := vs) hul HSL.out hown3 hg3 (fun g hg => by
                  rcases hlc with e | e
                  · exact .inl (by rw [← e]; exact hg)
                  · rw [e] at hg; cases hg; exact .inr (Nat.le_refl _)) (fun j hj => by
                  obtain ⟨u, hu, hh⟩ := hrr j hj
                  exact ⟨u, hu, hh.lo AL⟩) (hInn.lo AL))
              have HLM := Lib.hid (show Below w.heap.size w w3 from (hL2.alloc hL2.size _).grown hg3 (by simp; have := hL2.size; omega) (fun j hj => (HOB.out j hj).1))
              refine ⟨⟨s + 1, vs ++ [.slice (some ⟨g2, 0, none⟩) (m + 1) cap2], by omega, by rw [show sg + 1 = z + ((s + 1 : Nat) : Int) by have := HSG.out; omega], HNN, Lib.hid (HVL.out _), HLM⟩, ?_⟩
              simp [intOf]
              omega
            · obtain rfl : s = S := by omega
              have hge : ¬ z + (s : Int) < (kit.length : Int) := by omega
              have HNN := Lib.hid (show ∃ vs, OwnTabM wx w.heap.size u8 (queF kit.length (k + 1)) vs from ⟨vs, by rw [HNK.out, ← HKS.out]; exact HOs.out⟩)
              go_wp2
              go_roundw
              case rel =>
                refine ⟨k + 1, by go_num, HKN.out, HKM.out, HNN, Lib.hid (fun j hj => ?_), HLs⟩
                by_cases e : j = k
                · subst e; rw [HHL.out]; exact HD.out
                · exact HN.out j (by omega)
              case measure => simp [intOf]; omega
    · obtain ⟨hcb, hhn⟩ := HHN.out hm5
      have HD := Lib.hid hhn
      rw [cg_no hcb, hcb] at C2
      clear hcb hhn HC5 HB5 HH5 HHN HFY
      go_wp2_with fail
      refine C2.out.mono ?_
      rintro e w3 ⟨rfl, l3⟩
      have L3 := Lib.hid ((lo_on L2.out l3).alloc (by have := L2.out.size; have := l3.size; omega) (.cells #[.int .i64 0, .int .i64 0] 28))
      have HWz := Lib.hid (HW.out.trans (L3.out.mono HW.out.size))
      have HOz := Lib.hid (HO.out.lo L3.out)
      have HINz := Lib.hid (HIN.out.lo L3.out)
      clear l3 C2 L2 L3
      have h0 : ¬ m = 0 := by omega
      have HZ := Lib.hid (show z = L.getD (m - 1) 0 + 1 by rw [NXE.out, if_neg h0])
      obtain ⟨q, hq⟩ : ∃ q, m - 1 = q := ⟨_, rfl⟩
      have hq1 : (m : Int) - 1 = (q : Int) := by omega
      have hqm : q < m := by omega
      have hqm' : (q : Int) < (m : Int) := by omega
      have hq0 : (0 : Int) < (m : Int) := by omega
      have hqd : decide (0 < m) = true := by simp; omega
      obtain ⟨gw, cw, ew, hw0, hgw, _, hcw, _⟩ := HINz.out
      obtain ⟨rfl, rfl⟩ : gu = gw ∧ cu = cw := by
        injection ew with e1 e2 e3
        injection e1 with e4
        injection e4 with e5
        exact ⟨e5, e3⟩
      clear ew
      have hcq := hcw q (by rw [HLL.out]; exact hqm)
      rw [hq] at HZ
      obtain ⟨y, hy⟩ : ∃ y, L.getD q 0 = y := ⟨_, rfl⟩
      rw [hy] at HZ hcq
      have hz1' := HZ.out
      have hyw0 : -9223372036854775808 ≤ y + 1 := by omega
      have hyw1 : y + 1 ≤ 9223372036854775807 := by omega
      clear h0 hq hy hz1' hcw
      go_wp2
      go_loopw [8, 14] (fun tv x ws => ∃ (s : Nat) (vs : List Value), s ≤ S ∧ x = .int .i64 (z + (s : Int)) ∧ Hid (OwnTabM ws w.heap.size tv (queF kit.length k ++ (kidsF kit.length L).take s) vs) ∧ Hid (vs[k]? = some (.slice (some ⟨gu, 0, none⟩) m cu)) ∧ Hid (Below w.heap.size w ws)) (fun _ x _ => ((kit.length : Int) - intOf x).toNat)
      case atStart => exact ⟨0, us, Nat.zero_le _, by simp [HZ.out], Lib.hid (by rw [List.take_zero, List.append_nil]; exact HOz.out), HUK, HWz⟩
      case round =>
        obtain ⟨s, vs, hs, rfl, HOs, HVK, HLs⟩ := hrel
        obtain ⟨wx, rfl⟩ : ∃ wx : World, wx = wr := ⟨_, rfl⟩
        by_cases hs3 : s < S
        · have hin := HINK.out s vs u8 wx HOs.out HVK.out
          obtain ⟨gw, cw, ew, hw0, hgw, _, hcw, _⟩ := hin
          cases ew
          have OW := Lib.hid (cloneInts_any gu 0 cu L wx hgw (fun j hj => by rw [Nat.zero_add]; exact hcw j hj) (by rw [HLL.out]; omega))
          rw [HLL.out] at OW
          have HSN := Lib.hid (show queF kit.length k ++ (kidsF kit.length L).take (s + 1) = (queF kit.length k ++ (kidsF kit.length L).take s) ++ [L ++ [z + (s : Int)]] by rw [List.append_assoc, HKT.out s hs3])
          have HSB := HPK.out s
          have HOB := Lib.hid (show ∀ g, u8.ownBlock = some g → w.heap.size ≤ g ∧ g < wx.heap.size from fun g hg => HOs.out.2.1.lt g hg)
          have hws := HLs.out.size
          have HVL := Lib.hid (show ∀ x : Value, (vs ++ [x])[k]? = some (.slice (some ⟨gu, 0, none⟩) m cu) from fun x => by rw [List.getElem?_append_left (List.getElem?_eq_some_iff.1 HVK.out).1]; exact HVK.out)
          obtain ⟨A, hA⟩ : ∃ A, queF kit.length k ++ (kidsF kit.length L).take s = A := ⟨_, rfl⟩
          rw [hA] at HSN HSB HOs
          obtain ⟨N, hN⟩ : ∃ N, A.length = N := ⟨_, rfl⟩
          rw [hN] at HSB
          have HSL := Lib.hid hN
          obtain ⟨sg, hsg⟩ : ∃ y : Int, z + (s : Int) = y := ⟨_, rfl⟩
          have sg1 : sg < (kit.length : Int) := by omega
          have sg0 : 0 ≤ sg := by omega
          rw [hsg] at HSN ⊢
          have HSG := Lib.hid hsg
          clear hsg hA hN hcw
          go_wp2_with fail
          refine OW.out.mono ?_
          rintro e w1 ⟨v1, rfl, o1, l1⟩
          have LL1 := Lib.hid l1
          have hs1 := l1.size
          unfold OwnI at o1
          rw [HLL.out] at o1
          clear l1 OW
          have hs2 : wx.heap.size ≤ w1.heap.size := hs1
          go_wp2_with (first
            | (at_builtin; refine wpList_append_own_at _ rfl _ _ 52 rfl wx.heap.size 3 i0 (.int .i64 0) 1 8 Try.underlying52 hi hz0 hz1 hz2 rfl (by decide) _ _ _ rfl (o1.alloc _) ⟨w1.heap.size, 0, none⟩ 1 1 [.int .i64 sg] rfl rfl (cell_one_new _ _ _) (fun x hx => by simp at hx; subst hx; rfl) (by unfold maxLen; omega) (by omega) (by simp; omega) ?_; intro v2 w2 hown2 hgrow2 hnil2 hloc2; obtain ⟨g2, cap2, rfl⟩ := ownsRow_one hown2; obtain ⟨hInn, hTab, hL2, hsz2⟩ := kid_mid HOs.out HLs.out LL1.out HLL.out o1 hown2 hgrow2 HOB.out; obtain ⟨hul, hown, hnn, hrr⟩ := hTab; rw [HSL.out] at hown; clear hown2 hgrow2 hnil2 hloc2)
            | (at_builtin; refine wpList_append_own_at _ rfl _ _ 175 rfl w.heap.size 52 i1 (.slice none 0 0) 1 24 Try.underlying175 ki kz0 kz1 kz2 rfl (by decide) _ _ _ rfl (hown.alloc _) ⟨w2.heap.size, 0, none⟩ 1 1 [.slice (some ⟨g2, 0, none⟩) (m + 1) cap2] rfl rfl (cell_one_new _ _ _) (fun x hx => by simp at hx; subst hx; rfl) (by unfold maxLen; omega) (by omega) (by simp; omega) ?_; intro v3 w3 hown3 hgrow3 hnil3 hloc3))
          have hg3 : (w2.alloc (.cells #[.slice (some ⟨g2, 0, none⟩) (m + 1) cap2] 52)).grownBy w3 u8.ownBlock := hgrow3
          have hlc : v3.ownBlock = u8.ownBlock ∨ v3.ownBlock = some (w2.alloc (.cells #[.slice (some ⟨g2, 0, none⟩) (m + 1) cap2] 52)).heap.size := hloc3
          have AL := (Below.refl w2.heap.size w2).alloc (Nat.le_refl _) (.cells #[.slice (some ⟨g2, 0, none⟩) (m + 1) cap2] 52)
          have HNN := Lib.hid (show OwnTabM w3 w.heap.size v3 (queF kit.length k ++ (kidsF kit.length L).take (s + 1)) (vs ++ [.slice (some ⟨g2, 0, none⟩) (m + 1) cap2]) by
            rw [HSN.out]
            exact ownTabM_snoc (w := w2.alloc (.cells #[.slice (some ⟨g2, 0, none⟩) (m + 1) cap2] 52)) (v := u8) (us := vs) hul HSL.out hown3 hg3 (fun g hg => by
              rcases hlc with e | e
              · exact .inl (by rw [← e]; exact hg)
              · rw [e] at hg; cases hg; exact .inr (Nat.le_refl _)) (fun j hj => by
              obtain ⟨u, hu, hh⟩ := hrr j hj
              exact ⟨u, hu, hh.lo AL⟩) (hInn.lo AL))
          have HLM := Lib.hid (show Below w.heap.size w w3 from (hL2.alloc hL2.size _).grown hg3 (by simp; have := hL2.size; omega) (fun j hj => (HOB.out j hj).1))
          refine ⟨⟨s + 1, vs ++ [.slice (some ⟨g2, 0, none⟩) (m + 1) cap2], by omega, by rw [show sg + 1 = z + ((s + 1 : Nat) : Int) by have := HSG.out; omega], HNN, Lib.hid (HVL.out _), HLM⟩, ?_⟩
          simp [intOf]
          omega
        · obtain rfl : s = S := by omega
          have hge : ¬ z + (s : Int) < (kit.length : Int) := by omega
          have HNN := Lib.hid (show ∃ vs, OwnTabM wx w.heap.size u8 (queF kit.length (k + 1)) vs from ⟨vs, by rw [HNK.out, ← HKS.out]; exact HOs.out⟩)
          go_wp2
          go_roundw
          case rel =>
            refine ⟨k + 1, by go_num, HKN.out, HKM.out, HNN, Lib.hid (fun j hj => ?_), HLs⟩
            by_cases e : j = k
            · subst e; rw [HHL.out]; exact HD.out
            · exact HN.out j (by omega)
          case measure => simp [intOf]; omega
end Go.Proofs.Ytpklccpkgefniaa
