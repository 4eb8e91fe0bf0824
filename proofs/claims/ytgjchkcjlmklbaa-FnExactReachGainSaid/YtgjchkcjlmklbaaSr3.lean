/- The model's lists of places. -/
import Derived.Test.YtgjchkcjlmklbaaTabM
namespace Go.Proofs.Ytgjchkcjlmklbaa
open Go.RowKit
def accF (n m i : Nat) : List (List Int) := ((levF n m).take i).flatMap (kidsF n)
theorem acc_zero (n m : Nat) : accF n m 0 = [] := by simp [accF]
theorem acc_all (n m : Nat) : accF n m (levF n m).length = levF n (m + 1) := by unfold accF; rw [List.take_length]; rfl
theorem acc_next (n m i : Nat) (h : i < (levF n m).length) : accF n m (i + 1) = accF n m i ++ kidsF n ((levF n m).getD i []) := by
  unfold accF
  rw [List.take_add_one, List.getElem?_eq_getElem h, List.flatMap_append]
  simp [List.getD, List.getElem?_eq_getElem h]
theorem acc_pre (n m i : Nat) : accF n m i <+: levF n (m + 1) := by
  unfold accF
  rw [levF]
  conv => rhs; rw [← List.take_append_drop i (levF n m), List.flatMap_append]
  exact List.prefix_append _ _
theorem acc_pre2 (n m i s : Nat) (h : i < (levF n m).length) : accF n m i ++ (kidsF n ((levF n m).getD i [])).take s <+: levF n (m + 1) := by
  have h1 := acc_pre n m (i + 1)
  rw [acc_next n m i h] at h1
  refine List.IsPrefix.trans ?_ h1
  exact (List.prefix_append_right_inj _).2 (List.take_prefix _ _)
theorem lev_at {n m i : Nat} (h : i < (levF n m).length) : (levF n m).getD i [] ∈ levF n m := by
  rw [List.getD, List.getElem?_eq_getElem h, Option.getD_some]; exact List.getElem_mem _
/-- A table of rows that lie in blocks from B on. -/
def TabF (w : World) (B : Nat) (v : Value) (xss : List (List Int)) : Prop :=
  ∃ g off c, v = .slice (some ⟨g, off, none⟩) xss.length c ∧ B ≤ g ∧ g < w.heap.size ∧ ∀ j, j < xss.length → ∃ u, w.cell? ⟨g, off + j, none⟩ = some u ∧ RowS w u (xss.getD j []) ∧ ∀ q, u.ownBlock = some q → B ≤ q
theorem TabF.tab {w : World} {B : Nat} {v : Value} {xss : List (List Int)} (h : TabF w B v xss) : TabS w v xss := by
  obtain ⟨g, off, c, e, _, h1, h2⟩ := h
  exact ⟨g, off, c, e, h1, fun j hj => by obtain ⟨u, hu, hr, _⟩ := h2 j hj; exact ⟨u, hu, hr⟩⟩
theorem TabF.mono {w : World} {B C : Nat} {v : Value} {xss : List (List Int)} (h : TabF w B v xss) (hC : C ≤ B) : TabF w C v xss := by
  obtain ⟨g, off, c, e, h0, h1, h2⟩ := h
  exact ⟨g, off, c, e, Nat.le_trans hC h0, h1, fun j hj => by obtain ⟨u, hu, hr, hb⟩ := h2 j hj; exact ⟨u, hu, hr, fun q hq => Nat.le_trans hC (hb q hq)⟩⟩
def OwnTabB (w : World) (B : Nat) (v : Value) (xss : List (List Int)) : Prop :=
  ∃ us : List Value, us.length = xss.length ∧ w.ownsRow B 22 1 v xss.length us ∧ v ≠ .slice none 0 0 ∧ ∀ j, j < xss.length → ∃ u, us[j]? = some u ∧ InnerM w B v.ownBlock u (xss.getD j [])
theorem OwnTabB.tab {w : World} {B : Nat} {v : Value} {xss : List (List Int)} (h : OwnTabB w B v xss) : TabF w B v xss := by
  obtain ⟨us, h⟩ := h
  obtain ⟨g, c, e, h0, hg, hr⟩ := OwnTabM.open (us := us) h
  exact ⟨g, 0, c, e, h0, hg, fun j hj => by
    obtain ⟨u, _, hc, hi⟩ := hr j hj
    refine ⟨u, by rw [Nat.zero_add]; exact hc, hi.row, fun q hq => ?_⟩
    obtain ⟨g2, c2, e2, h0, _⟩ := hi
    rw [e2] at hq
    cases hq
    exact h0⟩
theorem all_midB {wq wx w1 w2 : World} {u v1 v2 : Value} {xss : List (List Int)} {m : Nat} {xs : List Int} {sg : Int} {o : Obj} (HO : OwnTabB wx wq.heap.size u xss) (L0 : Below wq.heap.size wq wx) (l1 : Below wx.heap.size wx w1) (hx : xs.length = m)
    (o1 : w1.ownsRow wx.heap.size 3 1 v1 m (icells xs)) (h2 : w2.ownsRow wx.heap.size 3 1 v2 (m + 1) (icells xs ++ [.int .i64 sg])) (hg : (w1.alloc o).grownBy w2 v1.ownBlock) (hob : ∀ g, u.ownBlock = some g → wq.heap.size ≤ g ∧ g < wx.heap.size) :
    InnerM w2 wq.heap.size u.ownBlock v2 (xs ++ [sg]) ∧ OwnTabB w2 wq.heap.size u xss ∧ Below wq.heap.size wq w2 ∧ w1.heap.size + 1 ≤ w2.heap.size := by
  have L : Below wx.heap.size wx w2 := (l1.alloc l1.size o).grown hg (by have := l1.size; simp; omega) (fun j hj => (o1.lt j hj).1)
  obtain ⟨us, hO⟩ := HO
  exact ⟨ownI_innerM (ownI_snoc h2 hx) (by simp) (fun g hg => (hob g hg).2) L0.size, ⟨us, OwnTabM.lo (us := us) hO L⟩, L0.trans (L.mono L0.size), by have := hg.size; simpa using this⟩
theorem ownTabB_snoc {w w1 : World} {B k : Nat} {v v' u : Value} {xss : List (List Int)} {xs : List Int} {us : List Value} (hl : us.length = xss.length) (hk : xss.length = k) (hown : w1.ownsRow B 22 1 v' (k + 1) (us ++ [u]))
    (hg : w.grownBy w1 v.ownBlock) (hob : ∀ g, v'.ownBlock = some g → v.ownBlock = some g ∨ w.heap.size ≤ g) (hr : ∀ j, j < xss.length → ∃ u, us[j]? = some u ∧ InnerM w B v.ownBlock u (xss.getD j [])) (hu : InnerM w B v.ownBlock u xs) : OwnTabB w1 B v' (xss ++ [xs]) :=
  ⟨_, ownTabM_snoc hl hk hown hg hob hr hu⟩
theorem first_tab (w : World) : TabF ((w.alloc (.cells #[] 3)).alloc (.cells #[.slice (some ⟨w.heap.size, 0, none⟩) 0 0] 22)) w.heap.size (.slice (some ⟨w.heap.size + 1, 0, none⟩) 1 1) [[]] := by
  have hs : (w.alloc (.cells #[] 3)).heap.size = w.heap.size + 1 := by simp
  refine ⟨w.heap.size + 1, 0, 1, rfl, by omega, by simp, fun j hj => ?_⟩
  have : j = 0 := by simpa using hj
  subst this
  refine ⟨.slice (some ⟨w.heap.size, 0, none⟩) 0 0, ?_, ⟨w.heap.size, 0, 0, rfl, by simp; omega, fun j hj => ?_⟩, fun q hq => ?_⟩
  · rw [← hs, World.cell?_alloc_at _ _ _ _ rfl]; rfl
  · simp at hj
  · cases hq; exact Nat.le_refl _
set_option maxRecDepth 100000 in
set_option maxHeartbeats 6400000 in
theorem l7Sets_any (n many : Nat) (hn : n ≤ 12) (hy : many ≤ n) (w : World) :
    Calls Try.prog 200 #[.int .i64 (n : Int), .int .i64 (many : Int)] w fun e w' => ∃ u, e = .returned u ∧ TabF w' w.heap.size u (levF n many) ∧ Below w.heap.size w w' := by
  obtain ⟨i0, hi, hz0, hz1, hz2⟩ := info_parts infoInt
  obtain ⟨i1, ki, kz0, kz1, kz2⟩ := info_parts infoIntS
  have F0 := Lib.hid (first_tab w)
  go_enter Try.func200, Try.ntmps200
  go_wp2
  go_loopw [5, 6] (fun v i wr => ∃ m : Nat, m ≤ many ∧ i = .int .i64 m ∧ Hid (TabF wr w.heap.size v (levF n m)) ∧ Hid (Below w.heap.size w wr)) (fun _ i _ => many - (intOf i).toNat)
  case atStart => exact ⟨0, Nat.zero_le _, rfl, F0, Lib.hid (((Below.refl _ _).alloc (Nat.le_refl _) _).alloc (by simp) _)⟩
  case round =>
    obtain ⟨m, hm, rfl, HT, HW⟩ := hrel
    obtain ⟨wq, rfl⟩ : ∃ wq : World, wq = wr := ⟨_, rfl⟩
    clear F0
    by_cases hlt : m < many
    · have hlt' : (m : Int) < (many : Int) := by omega
      have hp := lev_few hn m (by omega)
      have HP2 := Lib.hid (fun i s (h : i < (levF n m).length) => Nat.le_trans (acc_pre2 n m i s h).length_le (lev_few hn (m + 1) (by omega)))
      have HAC := Lib.hid (acc_all n m)
      have HNX := Lib.hid (fun i (h : i < (levF n m).length) => And.intro (acc_next n m i h) (And.intro (lev_len n m _ (lev_at h)) (nx_in (lev_at h))))
      have ht := HT.out
      obtain ⟨g, off, c, rfl, _, hg, hc⟩ := ht
      have HC := Lib.hid hc
      obtain ⟨M, hM⟩ : ∃ M, (levF n m).length = M := ⟨_, rfl⟩
      rw [hM] at hp HC HP2 HAC HNX ⊢
      have HMM := Lib.hid hM
      have hrow0 : OwnTabB (wq.alloc (.cells #[] 22)) wq.heap.size (.slice (some ⟨wq.heap.size, 0, none⟩) 0 0) (accF n m 0) := ⟨[], by rw [acc_zero]; rfl, by rw [acc_zero]; exact World.ownsRow_lit wq #[] 0 (Nat.le_refl _) (by decide) rfl, by simp, fun j hj => by rw [acc_zero] at hj; simp at hj⟩
      have R0 := Lib.hid hrow0
      have L0 := Lib.hid ((Below.refl wq.heap.size wq).alloc (Nat.le_refl _) (.cells #[] 22))
      clear hc hM hrow0 HT
      go_wp2
      go_loopw [7, 8] (fun u i ws => ∃ k : Nat, k ≤ M ∧ i = .int .i64 k ∧ Hid (OwnTabB ws wq.heap.size u (accF n m k)) ∧ Hid (Below wq.heap.size wq ws)) (fun _ i _ => M - (intOf i).toNat)
      case atStart => exact ⟨0, Nat.zero_le _, rfl, R0, L0⟩
      case round =>
        obtain ⟨k, hk, rfl, HO, HL⟩ := hrel
        obtain ⟨wv, rfl⟩ : ∃ wv : World, wv = wr := ⟨_, rfl⟩
        clear R0 L0
        by_cases hkl : k < M
        · have hkl' : (k : Int) < (M : Int) := by omega
          have hnx := HNX.out k hkl
          have HPK := Lib.hid (HP2.out k)
          obtain ⟨L, hL⟩ : ∃ L, (levF n m).getD k [] = L := ⟨_, rfl⟩
          obtain ⟨u, hu, hr, _⟩ := HC.out k hkl
          rw [hL] at hnx HPK hr
          have hr0 := hr
          obtain ⟨gu, ou, cu, rfl, hgu, hcu⟩ := hr
          rw [hnx.2.1] at hu hr0 hcu
          have HRU := Lib.hid hr0
          have HCU := Lib.hid hu
          have HLL := Lib.hid hnx.2.1
          have HNK := Lib.hid hnx.1
          have HPK := Lib.hid (fun s => HPK.out s hkl)
          have hzb := hnx.2.2
          have HKT := Lib.hid (fun s h => kids_take n L s h)
          have HKS := Lib.hid (show (kidsF n L).take (n - (nxF L).toNat) = kidsF n L by rw [← kids_len n L, List.take_length])
          have NXE := Lib.hid (show nxF L = if m = 0 then 0 else L.getD (m - 1) 0 + 1 by unfold nxF; rw [hnx.2.1])
          obtain ⟨z, hz⟩ : ∃ z, nxF L = z := ⟨_, rfl⟩
          rw [hz] at HKT HKS NXE hzb
          obtain ⟨S, hS⟩ : ∃ S, n - z.toNat = S := ⟨_, rfl⟩
          rw [hS] at HKT HKS
          have hSz : z + (S : Int) = (n : Int) := by omega
          have hbl := HL.out.cell (p := ⟨g, off + k, none⟩) hg
          rw [HCU.out] at hbl
          clear hnx hr0 hu hL hz hS HNX HP2 HC
          by_cases h0 : m = 0
          · have HZ := Lib.hid (show z = 0 by rw [NXE.out, if_pos h0])
            have h0' : ¬ (0 : Int) < (m : Int) := by omega
            clear hbl hcu h0
            go_wp2
            go_loopw [7, 10] (fun u x ws => ∃ s : Nat, s ≤ S ∧ x = .int .i64 (z + (s : Int)) ∧ Hid (OwnTabB ws wq.heap.size u (accF n m k ++ (kidsF n L).take s)) ∧ Hid (Below wq.heap.size wq ws)) (fun _ x _ => ((n : Int) - intOf x).toNat)
            case atStart => exact ⟨0, Nat.zero_le _, by simp [HZ.out], Lib.hid (by rw [List.take_zero, List.append_nil]; exact HO.out), HL⟩
            case round =>
              obtain ⟨s, hs, rfl, HOs, HLs⟩ := hrel
              obtain ⟨wx, rfl⟩ : ∃ wx : World, wx = wr := ⟨_, rfl⟩
              by_cases hs3 : s < S
              · have h1 : wx.cell? ⟨g, off + k, none⟩ = some (.slice (some ⟨gu, ou, none⟩) m cu) := by rw [HLs.out.cell (p := ⟨g, off + k, none⟩) hg]; exact HCU.out
                have OW := Lib.hid (l1Own_any _ _ wx (HRU.out.lo HLs.out) (by rw [HLL.out]; omega))
                have HSN := Lib.hid (show accF n m k ++ (kidsF n L).take (s + 1) = (accF n m k ++ (kidsF n L).take s) ++ [L ++ [z + (s : Int)]] by rw [List.append_assoc, HKT.out s hs3])
                have HSB := HPK.out s
                have HOB := Lib.hid (show ∀ g, u7.ownBlock = some g → wq.heap.size ≤ g ∧ g < wx.heap.size from fun g hg => by
                  obtain ⟨us, _, hown, _, _⟩ := HOs.out
                  exact hown.lt g hg)
                have hws := HLs.out.size
                obtain ⟨A, hA⟩ : ∃ A, accF n m k ++ (kidsF n L).take s = A := ⟨_, rfl⟩
                rw [hA] at HSN HSB HOs
                obtain ⟨N, hN⟩ : ∃ N, A.length = N := ⟨_, rfl⟩
                rw [hN] at HSB
                have HSL := Lib.hid hN
                obtain ⟨sg, hsg⟩ : ∃ y : Int, z + (s : Int) = y := ⟨_, rfl⟩
                have sg1 : sg < (n : Int) := by omega
                have sg0 : 0 ≤ sg := by omega
                rw [hsg] at HSN ⊢
                have HSG := Lib.hid hsg
                clear hsg hA hN
                go_wp2_with fail
                refine OW.out.mono ?_
                rintro e w1 ⟨v1, rfl, o1, l1⟩
                have LL1 := Lib.hid l1
                have L1 := Lib.hid (HLs.out.trans (l1.mono HLs.out.size))
                have hs1 := l1.size
                unfold OwnI at o1
                rw [HLL.out] at o1
                clear l1 OW h1
                have hs2 : wx.heap.size ≤ w1.heap.size := hs1
                go_wp2_with (first
                  | (at_builtin; refine wpList_append_own_at _ rfl _ _ 22 rfl wx.heap.size 3 i0 (.int .i64 0) 1 8 Try.underlying22 hi hz0 hz1 hz2 rfl (by decide) _ _ _ rfl (o1.alloc _) ⟨w1.heap.size, 0, none⟩ 1 1 [.int .i64 sg] rfl rfl (cell_one_new _ _ _) (fun x hx => by simp at hx; subst hx; rfl) (by unfold maxLen; omega) (by omega) (by simp; omega) ?_; intro v2 w2 hown2 hgrow2 hnil2 hloc2; obtain ⟨g2, cap2, rfl⟩ := ownsRow_one hown2; obtain ⟨hInn, hTab, hL2, hsz2⟩ := all_midB HOs.out HLs.out LL1.out HLL.out o1 hown2 hgrow2 HOB.out; obtain ⟨us, hul, hown, hnn, hrr⟩ := hTab; rw [HSL.out] at hown; clear hown2 hgrow2 hnil2 hloc2)
                  | (at_builtin; refine wpList_append_own_at _ rfl _ _ 47 rfl wq.heap.size 22 i1 (.slice none 0 0) 1 24 Try.underlying47 ki kz0 kz1 kz2 rfl (by decide) _ _ _ rfl (hown.alloc _) ⟨w2.heap.size, 0, none⟩ 1 1 [.slice (some ⟨g2, 0, none⟩) (m + 1) cap2] rfl rfl (cell_one_new _ _ _) (fun x hx => by simp at hx; subst hx; rfl) (by unfold maxLen; omega) (by omega) (by simp; omega) ?_; intro v3 w3 hown3 hgrow3 hnil3 hloc3))
                have hg3 : (w2.alloc (.cells #[.slice (some ⟨g2, 0, none⟩) (m + 1) cap2] 22)).grownBy w3 u7.ownBlock := hgrow3
                have hlc : v3.ownBlock = u7.ownBlock ∨ v3.ownBlock = some (w2.alloc (.cells #[.slice (some ⟨g2, 0, none⟩) (m + 1) cap2] 22)).heap.size := hloc3
                have AL := (Below.refl w2.heap.size w2).alloc (Nat.le_refl _) (.cells #[.slice (some ⟨g2, 0, none⟩) (m + 1) cap2] 22)
                have HNN := Lib.hid (show OwnTabB w3 wq.heap.size v3 (accF n m k ++ (kidsF n L).take (s + 1)) by
                  rw [HSN.out]
                  exact ownTabB_snoc (w := w2.alloc (.cells #[.slice (some ⟨g2, 0, none⟩) (m + 1) cap2] 22)) (v := u7) (us := us) hul HSL.out hown3 hg3 (fun g hg => by
                    rcases hlc with e | e
                    · exact .inl (by rw [← e]; exact hg)
                    · rw [e] at hg; cases hg; exact .inr (Nat.le_refl _)) (fun j hj => by
                    obtain ⟨u, hu, hh⟩ := hrr j hj
                    exact ⟨u, hu, hh.lo AL⟩) (hInn.lo AL))
                have HLM := Lib.hid (show Below wq.heap.size wq w3 from (hL2.alloc hL2.size _).grown hg3 (by simp; have := hL2.size; omega) (fun j hj => (HOB.out j hj).1))
                refine ⟨⟨s + 1, by omega, by rw [show sg + 1 = z + ((s + 1 : Nat) : Int) by have := HSG.out; omega], HNN, HLM⟩, ?_⟩
                simp [intOf]
                omega
              · obtain rfl : s = S := by omega
                have hge : ¬ z + (s : Int) < (n : Int) := by omega
                have HNN := Lib.hid (show OwnTabB wx wq.heap.size u7 (accF n m (k + 1)) by rw [HNK.out, ← HKS.out]; exact HOs.out)
                go_wp2
                go_roundw
                case rel => exact ⟨k + 1, by omega, by go_num, HNN, HLs⟩
                case measure => simp [intOf]; omega
          · have HZ := Lib.hid (show z = L.getD (m - 1) 0 + 1 by rw [NXE.out, if_neg h0])
            obtain ⟨q, hq⟩ : ∃ q, m - 1 = q := ⟨_, rfl⟩
            have hq1 : (m : Int) - 1 = (q : Int) := by omega
            have hqm : q < m := by omega
            have hqm' : (q : Int) < (m : Int) := by omega
            have hq0 : (0 : Int) < (m : Int) := by omega
            have hqd : decide (0 < m) = true := by simp; omega
            have hcq := hcu q hqm
            rw [← HL.out.cell (p := ⟨gu, ou + q, none⟩) hgu] at hcq
            rw [hq] at HZ
            obtain ⟨y, hy⟩ : ∃ y, L.getD q 0 = y := ⟨_, rfl⟩
            rw [hy] at HZ hcq
            have hz1 := HZ.out
            have hyw : -9223372036854775808 ≤ y + 1 ∧ y + 1 ≤ 9223372036854775807 := by omega
            obtain ⟨hyw0, hyw1⟩ := hyw
            clear hcu h0 hq hy hz1
            go_wp2
            go_loopw [7, 10] (fun u x ws => ∃ s : Nat, s ≤ S ∧ x = .int .i64 (z + (s : Int)) ∧ Hid (OwnTabB ws wq.heap.size u (accF n m k ++ (kidsF n L).take s)) ∧ Hid (Below wq.heap.size wq ws)) (fun _ x _ => ((n : Int) - intOf x).toNat)
            case atStart => exact ⟨0, Nat.zero_le _, by simp [HZ.out], Lib.hid (by rw [List.take_zero, List.append_nil]; exact HO.out), HL⟩
            case round =>
              obtain ⟨s, hs, rfl, HOs, HLs⟩ := hrel
              obtain ⟨wx, rfl⟩ : ∃ wx : World, wx = wr := ⟨_, rfl⟩
              by_cases hs3 : s < S
              · have h1 : wx.cell? ⟨g, off + k, none⟩ = some (.slice (some ⟨gu, ou, none⟩) m cu) := by rw [HLs.out.cell (p := ⟨g, off + k, none⟩) hg]; exact HCU.out
                have OW := Lib.hid (l1Own_any _ _ wx (HRU.out.lo HLs.out) (by rw [HLL.out]; omega))
                have HSN := Lib.hid (show accF n m k ++ (kidsF n L).take (s + 1) = (accF n m k ++ (kidsF n L).take s) ++ [L ++ [z + (s : Int)]] by rw [List.append_assoc, HKT.out s hs3])
                have HSB := HPK.out s
                have HOB := Lib.hid (show ∀ g, u7.ownBlock = some g → wq.heap.size ≤ g ∧ g < wx.heap.size from fun g hg => by
                  obtain ⟨us, _, hown, _, _⟩ := HOs.out
                  exact hown.lt g hg)
                have hws := HLs.out.size
                obtain ⟨A, hA⟩ : ∃ A, accF n m k ++ (kidsF n L).take s = A := ⟨_, rfl⟩
                rw [hA] at HSN HSB HOs
                obtain ⟨N, hN⟩ : ∃ N, A.length = N := ⟨_, rfl⟩
                rw [hN] at HSB
                have HSL := Lib.hid hN
                obtain ⟨sg, hsg⟩ : ∃ y : Int, z + (s : Int) = y := ⟨_, rfl⟩
                have sg1 : sg < (n : Int) := by omega
                have sg0 : 0 ≤ sg := by omega
                rw [hsg] at HSN ⊢
                have HSG := Lib.hid hsg
                clear hsg hA hN
                go_wp2_with fail
                refine OW.out.mono ?_
                rintro e w1 ⟨v1, rfl, o1, l1⟩
                have LL1 := Lib.hid l1
                have L1 := Lib.hid (HLs.out.trans (l1.mono HLs.out.size))
                have hs1 := l1.size
                unfold OwnI at o1
                rw [HLL.out] at o1
                clear l1 OW h1
                have hs2 : wx.heap.size ≤ w1.heap.size := hs1
                go_wp2_with (first
                  | (at_builtin; refine wpList_append_own_at _ rfl _ _ 22 rfl wx.heap.size 3 i0 (.int .i64 0) 1 8 Try.underlying22 hi hz0 hz1 hz2 rfl (by decide) _ _ _ rfl (o1.alloc _) ⟨w1.heap.size, 0, none⟩ 1 1 [.int .i64 sg] rfl rfl (cell_one_new _ _ _) (fun x hx => by simp at hx; subst hx; rfl) (by unfold maxLen; omega) (by omega) (by simp; omega) ?_; intro v2 w2 hown2 hgrow2 hnil2 hloc2; obtain ⟨g2, cap2, rfl⟩ := ownsRow_one hown2; obtain ⟨hInn, hTab, hL2, hsz2⟩ := all_midB HOs.out HLs.out LL1.out HLL.out o1 hown2 hgrow2 HOB.out; obtain ⟨us, hul, hown, hnn, hrr⟩ := hTab; rw [HSL.out] at hown; clear hown2 hgrow2 hnil2 hloc2)
                  | (at_builtin; refine wpList_append_own_at _ rfl _ _ 47 rfl wq.heap.size 22 i1 (.slice none 0 0) 1 24 Try.underlying47 ki kz0 kz1 kz2 rfl (by decide) _ _ _ rfl (hown.alloc _) ⟨w2.heap.size, 0, none⟩ 1 1 [.slice (some ⟨g2, 0, none⟩) (m + 1) cap2] rfl rfl (cell_one_new _ _ _) (fun x hx => by simp at hx; subst hx; rfl) (by unfold maxLen; omega) (by omega) (by simp; omega) ?_; intro v3 w3 hown3 hgrow3 hnil3 hloc3))
                have hg3 : (w2.alloc (.cells #[.slice (some ⟨g2, 0, none⟩) (m + 1) cap2] 22)).grownBy w3 u7.ownBlock := hgrow3
                have hlc : v3.ownBlock = u7.ownBlock ∨ v3.ownBlock = some (w2.alloc (.cells #[.slice (some ⟨g2, 0, none⟩) (m + 1) cap2] 22)).heap.size := hloc3
                have AL := (Below.refl w2.heap.size w2).alloc (Nat.le_refl _) (.cells #[.slice (some ⟨g2, 0, none⟩) (m + 1) cap2] 22)
                have HNN := Lib.hid (show OwnTabB w3 wq.heap.size v3 (accF n m k ++ (kidsF n L).take (s + 1)) by
                  rw [HSN.out]
                  exact ownTabB_snoc (w := w2.alloc (.cells #[.slice (some ⟨g2, 0, none⟩) (m + 1) cap2] 22)) (v := u7) (us := us) hul HSL.out hown3 hg3 (fun g hg => by
                    rcases hlc with e | e
                    · exact .inl (by rw [← e]; exact hg)
                    · rw [e] at hg; cases hg; exact .inr (Nat.le_refl _)) (fun j hj => by
                    obtain ⟨u, hu, hh⟩ := hrr j hj
                    exact ⟨u, hu, hh.lo AL⟩) (hInn.lo AL))
                have HLM := Lib.hid (show Below wq.heap.size wq w3 from (hL2.alloc hL2.size _).grown hg3 (by simp; have := hL2.size; omega) (fun j hj => (HOB.out j hj).1))
                refine ⟨⟨s + 1, by omega, by rw [show sg + 1 = z + ((s + 1 : Nat) : Int) by have := HSG.out; omega], HNN, HLM⟩, ?_⟩
                simp [intOf]
                omega
              · obtain rfl : s = S := by omega
                have hge : ¬ z + (s : Int) < (n : Int) := by omega
                have HNN := Lib.hid (show OwnTabB wx wq.heap.size u7 (accF n m (k + 1)) by rw [HNK.out, ← HKS.out]; exact HOs.out)
                go_wp2
                go_roundw
                case rel => exact ⟨k + 1, by omega, by go_num, HNN, HLs⟩
                case measure => simp [intOf]; omega
        · obtain rfl : k = M := by omega
          have hge : ¬ (k : Int) < (k : Int) := by omega
          have HNN := Lib.hid (show TabF wv w.heap.size u7 (levF n (m + 1)) by rw [← HAC.out]; exact HO.out.tab.mono HW.out.size)
          have HLL := Lib.hid (HW.out.trans (HL.out.mono HW.out.size))
          go_wp2
          go_roundw
          case rel => exact ⟨m + 1, by omega, by go_num, HNN, HLL⟩
          case measure => simp [intOf]; omega
    · obtain rfl : m = many := by omega
      have hge : ¬ (m : Int) < (m : Int) := by omega
      go_wp2
      go_ret
      exact ⟨_, rfl, HT.out, HW.out⟩
theorem l7SetsS_any (n many : Nat) (hn : n ≤ 12) (hy : many ≤ n) (w : World) :
    Calls Try.prog 200 #[.int .i64 (n : Int), .int .i64 (many : Int)] w fun e w' => ∃ u, e = .returned u ∧ TabS w' u (levF n many) ∧ Below w.heap.size w w' :=
  (l7Sets_any n many hn hy w).mono fun _ _ ⟨u, h1, h2, h3⟩ => ⟨u, h1, h2.tab, h3⟩
end Go.Proofs.Ytgjchkcjlmklbaa
