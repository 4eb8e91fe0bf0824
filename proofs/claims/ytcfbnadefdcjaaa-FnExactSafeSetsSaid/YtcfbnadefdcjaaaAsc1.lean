/- The program's ascending lists. -/
import Derived.Test.YtcfbnadefdcjaaaTabM
import Derived.ArgAppend
namespace Go.Proofs.Ytcfbnadefdcjaaa
open Go.RowKit
theorem row_more {xss yss : List (List Int)} {ws : List Value} {w : World} {B : Nat} {v : Value} {k : Nat} {u : Value} (h : OwnTabD w B v (xss ++ yss) ws) (hk : k < xss.length) (hu : ws[k]? = some u) : InnerM w B v.ownBlock u (xss.getD k []) := by
  obtain ⟨u', hu', hi⟩ := h.1.2.2.2 k (by rw [List.length_append]; omega)
  rw [hu] at hu'
  cases hu'
  have : (xss ++ yss).getD k [] = xss.getD k [] := by simp only [List.getD]; rw [List.getElem?_append_left hk]
  rw [← this]
  exact hi
set_option maxRecDepth 100000 in
set_option maxHeartbeats 6400000 in
theorem asc_any (n : Nat) (hn : n ≤ 12) (w : World) :
    Calls Try.prog 100 #[.int .i64 (n : Int)] w fun e w' => ∃ v, e = .returned v ∧ (∃ us, OwnTabD w' w.heap.size v (everyF n) us) ∧ Below w.heap.size w w' := by
  obtain ⟨i0, hi, hz0, hz1, hz2⟩ := info_parts infoInt
  obtain ⟨i1, ki, kz0, kz1, kz2⟩ := info_parts infoIntS
  have T0 := Lib.hid (show OwnTabD ((w.alloc (.cells #[] 3)).alloc (.cells #[.slice (some ⟨w.heap.size, 0, none⟩) 0 0] 29)) w.heap.size (.slice (some ⟨w.heap.size + 1, 0, none⟩) 1 1) [[]] [.slice (some ⟨w.heap.size, 0, none⟩) 0 0] from ⟨first_tabM w w.heap.size (Nat.le_refl _), List.pairwise_singleton _ _⟩)
  have L0 := Lib.hid (show Below w.heap.size w ((w.alloc (.cells #[] 3)).alloc (.cells #[.slice (some ⟨w.heap.size, 0, none⟩) 0 0] 29)) from ((Below.refl _ _).alloc (Nat.le_refl _) _).alloc (by simp) _)
  go_enter Try.func100, Try.ntmps100
  go_wp2
  go_loopw [3, 4] (fun tv i wr => ∃ k : Nat, i = .int .i64 k ∧ k ≤ (everyF n).length ∧ k ≤ (queF n k).length ∧ Hid (∃ us, OwnTabD wr w.heap.size tv (queF n k) us) ∧ Hid (Below w.heap.size w wr)) (fun _ i _ => 5000 - (intOf i).toNat)
  case atStart => exact ⟨0, rfl, Nat.zero_le _, Nat.zero_le _, Lib.hid ⟨_, by rw [que_zero]; exact T0.out⟩, L0⟩
  case round =>
    obtain ⟨k, rfl, hke, hkq, HT, HW⟩ := hrel
    obtain ⟨wq, rfl⟩ : ∃ wq : World, wq = wr := ⟨_, rfl⟩
    clear T0 L0
    obtain ⟨us, hO⟩ := HT.out
    have HO := Lib.hid hO
    clear hO HT
    have hel := every_len hn
    obtain ⟨g, cc, hv2, hgB, hg, hop⟩ := HO.out.1.open
    by_cases hkl : k < (queF n k).length
    case neg =>
      have hend := que_end (n := n) (i := k) (by omega) hke
      have HOE := Lib.hid (show ∃ us, OwnTabD wq w.heap.size u3 (everyF n) us from ⟨us, by
        have h := HO.out
        have e : queF n k = everyF n := by
          have hp := que_pre (n := n) k
          exact hp.eq_of_length (by omega)
        rw [e] at h
        exact h⟩)
      obtain ⟨M, hM⟩ : ∃ M, (queF n k).length = M := ⟨_, rfl⟩
      rw [hM] at hkl hv2
      have hge : ¬ (k : Int) < (M : Int) := by omega
      clear hM hop hend
      subst hv2
      go_wp2
      go_ret
      exact ⟨_, rfl, HOE.out, HW.out⟩
    obtain ⟨hqa, hke2⟩ := que_at (n := n) hkl
    obtain ⟨m, hm, hmem⟩ := every_mem hke2
    have HNK := Lib.hid (que_next hke2)
    have HKN := Lib.hid (show k + 1 ≤ (everyF n).length by omega)
    have HKM := Lib.hid (show k + 1 ≤ (queF n (k + 1)).length by have := (que_mono (n := n) k).length_le; omega)
    have HPK := Lib.hid (fun s => show (queF n k ++ (kidsF n ((everyF n).getD k [])).take s).length ≤ 4096 by
      have h1 : (queF n k ++ (kidsF n ((everyF n).getD k [])).take s).length ≤ (queF n (k + 1)).length := by
        rw [que_next hke2, List.length_append, List.length_append, List.length_take]; omega
      exact Nat.le_trans h1 (que_len hn (k + 1)))
    obtain ⟨u, huk, hcu, hin⟩ := hop k hkl
    have HRM := Lib.hid (fun yss ws wx v h hu => row_more (xss := queF n k) (yss := yss) (ws := ws) (w := wx) (B := w.heap.size) (v := v) (k := k) (u := u) h hkl hu)
    rw [hqa] at hin HRM
    obtain ⟨L, hL⟩ : ∃ L, (everyF n).getD k [] = L := ⟨_, rfl⟩
    rw [hL] at hmem HNK HPK hin HRM
    have hLm := lev_len _ _ L hmem
    have HLL := Lib.hid hLm
    have hnxb := nx_in hmem
    have HKT := Lib.hid (fun s h => kids_take n L s h)
    have HKS := Lib.hid (show (kidsF n L).take (n - (nxF L).toNat) = kidsF n L by rw [← kids_len n L, List.take_length])
    have NXE := Lib.hid (show nxF L = if m = 0 then 0 else L.getD (m - 1) 0 + 1 by unfold nxF; rw [hLm])
    obtain ⟨z, hz⟩ : ∃ z, nxF L = z := ⟨_, rfl⟩
    rw [hz] at HKT HKS NXE hnxb
    obtain ⟨S, hS⟩ : ∃ S, n - z.toNat = S := ⟨_, rfl⟩
    rw [hS] at HKT HKS
    have hSz : z + (S : Int) = (n : Int) := by omega
    obtain ⟨gu, cu, rfl, hgu0, hgu, _, hcL, _, hcc⟩ := hin
    rw [hLm] at huk hcu hcL hcc HRM
    have HUK := Lib.hid huk
    obtain ⟨N0, hN0⟩ : ∃ N, (queF n k).length = N := ⟨_, rfl⟩
    rw [hN0] at hkl hv2 hkq
    have hkl' : (k : Int) < (N0 : Int) := by omega
    have HN0 := Lib.hid hN0
    clear hop hqa huk hz hS hL hN0 hkq hke hLm hmem
    subst hv2
    by_cases h0 : m = 0
    case' pos =>
      have HZ := Lib.hid (show z = 0 by rw [NXE.out, if_pos h0])
      have h0' : ¬ (0 : Int) < (m : Int) := by omega
      have hqd : decide (0 < m) = false := by simp; omega
      clear h0 hcL
    case' neg =>
      have HZ := Lib.hid (show z = L.getD (m - 1) 0 + 1 by rw [NXE.out, if_neg h0])
      obtain ⟨q, hq⟩ : ∃ q, m - 1 = q := ⟨_, rfl⟩
      have hq1 : (m : Int) - 1 = (q : Int) := by omega
      have hqm : q < m := by omega
      have hqm' : (q : Int) < (m : Int) := by omega
      have hq0 : (0 : Int) < (m : Int) := by omega
      have hqd : decide (0 < m) = true := by simp; omega
      have hcq := hcL q hqm
      rw [hq] at HZ
      obtain ⟨y, hy⟩ : ∃ y, L.getD q 0 = y := ⟨_, rfl⟩
      rw [hy] at HZ hcq
      have hz1' := HZ.out
      have hyw0 : -9223372036854775808 ≤ y + 1 := by omega
      have hyw1 : y + 1 ≤ 9223372036854775807 := by omega
      clear h0 hq hy hz1' hcL
    all_goals
      (go_wp2
       go_loopw [3, 7] (fun tv x ws => ∃ (s : Nat) (vs : List Value), s ≤ S ∧ x = .int .i64 (z + (s : Int)) ∧ Hid (OwnTabD ws w.heap.size tv (queF n k ++ (kidsF n L).take s) vs) ∧ Hid (vs[k]? = some (.slice (some ⟨gu, 0, none⟩) m cu)) ∧ Hid (Below w.heap.size w ws)) (fun _ x _ => ((n : Int) - intOf x).toNat)
       case atStart => exact ⟨0, us, Nat.zero_le _, by simp [HZ.out], Lib.hid (by rw [List.take_zero, List.append_nil]; exact HO.out), HUK, HW⟩
       case round =>
         obtain ⟨s, vs, hs, rfl, HOs, HVK, HLs⟩ := hrel
         obtain ⟨wx, rfl⟩ : ∃ wx : World, wx = wr := ⟨_, rfl⟩
         by_cases hs3 : s < S
         · have hin := HRM.out _ vs wx u3 HOs.out HVK.out
           obtain ⟨gw, cw, ew, hw0, hgw, _, hcw, _, hccw⟩ := hin
           obtain ⟨rfl, rfl⟩ : gu = gw ∧ cu = cw := by
             injection ew with e1 e2 e3
             injection e1 with e4
             injection e4 with e5
             exact ⟨e5, e3⟩
           clear ew
           have HSN := Lib.hid (show queF n k ++ (kidsF n L).take (s + 1) = (queF n k ++ (kidsF n L).take s) ++ [L ++ [z + (s : Int)]] by rw [List.append_assoc, HKT.out s hs3])
           have HSB := HPK.out s
           have HOB := Lib.hid (show ∀ g, u3.ownBlock = some g → w.heap.size ≤ g ∧ g < wx.heap.size from fun g hg => HOs.out.1.2.1.lt g hg)
           have hws := HLs.out.size
           have HVL := Lib.hid (show ∀ x : Value, (vs ++ [x])[k]? = some (.slice (some ⟨gu, 0, none⟩) m cu) from fun x => by rw [List.getElem?_append_left (List.getElem?_eq_some_iff.1 HVK.out).1]; exact HVK.out)
           obtain ⟨A, hA⟩ : ∃ A, queF n k ++ (kidsF n L).take s = A := ⟨_, rfl⟩
           rw [hA] at HSN HSB HOs
           obtain ⟨N, hN⟩ : ∃ N, A.length = N := ⟨_, rfl⟩
           rw [hN] at HSB
           have HSL := Lib.hid hN
           obtain ⟨sg, hsg⟩ : ∃ y : Int, z + (s : Int) = y := ⟨_, rfl⟩
           have sg1 : sg < (n : Int) := by omega
           have sg0 : 0 ≤ sg := by omega
           rw [hsg] at HSN ⊢
           have HSG := Lib.hid hsg
           have hlo : (icells L).length = m * 1 := by rw [icells_len, HLL.out, Nat.mul_one]
           have HOL := Lib.hid (show ∀ b, (some (⟨gu, 0, none⟩ : Addr)) = some b → ∀ j u, (icells L)[j]? = some u → (wx.alloc (.cells #[.int .i64 sg] 3)).cell? (b.add j) = some u from fun b hb j u hj => by
             cases hb
             obtain ⟨hl, rfl⟩ := icells_get L j u hj
             rw [Go.WideShapes.add_plain, Nat.zero_add, World.cell?_of_block (Below.heap_alloc _ _ _ hgw)]
             exact hcw j hl)
           clear hsg hA hN hcw
           go_wp2_with (first
             | (at_builtin; refine wpList_append_grows _ rfl _ _ 29 rfl 3 i0 (.int .i64 0) 1 8 Try.underlying29 hi hz0 hz1 hz2 rfl (by decide) (some ⟨gu, 0, none⟩) m m (icells L) rfl (fun h => by cases h) hlo HOL.out ⟨wx.heap.size, 0, none⟩ 1 1 [.int .i64 sg] rfl rfl (cell_one_new _ _ _) (fun x hx => by simp at hx; subst hx; rfl) (by omega) (by unfold maxLen; omega) (by omega) ?_; intro v2 w2 hown2 hgrow2; obtain ⟨g2, cap2, rfl⟩ := ownsRow_one hown2; have hfr2 := (hown2.lt g2 rfl).1; obtain ⟨hInn, hTab, hL2, hsz2⟩ := asc_mid HOs.out HLs.out HLL.out hown2 hgrow2; obtain ⟨⟨hul, hown, hnn, hrr⟩, hpw⟩ := hTab; rw [HSL.out] at hown; clear hown2 hgrow2)
             | (at_builtin; refine wpList_append_own_at _ rfl _ _ 93 rfl w.heap.size 29 i1 (.slice none 0 0) 1 24 Try.underlying93 ki kz0 kz1 kz2 rfl (by decide) _ _ _ rfl (hown.alloc _) ⟨w2.heap.size, 0, none⟩ 1 1 [.slice (some ⟨g2, 0, none⟩) (m + 1) cap2] rfl rfl (cell_one_new _ _ _) (fun x hx => by simp at hx; subst hx; rfl) (by unfold maxLen; omega) (by omega) (by simp; omega) ?_; intro v3 w3 hown3 hgrow3 hnil3 hloc3))
           have hg3 : (w2.alloc (.cells #[.slice (some ⟨g2, 0, none⟩) (m + 1) cap2] 29)).grownBy w3 u3.ownBlock := hgrow3
           have hlc : v3.ownBlock = u3.ownBlock ∨ v3.ownBlock = some (w2.alloc (.cells #[.slice (some ⟨g2, 0, none⟩) (m + 1) cap2] 29)).heap.size := hloc3
           have AL := (Below.refl w2.heap.size w2).alloc (Nat.le_refl _) (.cells #[.slice (some ⟨g2, 0, none⟩) (m + 1) cap2] 29)
           have HNN := Lib.hid (show OwnTabD w3 w.heap.size v3 (queF n k ++ (kidsF n L).take (s + 1)) (vs ++ [.slice (some ⟨g2, 0, none⟩) (m + 1) cap2]) by
             rw [HSN.out]
             refine ⟨ownTabM_snoc (w := w2.alloc (.cells #[.slice (some ⟨g2, 0, none⟩) (m + 1) cap2] 29)) (v := u3) (us := vs) hul HSL.out hown3 hg3 (fun g hg => by
               rcases hlc with e | e
               · exact .inl (by rw [← e]; exact hg)
               · rw [e] at hg; cases hg; exact .inr (Nat.le_refl _)) (fun j hj => by
               obtain ⟨u, hu, hh⟩ := hrr j hj
               exact ⟨u, hu, hh.lo AL⟩) (hInn.lo AL), apart_snoc (n := wx.heap.size) (g := g2) hpw HOs.out.1.far rfl (by simp at hfr2; omega)⟩)
           have HLM := Lib.hid (show Below w.heap.size w w3 from (hL2.alloc hL2.size _).grown hg3 (by simp; have := hL2.size; omega) (fun j hj => (HOB.out j hj).1))
           refine ⟨⟨s + 1, vs ++ [.slice (some ⟨g2, 0, none⟩) (m + 1) cap2], by omega, by rw [show sg + 1 = z + ((s + 1 : Nat) : Int) by have := HSG.out; omega], HNN, Lib.hid (HVL.out _), HLM⟩, ?_⟩
           simp [intOf]
           omega
         · obtain rfl : s = S := by omega
           have hge : ¬ z + (s : Int) < (n : Int) := by omega
           have HNN := Lib.hid (show ∃ vs, OwnTabD wx w.heap.size u3 (queF n (k + 1)) vs from ⟨vs, by rw [HNK.out, ← HKS.out]; exact HOs.out⟩)
           go_wp2
           go_roundw
           case rel => exact ⟨k + 1, by go_num, HKN.out, HKM.out, HNN, HLs⟩
           case measure => simp [intOf]; omega)
end Go.Proofs.Ytcfbnadefdcjaaa
