/- The program's search for stages: ReachGain. -/
import Derived.Test.YtgjchkcjlmklbaaSr6
import Derived.Test.YtgjchkcjlmklbaaSr4
import Derived.Test.YtgjchkcjlmklbaaCg3
import Derived.Test.YtgjchkcjlmklbaaAsc1
namespace Go.Proofs.Ytgjchkcjlmklbaa
open Go.RowKit
theorem mineI_mono7 {w : World} {B C E : Nat} {v : Value} {xs : List Int} (h : MineI w B E v xs) (hC : C ≤ B) : MineI w C E v xs := by
  rcases h with h | ⟨g, c, e, h1, h2, h3, h4⟩
  · exact .inl h
  · exact .inr ⟨g, c, e, Nat.le_trans hC h1, h2, h3, h4⟩
set_option maxRecDepth 100000 in
set_option maxHeartbeats 12800000 in
theorem fewReachGain_yes (v : Value) (kit : List StageV) (n : Int) (w : World) (hr : StgRow w v kit) (hk : kitB kit n = true) :
    Calls Try.prog 144 #[v, .int .i64 n, .func (.func 145) #[] #[]] w fun e w' => ∃ u, e = .returned (.tuple #[u, .bool (fdB false kit n)]) ∧ MineI w' w.heap.size w'.heap.size u (fdL false kit n) ∧ Below w.heap.size w w' := by
  obtain ⟨⟨ha, h8⟩, n0, n1⟩ := (kitB_iff kit n).1 hk
  have C := Lib.hid (isKit_is v kit true (by unfold eightB; rw [ha]; simp; omega) w hr (by omega))
  have AS := Lib.hid (fun w1 => asc_any kit.length (by omega) w1)
  have PK := Lib.hid (fun u xs m w1 (l : Below w.heap.size w w1) (hu : RowS w1 u xs) (hx : xs ∈ levF kit.length m) (hm : m ≤ 8) => stagesAt_any v u kit xs w1 (hr.lo l) hu.row (fun x h => lev_in _ _ xs hx x h) (by omega) (by rw [lev_len _ _ xs hx]; omega))
  have CB := Lib.hid (fun xs m (hx : xs ∈ levF kit.length m) (hm : m ≤ 5) => show chainB (pickF kit xs) = true from (chainB_iff _).2 ⟨pick_all ha hx, by rw [pick_len, lev_len _ _ xs hx]; omega⟩)
  have BD := Lib.hid (fun xs m (hx : xs ∈ levF kit.length m) (hm : m ≤ 5) => And.intro (ch_bound (pick_all ha hx) (by rw [pick_len, lev_len _ _ xs hx]; omega)) (red_ch (pick_all ha hx) (by rw [pick_len, lev_len _ _ xs hx]; omega)))
  have MU := Lib.hid (fun g (g0 : 1 ≤ g) (g1 : g ≤ 254803968) => muln_bound n g (by omega) n1 g0 g1)
  have FY := Lib.hid (fun i => found_que false kit n hk i)
  have FN := Lib.hid (found_que_no false kit n hk)
  have HEL := Lib.hid (every_len (n := kit.length) (by omega))
  obtain ⟨a, c, rfl, _, hr⟩ := hr
  have hn0 : ¬ n < 1 := by omega
  have hn1 : ¬ 1000000 < n := by omega
  clear hk ha n0 n1 hr
  go_enter Try.func144, Try.ntmps144
  go_wp2_with fail
  refine C.out.mono ?_
  rintro e w1 ⟨rfl, l1⟩
  have L1 := Lib.hid l1
  have hs1 := l1.size
  clear l1 C
  go_wp2_with fail
  refine (AS.out _).mono ?_
  rintro e w2 ⟨tv, rfl, ⟨us, ho⟩, l2⟩
  have L2 := Lib.hid (lo_on L1.out l2)
  have HT2 := Lib.hid ho.1
  obtain ⟨gt, ct, htv, _, _, _⟩ := ho.1.open
  subst htv
  have hel := HEL.out
  clear l2 ho AS L1
  go_wp2
  go_loopw [27] (fun i wr => ∃ k : Nat, k ≤ (everyF kit.length).length ∧ i = .int .i64 k ∧ Hid (OwnTabM wr w1.heap.size (.slice (some ⟨gt, 0, none⟩) (everyF kit.length).length ct) (everyF kit.length) us) ∧ Hid (∀ j, j < k → hitB false kit n ((everyF kit.length).getD j []) = false) ∧ Hid (Below w.heap.size w wr)) (fun i _ => (everyF kit.length).length - (intOf i).toNat)
  case atStart => exact ⟨0, Nat.zero_le _, rfl, HT2, Lib.hid (fun j h => by omega), L2⟩
  case round =>
    obtain ⟨k, hke, rfl, HO, HN, HW⟩ := hrel
    obtain ⟨wq, rfl⟩ : ∃ wq : World, wq = wr := ⟨_, rfl⟩
    clear HT2 L2
    by_cases hkl : k < (everyF kit.length).length
    case neg =>
      obtain ⟨M, hM⟩ : ∃ M, (everyF kit.length).length = M := ⟨_, rfl⟩
      have HF := Lib.hid (FN.out (fun j hj => HN.out j (by omega)))
      rw [hM] at hkl hke ⊢
      have hge : ¬ (k : Int) < (M : Int) := by omega
      clear hM HO hel
      go_wp2
      go_ret2
      exact ⟨_, by unfold fdB; rw [HF.out]; rfl, by unfold fdL; rw [HF.out]; exact mineI_nil _ _ _ _ _, HW.out⟩
    obtain ⟨g, cc, hv8, hgB, hg, hop⟩ := HO.out.open
    cases hv8
    obtain ⟨m, hm, hmem⟩ := every_mem hkl
    have HFY := Lib.hid (fun hp => FY.out k hkl hp HN.out)
    obtain ⟨u, huk, hcu, hin⟩ := hop k hkl
    obtain ⟨L, hL⟩ : ∃ L, (everyF kit.length).getD k [] = L := ⟨_, rfl⟩
    rw [hL] at hmem HFY hin
    have HHL := Lib.hid hL
    have hLm := lev_len _ _ L hmem
    obtain ⟨gu, cu, hue, hgu0, hgu, hgo, hcc, hff, hle⟩ := hin
    rw [hLm] at hue
    subst hue
    have HIN := Lib.hid (show InnerM wq w1.heap.size (some gt) (.slice (some ⟨gu, 0, none⟩) m cu) L from ⟨gu, cu, by rw [hLm], hgu0, hgu, hgo, hcc, hff, hle⟩)
    have P := Lib.hid (PK.out (.slice (some ⟨gu, 0, none⟩) m cu) L m wq HW.out HIN.out.row hmem (by omega))
    have CG := Lib.hid (fun u2 w2 h => chainGain_any u2 (pickF kit L) w2 h (by rw [pick_len, hLm]; omega))
    have HC5 := Lib.hid (fun hm5 => CB.out L m hmem hm5)
    have HB5 := Lib.hid (fun hm5 => BD.out L m hmem hm5)
    have HH5 := Lib.hid (fun (hm5 : m ≤ 5) => hit_short (exact := false) (kit := kit) (n := n) (show L.length ≤ 5 by omega))
    have HHN := Lib.hid (fun (hm5 : ¬ m ≤ 5) => And.intro (show chainB (pickF kit L) = false from not_chain (.inr (by rw [pick_len, hLm]; exact hm5))) (show hitB false kit n L = false by unfold hitB; rw [show decide (L.length ≤ 5) = false by simp; omega]; rfl))
    have HNX := Lib.hid (fun (h : hitB false kit n L = false) j (hj : j < k + 1) => show hitB false kit n ((everyF kit.length).getD j []) = false by
      by_cases e : j = k
      · subst e; rw [HHL.out]; exact h
      · exact HN.out j (by omega))
    obtain ⟨M, hM⟩ : ∃ M, (everyF kit.length).length = M := ⟨_, rfl⟩
    rw [hM] at hkl hke HO hel ⊢
    have hkl' : (k : Int) < (M : Int) := by omega
    clear hop hL hLm hmem huk hgo hcc hff hM PK CB BD FY FN hgu hle HN
    go_wp2_with fail
    refine P.out.mono ?_
    rintro e w2 ⟨u2, rfl, r2, l2⟩
    have C2 := Lib.hid (CG.out u2 w2 r2)
    have L2 := Lib.hid l2
    clear l2 r2 P CG hcu
    by_cases hm5 : m ≤ 5
    · have hcb := HC5.out hm5
      have hbd := HB5.out hm5
      have HH := Lib.hid (HH5.out hm5)
      rw [cg_yes hcb, hcb] at C2
      obtain ⟨y, hy⟩ : ∃ y, chF (pickF kit L) = y := ⟨_, rfl⟩
      rw [hy] at C2 hbd HH
      obtain ⟨g1, g2⟩ := y
      simp only at C2 hbd
      have MB := MU.out g2 hbd.1.2.1 hbd.1.2.2
      have a0 : -9223372036854775808 ≤ n * g2 := by omega
      have a1 : n * g2 ≤ 9223372036854775807 := by omega
      have hred := hbd.2
      have DO := Lib.hid (fun w => reaches_any g1 g2 n w a0 a1)
      obtain ⟨b, hb⟩ : ∃ b, doesB false (g1, g2) n = b := ⟨_, rfl⟩
      rw [hb] at DO HH
      clear hcb hbd hy MB a0 a1 hred hb HC5 HB5 HH5 HHN
      go_wp2_with fail
      refine C2.out.mono ?_
      rintro e w3 ⟨rfl, l3⟩
      have G1 := Lib.hid (cel2_new w3 g1 g2 94)
      have L3 := Lib.hid ((lo_on L2.out l3).alloc (by have := L2.out.size; have := l3.size; omega) (.cells #[.int .i64 g1, .int .i64 g2] 94))
      obtain ⟨_, k1, k2, _, _⟩ := G1.out
      clear l3 C2 L2 G1
      go_wp2_with fail
      refine (DO.out _).mono ?_
      rintro e wz ⟨rfl, l4⟩
      have L4 := Lib.hid (lo_on L3.out l4)
      have HWz := Lib.hid (HW.out.trans (L4.out.mono HW.out.size))
      have HOz := Lib.hid (HO.out.lo L4.out)
      have HINz := Lib.hid (HIN.out.lo L4.out)
      clear l4 L3 L4 k1 k2 DO
      cases b with
      | true =>
        have HF := Lib.hid (HFY.out HH.out)
        go_wp2
        go_ret2
        exact ⟨_, by unfold fdB; rw [HF.out]; rfl, by unfold fdL; rw [HF.out]; exact mineI_mono7 HINz.out.mine hs1, HWz.out⟩
      | false =>
        have HNN := Lib.hid (HNX.out HH.out)
        clear HFY HH HNX
        go_wp2
        go_roundw
        case rel => exact ⟨k + 1, by omega, by go_num, HOz, HNN, HWz⟩
        case measure => simp [intOf]; omega
    · obtain ⟨hcb, hhn⟩ := HHN.out hm5
      have HNN := Lib.hid (HNX.out hhn)
      rw [cg_no hcb, hcb] at C2
      clear hcb hhn HC5 HB5 HH5 HHN HFY HNX
      go_wp2_with fail
      refine C2.out.mono ?_
      rintro e w3 ⟨rfl, l3⟩
      have L3 := Lib.hid ((lo_on L2.out l3).alloc (by have := L2.out.size; have := l3.size; omega) (.cells #[.int .i64 0, .int .i64 0] 94))
      have HWz := Lib.hid (HW.out.trans (L3.out.mono HW.out.size))
      have HOz := Lib.hid (HO.out.lo L3.out)
      clear l3 C2 L2 L3
      go_wp2
      go_roundw
      case rel => exact ⟨k + 1, by omega, by go_num, HOz, HNN, HWz⟩
      case measure => simp [intOf]; omega
end Go.Proofs.Ytgjchkcjlmklbaa
