/- The model's ReachGain and ExactGain. -/
import Derived.Test.YtgjchkcjlmklbaaSr2
import Derived.Test.YtgjchkcjlmklbaaSr3
namespace Go.Proofs.Ytgjchkcjlmklbaa
open Go.RowKit
theorem kit_parts (xs : List StageV) (n : Int) : kitB xs n = ((allB xs && decide ((xs.length : Int) ≤ 8)) && (decide (1 ≤ n) && decide (n ≤ 1000000))) := by
  unfold kitB
  by_cases h : xs.length ≤ 8
  · rw [show decide ((xs.length : Int) ≤ 8) = true by simp; omega, show decide (xs.length ≤ 8) = true by simp; omega]
  · rw [show decide ((xs.length : Int) ≤ 8) = false by simp; omega, show decide (xs.length ≤ 8) = false by simp; omega]
theorem l7Kit_is (v : Value) (xs : List StageV) (n : Int) (r : Bool) (h : kitB xs n = r) (w : World) (hr : StgRow w v xs) (hn : xs.length ≤ 2000000) :
    Calls Try.prog 141 #[v, .int .i64 n] w fun e w' => e = .returned (.bool r) ∧ Below w.heap.size w w' := by
  subst h
  rw [kit_parts]
  have C := Lib.hid (l7Stages_any v xs 8 w hr hn)
  have I := Lib.hid (fun w => l1In_is n 1 1000000 _ rfl w)
  generalize (allB xs && decide ((xs.length : Int) ≤ 8)) = a at *
  generalize (decide (1 ≤ n) && decide (n ≤ 1000000)) = b at *
  clear hr hn
  cases a with
  | false =>
    go_enter Try.func141, Try.ntmps141
    go_wp2_with fail
    refine C.out.mono ?_
    rintro e w1 ⟨rfl, l⟩
    go_wp2
    go_ret
    exact ⟨rfl, l⟩
  | true =>
    go_enter Try.func141, Try.ntmps141
    go_wp2_with fail
    refine C.out.mono ?_
    rintro e w1 ⟨rfl, l⟩
    go_wp2_with fail
    refine (I.out _).mono ?_
    rintro e w' ⟨rfl, rfl⟩
    go_wp2
    go_ret
    exact ⟨rfl, l⟩
/-- What the search answers. -/
def fdL (exact : Bool) (kit : List StageV) (n : Int) : List Int := (foundF exact kit n).getD []
def fdB (exact : Bool) (kit : List StageV) (n : Int) : Bool := (foundF exact kit n).isSome
theorem hit_short {exact : Bool} {kit : List StageV} {n : Int} {xs : List Int} (h : xs.length ≤ 5) : hitB exact kit n xs = doesB exact (chF (pickF kit xs)) n := by
  unfold hitB
  rw [show decide (xs.length ≤ 5) = true by simp; omega, Bool.true_and]
set_option maxRecDepth 100000 in
set_option maxHeartbeats 6400000 in
theorem l7Find_any (v : Value) (kit : List StageV) (n : Int) (exact : Bool) (w : World) (hr : StgRow w v kit) (hk : kitB kit n = true) :
    Calls Try.prog 142 #[v, .int .i64 n, .bool exact] w fun e w' => ∃ u, e = .returned (.tuple #[u, .bool (fdB exact kit n)]) ∧ IntRow w' u (fdL exact kit n) ∧ Below w.heap.size w w' := by
  obtain ⟨⟨ha, h8⟩, n0, n1⟩ := (kitB_iff kit n).1 hk
  have SE := Lib.hid (fun m (hm : m ≤ kit.length) w => l7SetsS_any kit.length m (by omega) hm w)
  have PK := Lib.hid (fun u xs m w1 (l : Below w.heap.size w w1) (hu : RowS w1 u xs) (hx : xs ∈ levF kit.length m) (hm : m ≤ 5) => l7Picked_any v u kit xs w1 (hr.lo l) hu.row (fun x h => lev_in _ _ xs hx x h) (by omega) (by rw [lev_len _ _ xs hx]; omega))
  have CH := Lib.hid (fun u xs m w1 (hu : StgRow w1 u (pickF kit xs)) (hx : xs ∈ levF kit.length m) (hm : m ≤ 5) => l7Chain_any u (pickF kit xs) w1 hu (pick_all ha hx) (by rw [pick_len, lev_len _ _ xs hx]; omega))
  have BD := Lib.hid (fun xs m (hx : xs ∈ levF kit.length m) (hm : m ≤ 5) => ch_bound (pick_all ha hx) (by rw [pick_len, lev_len _ _ xs hx]; omega))
  have MU := Lib.hid (fun g (g0 : 1 ≤ g) (g1 : g ≤ 254803968) => muln_bound n g (by omega) n1 g0 g1)
  have FY := Lib.hid (fun m i => found_lev exact kit n hk m i)
  have FN := Lib.hid (fun m => found_none exact kit n hk m)
  have HT := Lib.hid (fun xs m (hx : xs ∈ levF kit.length m) (hm : m ≤ 5) => hit_short (exact := exact) (kit := kit) (n := n) (show xs.length ≤ 5 by rw [lev_len _ _ xs hx]; omega))
  obtain ⟨a, c, rfl, _, hr⟩ := hr
  clear hk ha n0 n1 hr
  go_enter Try.func142, Try.ntmps142
  go_wp2
  go_loopw [8] (fun i wr => ∃ m : Nat, m ≤ kit.length + 1 ∧ m ≤ 6 ∧ i = .int .i64 m ∧ Hid (∀ xs ∈ uptoF kit.length m, hitB exact kit n xs = false) ∧ Hid (Below w.heap.size w wr)) (fun i _ => 7 - (intOf i).toNat)
  case atStart => exact ⟨0, by omega, by omega, rfl, Lib.hid (fun xs h => by simp [uptoF] at h), Lib.hid (Below.refl _ _)⟩
  case round =>
    obtain ⟨m, hm, hm6, rfl, HU, HW⟩ := hrel
    obtain ⟨wq, rfl⟩ : ∃ wq : World, wq = wr := ⟨_, rfl⟩
    by_cases hml : m ≤ kit.length
    case neg =>
      have hge : ¬ (m : Int) ≤ (kit.length : Int) := by omega
      have HF := Lib.hid (FN.out m (.inl (by omega)) HU.out)
      go_wp2
      go_ret2
      exact ⟨_, by unfold fdB; rw [HF.out]; rfl, by unfold fdL; rw [HF.out]; exact intRow_nil _ _ _, HW.out.alloc HW.out.size _⟩
    have hml' : (m : Int) ≤ (kit.length : Int) := by omega
    by_cases hm5 : m ≤ 5
    case neg =>
      have hge : ¬ (m : Int) ≤ 5 := by omega
      have HF := Lib.hid (FN.out m (.inr ⟨by omega, by omega⟩) HU.out)
      go_wp2
      go_ret2
      exact ⟨_, by unfold fdB; rw [HF.out]; rfl, by unfold fdL; rw [HF.out]; exact intRow_nil _ _ _, HW.out.alloc HW.out.size _⟩
    have hm5' : (m : Int) ≤ 5 := by omega
    have C := Lib.hid (SE.out m hml wq)
    have hsh := lev_few (show kit.length ≤ 12 by omega) m hml
    go_wp2_with fail
    refine C.out.mono ?_
    rintro e w1 ⟨u1, rfl, t1, l1⟩
    have L1 := Lib.hid (HW.out.trans (l1.mono HW.out.size))
    obtain ⟨g, off, c1, rfl, hg, hc⟩ := t1
    have HC := Lib.hid hc
    obtain ⟨M, hM⟩ : ∃ M, (levF kit.length m).length = M := ⟨_, rfl⟩
    rw [hM] at hsh HC ⊢
    have HM := Lib.hid hM
    have MEM := Lib.hid (fun i (h : i < M) => lev_at (n := kit.length) (m := m) (i := i) (by rw [hM]; exact h))
    clear hc hM l1 C
    go_wp2
    go_loopw [10] (fun i ws => ∃ k : Nat, k ≤ M ∧ i = .int .i64 k ∧ Hid (∀ j, j < k → hitB exact kit n ((levF kit.length m).getD j []) = false) ∧ Hid (Below w1.heap.size w1 ws)) (fun i _ => M - (intOf i).toNat)
    case atStart => exact ⟨0, by omega, rfl, Lib.hid (fun j h => by omega), Lib.hid (Below.refl _ _)⟩
    case round =>
      obtain ⟨k, hk, rfl, HN, HL⟩ := hrel
      obtain ⟨wx, rfl⟩ : ∃ wx : World, wx = wr := ⟨_, rfl⟩
      by_cases hkl : k < M
      · have hkl' : (k : Int) < (M : Int) := by omega
        have hmem := MEM.out k hkl
        have HFY := Lib.hid (fun hp => FY.out m k (by omega) (by rw [HM.out]; exact hkl) hp HN.out HU.out)
        obtain ⟨u, hu, hru⟩ := HC.out k hkl
        obtain ⟨L, hL⟩ : ∃ L, (levF kit.length m).getD k [] = L := ⟨_, rfl⟩
        rw [hL] at hmem HFY hru
        have HHL := Lib.hid hL
        have hcu := HL.out.cell (p := ⟨g, off + k, none⟩) hg
        rw [hu] at hcu
        have HR := Lib.hid (hru.lo HL.out)
        have HRW := Lib.hid hru
        have LW := Lib.hid (L1.out.trans (HL.out.mono L1.out.size))
        have P := Lib.hid (PK.out u L m wx LW.out HR.out hmem hm5)
        have CG := Lib.hid (fun u2 w2 h => CH.out u2 L m w2 h hmem hm5)
        have hb := BD.out L m hmem hm5
        have HH := Lib.hid (HT.out L m hmem hm5)
        obtain ⟨y, hy⟩ : ∃ y, chF (pickF kit L) = y := ⟨_, rfl⟩
        rw [hy] at CG hb HH
        obtain ⟨g1, g2⟩ := y
        simp only at CG hb
        have MB := MU.out g2 hb.2.1 hb.2.2
        have a0 : -9223372036854775808 ≤ n * g2 := by omega
        have a1 : n * g2 ≤ 9223372036854775807 := by omega
        unfold doesB at HH
        simp only at HH
        obtain ⟨gu, ou, cu, rfl, _, _⟩ := hru
        have hcl : ∀ w2, Below w1.heap.size w1 w2 → w2.cell? ⟨g, off + k, none⟩ = some (.slice (some ⟨gu, ou, none⟩) L.length cu) := fun w2 l => by rw [l.cell (p := ⟨g, off + k, none⟩) hg]; exact hu
        have HCL := Lib.hid hcl
        clear hu hy hb MB hmem hL hcl
        go_wp2_with fail
        refine P.out.mono ?_
        rintro e w2 ⟨u2, rfl, r2, l2⟩
        have HL2 := Lib.hid (HL.out.trans (l2.mono HL.out.size))
        have C2 := Lib.hid (CG.out u2 w2 r2)
        clear l2 r2 P hcu HL
        go_wp2_with fail
        refine C2.out.mono ?_
        rintro e w3 ⟨rfl, l3⟩
        have G1 := Lib.hid (cel2_new w3 g1 g2 94)
        have HL3 := Lib.hid ((HL2.out.trans (l3.mono HL2.out.size)).alloc (by have := HL2.out.size; have := l3.size; omega) (.cells #[.int .i64 g1, .int .i64 g2] 94))
        obtain ⟨_, k1, k2, _, _⟩ := G1.out
        have hcu := HCL.out _ HL3.out
        have LZ := Lib.hid (L1.out.trans (HL3.out.mono L1.out.size))
        have HRZ := Lib.hid (HRW.out.lo HL3.out)
        clear l3 C2 CG HL2 G1
        by_cases he : g1 = n * g2
        · have hq : (g1 == n * g2) = true := by simp [he]
          have HF := Lib.hid (HFY.out (by rw [HH.out, he]; simp))
          clear he HFY HH
          go_wp2
          go_ret2
          exact ⟨_, by unfold fdB; rw [HF.out]; rfl, by unfold fdL; rw [HF.out]; exact HRZ.out.row, LZ.out⟩
        · have hq : (g1 == n * g2) = false := by simpa using he
          cases exact with
          | true =>
            have HD := Lib.hid (show (decide (g1 = n * g2) || (!true && decide (n * g2 < g1))) = false by simpa using he)
            clear he HFY
            go_wp2
            go_roundw
            case rel =>
              refine ⟨k + 1, by omega, by go_num, Lib.hid (fun j hj => ?_), HL3⟩
              by_cases e : j = k
              · subst e; rw [HHL.out, HH.out]; exact HD.out
              · exact HN.out j (by omega)
            case measure => simp [intOf]; omega
          | false =>
            by_cases hgt : n * g2 < g1
            · have HF := Lib.hid (HFY.out (by rw [HH.out]; simp [hgt]))
              clear he HFY HH
              go_wp2
              go_ret2
              exact ⟨_, by unfold fdB; rw [HF.out]; rfl, by unfold fdL; rw [HF.out]; exact HRZ.out.row, LZ.out⟩
            · have HD := Lib.hid (show (decide (g1 = n * g2) || (!false && decide (n * g2 < g1))) = false by simp [he]; omega)
              clear he HFY
              go_wp2
              go_roundw
              case rel =>
                refine ⟨k + 1, by omega, by go_num, Lib.hid (fun j hj => ?_), HL3⟩
                by_cases e : j = k
                · subst e; rw [HHL.out, HH.out]; exact HD.out
                · exact HN.out j (by omega)
              case measure => simp [intOf]; omega
      · obtain rfl : k = M := by omega
        have hge : ¬ (k : Int) < (k : Int) := by omega
        have LW := Lib.hid (L1.out.trans (HL.out.mono L1.out.size))
        have HU2 := Lib.hid (show ∀ xs ∈ uptoF kit.length (m + 1), hitB exact kit n xs = false from fun xs h => by
          rw [uptoF, List.mem_append] at h
          rcases h with h | h
          · exact HU.out xs h
          · obtain ⟨j, hj, rfl⟩ := List.mem_iff_getElem.1 h
            have := HN.out j (by rw [← HM.out]; exact hj)
            simpa [List.getD, List.getElem?_eq_getElem hj] using this)
        go_wp2
        go_roundw
        case rel => exact ⟨m + 1, by omega, by omega, by go_num, HU2, LW⟩
        case measure => simp [intOf]; omega
set_option maxHeartbeats 800000 in
theorem specReachGain_any (v : Value) (kit : List StageV) (n : Int) (w : World) (hr : StgRow w v kit) (hn : kit.length ≤ 2000000) :
    Calls Try.prog 62 #[v, .int .i64 n] w fun e w' => ∃ u, e = .returned (.tuple #[u, .bool (fdB false kit n)]) ∧ IntRow w' u (fdL false kit n) ∧ Below w.heap.size w w' := by
  cases hb : kitB kit n with
  | false =>
    have C := Lib.hid (l7Kit_is v kit n false hb w hr hn)
    have HF : foundF false kit n = none := by unfold foundF; rw [hb]; rfl
    unfold fdB fdL
    rw [HF]
    clear hb HF hr hn
    go_enter Try.func62, Try.ntmps62
    go_wp2_with fail
    refine C.out.mono ?_
    rintro e w1 ⟨rfl, l⟩
    have L := Lib.hid (l.alloc (o := .cells #[] 3) l.size)
    clear l C
    go_wp2
    go_ret2
    exact ⟨_, rfl, intRow_nil _ _ _, L.out⟩
  | true =>
    have C := Lib.hid (l7Kit_is v kit n true hb w hr hn)
    have F := Lib.hid (fun w1 (l : Below w.heap.size w w1) => l7Find_any v kit n false w1 (hr.lo l) hb)
    generalize fdB false kit n = r at *
    generalize fdL false kit n = ys at *
    clear hb hr hn
    go_enter Try.func62, Try.ntmps62
    go_wp2_with fail
    refine C.out.mono ?_
    rintro e w1 ⟨rfl, l⟩
    have FF := Lib.hid (F.out w1 l)
    have L1 := Lib.hid l
    clear l C F
    go_wp2_with fail
    refine FF.out.mono ?_
    rintro e w2 ⟨u, rfl, hu, l⟩
    have L2 := Lib.hid (lo_on L1.out l)
    have HU := Lib.hid hu
    clear l FF L1 hu
    go_wp2
    go_ret2
    exact ⟨_, rfl, HU.out, L2.out⟩
theorem specExactGain_any (v : Value) (kit : List StageV) (n : Int) (w : World) (hr : StgRow w v kit) (hn : kit.length ≤ 2000000) :
    Calls Try.prog 67 #[v, .int .i64 n] w fun e w' => ∃ u, e = .returned (.tuple #[u, .bool (fdB true kit n)]) ∧ IntRow w' u (fdL true kit n) ∧ Below w.heap.size w w' := by
  cases hb : kitB kit n with
  | false =>
    have C := Lib.hid (l7Kit_is v kit n false hb w hr hn)
    have HF : foundF true kit n = none := by unfold foundF; rw [hb]; rfl
    unfold fdB fdL
    rw [HF]
    clear hb HF hr hn
    go_enter Try.func67, Try.ntmps67
    go_wp2_with fail
    refine C.out.mono ?_
    rintro e w1 ⟨rfl, l⟩
    have L := Lib.hid (l.alloc (o := .cells #[] 3) l.size)
    clear l C
    go_wp2
    go_ret2
    exact ⟨_, rfl, intRow_nil _ _ _, L.out⟩
  | true =>
    have C := Lib.hid (l7Kit_is v kit n true hb w hr hn)
    have F := Lib.hid (fun w1 (l : Below w.heap.size w w1) => l7Find_any v kit n true w1 (hr.lo l) hb)
    generalize fdB true kit n = r at *
    generalize fdL true kit n = ys at *
    clear hb hr hn
    go_enter Try.func67, Try.ntmps67
    go_wp2_with fail
    refine C.out.mono ?_
    rintro e w1 ⟨rfl, l⟩
    have FF := Lib.hid (F.out w1 l)
    have L1 := Lib.hid l
    clear l C F
    go_wp2_with fail
    refine FF.out.mono ?_
    rintro e w2 ⟨u, rfl, hu, l⟩
    have L2 := Lib.hid (lo_on L1.out l)
    have HU := Lib.hid hu
    clear l FF L1 hu
    go_wp2
    go_ret2
    exact ⟨_, rfl, HU.out, L2.out⟩
end Go.Proofs.Ytgjchkcjlmklbaa
