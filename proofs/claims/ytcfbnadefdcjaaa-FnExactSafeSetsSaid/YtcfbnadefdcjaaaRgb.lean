/- The contract of the program's SafeSets. -/
import Derived.Test.YtcfbnadefdcjaaaRga
import Derived.Deep.RegionLaw
namespace Go.Proofs.Ytcfbnadefdcjaaa
open Go.RowKit
theorem lev_set {n m : Nat} {xs : List Int} (h : xs ∈ levF n m) : setB n xs = true := by
  rw [setB_iff]
  intro i hi
  have hin := fun x hx => lev_in n m xs h x hx
  refine ⟨hin _ (by rw [List.getD, List.getElem?_eq_getElem hi, Option.getD_some]; exact List.getElem_mem _), ?_⟩
  have key : ∀ (m : Nat) (xs : List Int), xs ∈ levF n m → ∀ i, i < xs.length → 0 < i → xs.getD (i - 1) 0 < xs.getD i 0 := by
    intro m
    induction m with
    | zero => intro xs h i hi; simp [levF] at h; subst h; simp at hi
    | succ m ih =>
      intro xs h i hi h0
      simp only [levF, List.mem_flatMap, kidsF, List.mem_map, List.mem_range] at h
      obtain ⟨ys, hy, j, _, rfl⟩ := h
      have hyl := lev_len n m ys hy
      rw [List.length_append] at hi
      simp only [List.length_cons, List.length_nil] at hi
      by_cases e : i < ys.length
      · have e1 : (ys ++ [nxF ys + (j : Int)]).getD i 0 = ys.getD i 0 := by simp only [List.getD]; rw [List.getElem?_append_left e]
        have e2 : (ys ++ [nxF ys + (j : Int)]).getD (i - 1) 0 = ys.getD (i - 1) 0 := by simp only [List.getD]; rw [List.getElem?_append_left (by omega)]
        rw [e1, e2]
        exact ih ys hy i e h0
      · have hi2 : i = ys.length := by omega
        subst hi2
        have e1 : (ys ++ [nxF ys + (j : Int)]).getD ys.length 0 = nxF ys + j := by simp [List.getD]
        have e2 : (ys ++ [nxF ys + (j : Int)]).getD (ys.length - 1) 0 = ys.getD (ys.length - 1) 0 := by simp only [List.getD]; rw [List.getElem?_append_left (by omega)]
        rw [e1, e2]
        unfold nxF
        rw [if_neg (by omega)]
        omega
  exact key m xs h i hi
set_option maxRecDepth 100000 in
set_option maxHeartbeats 6400000 in
theorem implSets_any (a b o : Int) (v : Value) (row : List (Int × Int)) (w : World) (hr : LoadRow w v row) :
    Calls Try.prog 34 #[.agg #[.int .i64 a, .int .i64 b, .int .i64 o], v] w fun e w' => e = .returned (.tuple #[.int .i64 (ssF a b o row : Nat), .bool (cargoB a b o row)]) ∧ Below w.heap.size w w' := by
  unfold ssF
  have C1 := Lib.hid (fun w1 (l : Below w.heap.size w w1) => canTake_any a b o v row w1 (hr.lo l))
  cases hcb : cargoB a b o row with
  | false =>
    rw [hcb] at C1
    obtain ⟨av, cv, rfl, _⟩ := hr
    clear hcb
    go_enter Try.func34, Try.ntmps34
    go_wp2_with fail
    refine (C1.out _ (below_one _ _)).mono ?_
    rintro e w1 ⟨rfl, l⟩
    have L1 := Lib.hid ((below_one w (.cells #[.int .i64 a, .int .i64 b, .int .i64 o] 25)).trans (l.mono (by simp)))
    clear l C1
    go_wp2
    go_ret2
    exact ⟨rfl, L1.out⟩
  | true =>
    rw [hcb] at C1
    obtain ⟨hrb, h8, hz⟩ := (cargoB_iff _ _ _ _).1 hcb
    have AS := Lib.hid (fun w1 => asc_any row.length (by omega) w1)
    have HSET := Lib.hid (fun k (hk : k < (everyF row.length).length) => show ∃ m, m ≤ row.length ∧ ((everyF row.length).getD k []) ∈ levF row.length m from every_mem hk)
    have DK := Lib.hid (fun (u : Value) (xs : List Int) (W : World) (l : Below w.heap.size w W) (h : IntRow W u xs) (hs : setB row.length xs = true) => deckOf_any v u row xs W (hr.lo l) h h8 hs)
    have SF := Lib.hid (fun xs W => isSafe_any a b o (deckL row (codeF xs)) (deckL_G hz _) hrb W)
    have CS := Lib.hid (fun k hk => cntL2_succ (safeF a b o) row k hk)
    have CL := Lib.hid (fun k => cntL2_le (safeF a b o) row k)
    have hel := every_len (n := row.length) (by omega)
    simp only [if_true]
    have HE := Lib.hid (cnt_same (safeF a b o) h8)
    have h0 : cntL2 (safeF a b o) row 0 = 0 := by unfold cntL2; rw [List.take_zero]; rfl
    obtain ⟨sg, hsg⟩ : ∃ sg : List Int → Bool, ∀ xs, safeF a b o (deckL row (codeF xs)) = sg xs := ⟨fun xs => safeF a b o (deckL row (codeF xs)), fun _ => rfl⟩
    have CS2 := Lib.hid (fun k hk => (CS.out k hk).trans (by rw [hsg]))
    have SF2 := Lib.hid (fun xs W => by have := SF.out xs W; rw [hsg xs] at this; exact this)
    generalize hcn : cntL2 (safeF a b o) row = cn at *
    obtain ⟨n, hnn⟩ : ∃ n, row.length = n := ⟨_, rfl⟩
    rw [hnn] at AS HSET CS2 hel HE h8 DK
    obtain ⟨av, cv, rfl, _⟩ := hr
    rw [hnn] at C1 DK ⊢
    obtain ⟨R, hR⟩ : ∃ R, cntS (safeF a b o) row (2 ^ n) = R := ⟨_, rfl⟩
    rw [hR] at HE ⊢
    clear hcb CS SF hcn hsg hz hrb hR hnn
    go_enter Try.func34, Try.ntmps34
    go_wp2_with fail
    refine (C1.out _ (below_one _ _)).mono ?_
    rintro e w1 ⟨rfl, l⟩
    have L1 := Lib.hid ((below_one w (.cells #[.int .i64 a, .int .i64 b, .int .i64 o] 25)).trans (l.mono (by simp)))
    have BX := Lib.hid (show Cel3R w1 w.heap.size (.int .i64 a) (.int .i64 b) (.int .i64 o) from (cel3R_new w _ _ _ 25).lo l)
    clear l C1
    go_wp2_with fail
    refine (AS.out _).mono ?_
    rintro e w2 ⟨vt, rfl, ⟨us, ht⟩, l⟩
    have HT := Lib.hid ht
    have L2 := Lib.hid (lo_on L1.out l)
    have BX2 := Lib.hid (BX.out.lo l)
    have hs1 : w.heap.size ≤ w1.heap.size := L1.out.size
    clear l AS ht BX L1
    obtain ⟨gt, ct, hvt, hgB, hgt, hop⟩ := HT.out.1.open
    subst hvt
    clear hop
    obtain ⟨M, hM⟩ : ∃ M, (everyF n).length = M := ⟨_, rfl⟩
    rw [hM]
    have HMM := Lib.hid hM
    rw [hM] at hel HE
    go_wp2
    go_loopw [6, 17] (fun x i wr => ∃ k : Nat, k ≤ M ∧ x = .int .i64 (cn k : Nat) ∧ i = .int .i64 k ∧ Hid (Below w2.heap.size w2 wr)) (fun _ i _ => M - (intOf i).toNat)
    case atStart => exact ⟨0, Nat.zero_le _, by rw [h0]; rfl, rfl, Lib.hid (Below.refl _ _)⟩
    case round =>
      obtain ⟨k, hk, rfl, rfl, HW⟩ := hrel
      by_cases hlt : k < M
      · have hlt' : (k : Int) < (M : Int) := by omega
        have HO := HT.out.lo HW.out
        obtain ⟨g3, c3, hv3, _, _, hop⟩ := HO.1.open
        cases hv3
        obtain ⟨u, huk, hcu, hin⟩ := hop k (by rw [HMM.out]; exact hlt)
        obtain ⟨m, hm, hmem⟩ := HSET.out k (by rw [HMM.out]; exact hlt)
        have hcs := CS2.out k (by rw [HMM.out]; exact hlt)
        have hcl := CL.out k
        obtain ⟨L, hL⟩ : ∃ L, (everyF n).getD k [] = L := ⟨_, rfl⟩
        rw [hL] at hmem hin hcs
        have hset := lev_set hmem
        have LQ := Lib.hid (lo_on L2.out HW.out)
        have D1 := Lib.hid (DK.out u L)
        have HINr := Lib.hid hin.row.row
        have S1 := Lib.hid (SF2.out L)
        have HSETL := Lib.hid hset
        have BX3 := Lib.hid (fun W (l : Below wr.heap.size wr W) => (BX2.out.lo HW.out).lo l)
        obtain ⟨_, k0, k1, k2⟩ := BX3.out wr (Below.refl _ _)
        obtain ⟨x, hx⟩ : ∃ x, cn k = x := ⟨_, rfl⟩
        obtain ⟨y, hy⟩ : ∃ y, cn (k + 1) = y := ⟨_, rfl⟩
        have HY := Lib.hid hy
        rw [hx, hy] at hcs
        rw [hx] at hcl ⊢
        obtain ⟨r, hrr⟩ : ∃ r, sg L = r := ⟨_, rfl⟩
        rw [hrr] at S1 hcs
        obtain ⟨ua, ul, uc, rfl⟩ : ∃ ua ul uc, u = .slice ua ul uc := by obtain ⟨gu, cu, e, _⟩ := hin; exact ⟨_, _, _, e⟩
        clear hx hy hrr hop huk hm hmem hL hin hset HO
        generalize deckV (deckL row (codeF L)) = dv at *
        cases r with
        | false =>
          simp only [Bool.false_eq_true, if_false, Nat.add_zero] at hcs
          subst hcs
          go_wp2_with fail
          go_region_law (first
            | (go_simp; go_at_call 102; refine (D1.out _ (lo_drewN LQ.out 1) (HINr.out.lo (drw1 wr)) HSETL.out).mono ?_; rintro e w3 ⟨rfl, l3⟩; have L3 := lo_on (drw1 wr) l3; obtain ⟨_, j0, j1, j2⟩ := BX3.out w3 L3)
            | (go_simp; go_at_call 101; refine (S1.out w3).mono ?_; rintro e w4 ⟨rfl, l4⟩; have L4 := lo_on L3 l4))
          all_goals
            (have LZ := Lib.hid (lo_on HW.out L4)
             clear L3 L4 l3 l4 j0 j1 j2 k0 k1 k2 D1 S1 HINr HSETL BX3 LQ
             go_wp2
             go_roundw
             case rel => exact ⟨k + 1, by omega, by rw [HY.out], by go_num, LZ⟩
             case measure => simp [intOf]; omega)
        | true =>
          simp only [if_true] at hcs
          have hxy : (x : Int) + 1 = (y : Int) := by omega
          have hwx : IntKind.i64.wrap ((x : Int) + 1) = (y : Int) := by rw [hxy]; exact (wr_64 (by omega) (by omega)).1
          clear hcs hxy
          go_wp2_with fail
          go_region_law (first
            | (go_simp; go_at_call 102; refine (D1.out _ (lo_drewN LQ.out 1) (HINr.out.lo (drw1 wr)) HSETL.out).mono ?_; rintro e w3 ⟨rfl, l3⟩; have L3 := lo_on (drw1 wr) l3; obtain ⟨_, j0, j1, j2⟩ := BX3.out w3 L3)
            | (go_simp; go_at_call 101; refine (S1.out w3).mono ?_; rintro e w4 ⟨rfl, l4⟩; have L4 := lo_on L3 l4))
          all_goals
            (have LZ := Lib.hid (lo_on HW.out L4)
             clear L3 L4 l3 l4 j0 j1 j2 k0 k1 k2 D1 S1 HINr HSETL BX3 LQ
             go_wp2
             go_roundw
             case rel => exact ⟨k + 1, by omega, by rw [HY.out], by go_num, LZ⟩
             case measure => simp [intOf]; omega)
      · obtain rfl : k = M := by omega
        have hge : ¬ (k : Int) < (k : Int) := by omega
        have LZ := Lib.hid (lo_on L2.out HW.out)
        go_wp2
        go_ret2
        exact ⟨by rw [HE.out]; rfl, LZ.out⟩
end Go.Proofs.Ytcfbnadefdcjaaa
