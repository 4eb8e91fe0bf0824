/- Lw1, LawChains, as one text. -/
import Derived.Test.YtpklccpkgefniaaGExChains4
namespace Go.Proofs.Ytpklccpkgefniaa
open Go.RowKit
set_option maxRecDepth 100000 in
set_option maxHeartbeats 12800000 in
theorem chains_walk (a0 : Option Addr) (len0 cap0 : Nat) (w : World) (hcode : CodeAt w w.heap.size a0 len0) (hin : CodeIn w a0 len0 cap0) :
    Calls Try.prog 15 #[.slice a0 len0 cap0] w fun e w' => e = .returned (.bool true) ∧ Below w.heap.size w w' := by
  have HC := Lib.hid hcode
  have CD := Lib.hid hin
  have L := Lib.hid (Below.refl w.heap.size w)
  clear hcode hin
  go_enter Try.func15, Try.ntmps15
  go_wp2_with fail
  refine (vBig_any a0 len0 cap0 w).mono ?_
  rintro e w' ⟨rfl, rfl⟩
  by_cases hbig : (65536 : Int) < (len0 : Int)
  · go_wp2
    go_ret
    exact ⟨rfl, Below.refl _ _⟩
  have hlen : len0 ≤ 65536 := by omega
  go_wp2_with fail
  refine (drawPull_any a0 len0 cap0 w HC.out).mono ?_
  rintro e w1 ⟨v, xs, n, rfl, hrow, hx6, l⟩
  have CD' := Lib.hid (CD.out.lo l)
  clear CD
  have CD := CD'
  clear CD'
  have L := Lib.hid (lo_on L.out l)
  clear l
  have CH := Lib.hid hrow
  clear hrow HC
  have K1 := Lib.hid (fun v w h => implPullFor_any v xs n w h (by omega))
  have K2 := Lib.hid (fun v w h => specPullFor_any v xs n w h (by omega))
  have K3 := Lib.hid (fun v w h => implLeastPull_any v xs n w h (by omega))
  have K4 := Lib.hid (fun v w h => specLeastPull_any v xs n w h (by omega))
  have K5 := Lib.hid (fun v w h => implMostLoad_any v xs n w h (by omega))
  have K6 := Lib.hid (fun v w h => specMostLoad_any v xs n w h (by omega))
  have K7 := Lib.hid (fun v w h => implHaulFor_any v xs n w h (by omega))
  have K8 := Lib.hid (fun v w h => specHaulFor_any v xs n w h (by omega))
  have K9 := Lib.hid (fun v w h => chainGain_any v xs w h (by omega))
  have K10 := Lib.hid (fun v w h => specChainGain_any v xs w h (by omega))
  have K11 := Lib.hid (fun v w h => implStepPulls_any v xs n w h (by omega))
  have K12 := Lib.hid (fun v w h => specStepPulls_any v xs n w h (by omega))
  have KM := Lib.hid (fun k v w h => implMostLoad_any v xs k w h (by omega))
  have RV := Lib.hid (cg_rev xs)
  have C5 := Lib.hid (show chainB xs = true → xs.length ≤ 5 from fun h => ((chainB_iff xs).1 h).2)
  have FF := Lib.hid (show FFP xs n (askB xs n) (pullF xs n) (haulF xs n) (cgF xs) (leastF xs n) (mostF xs n) from fun h => let f := askF h; ⟨⟨f.pull, f.haul⟩, f.least, f.most, f.back, f.b0, f.b1, f.b2, f.b3, f.b4, f.b5⟩)
  have SF := Lib.hid (show askB xs n = true → (spF xs n).length = xs.length + 1 ∧ (spF xs n).getD xs.length (0, 0) = pullF xs n from fun h => by
    have h1 : spF xs n = stepF xs n (xs.length + 1) := by unfold spF; rw [if_pos h]
    have h2 : pullF xs n = divF (chF xs) n := by unfold pullF; rw [h]; rfl
    rw [h1, step_len, h2, step_at xs n _ _ (by omega), List.take_length]
    exact ⟨rfl, rfl⟩)
  have SL := Lib.hid (spF_len xs n)
  obtain ⟨va, vc, rfl, _⟩ := id CH.out
  generalize pullF xs n = pu at *
  generalize askB xs n = r at *
  generalize leastF xs n = y at *
  generalize mostF xs n = z at *
  generalize haulF xs n = hu at *
  generalize cgF xs = g at *
  generalize chainB xs = b2 at *
  generalize spF xs n = sp at *
  obtain ⟨p1, p2⟩ := pu
  obtain ⟨h1, h2⟩ := hu
  obtain ⟨g1, g2⟩ := g
  simp only at K1 K2 K7 K8 K9 K10 RV
  go_wp2_with fail
  refine (K1.out (.slice va xs.length vc) w1 CH.out).mono ?_
  rintro e w2 ⟨rfl, l⟩
  have CD' := Lib.hid (CD.out.lo l)
  have CH' := Lib.hid (CH.out.lo l)
  clear CD CH
  have CD := CD'
  clear CD'
  have CH := CH'
  clear CH'
  have L := Lib.hid (lo_on L.out l)
  clear l
  clear K1
  obtain ⟨w3, hb⟩ : ∃ x, w2.alloc (.cells #[.int .i64 p1, .int .i64 p2] 28) = x := ⟨_, rfl⟩
  have BP := Lib.hid (show Cel2 w3 w2.heap.size (p1, p2) by rw [← hb]; exact cel2_new _ _ _ _)
  have l : Below w2.heap.size w2 w3 := by rw [← hb]; exact below_one _ _
  have CD' := Lib.hid (CD.out.lo l)
  have CH' := Lib.hid (CH.out.lo l)
  clear CD CH
  have CD := CD'
  clear CD'
  have CH := CH'
  clear CH'
  have L := Lib.hid (lo_on L.out l)
  clear l
  go_wp2_with fail
  clear hb
  refine (K2.out (.slice va xs.length vc) w3 CH.out).mono ?_
  rintro e w4 ⟨rfl, l⟩
  have CD' := Lib.hid (CD.out.lo l)
  have CH' := Lib.hid (CH.out.lo l)
  have BP' := Lib.hid (BP.out.lo l)
  clear CD CH BP
  have CD := CD'
  clear CD'
  have CH := CH'
  clear CH'
  have BP := BP'
  clear BP'
  have L := Lib.hid (lo_on L.out l)
  clear l
  clear K2
  obtain ⟨w5, hb⟩ : ∃ x, w4.alloc (.cells #[.int .i64 p1, .int .i64 p2] 28) = x := ⟨_, rfl⟩
  have BW := Lib.hid (show Cel2 w5 w4.heap.size (p1, p2) by rw [← hb]; exact cel2_new _ _ _ _)
  have l : Below w4.heap.size w4 w5 := by rw [← hb]; exact below_one _ _
  have CD' := Lib.hid (CD.out.lo l)
  have CH' := Lib.hid (CH.out.lo l)
  have BP' := Lib.hid (BP.out.lo l)
  clear CD CH BP
  have CD := CD'
  clear CD'
  have CH := CH'
  clear CH'
  have BP := BP'
  clear BP'
  have L := Lib.hid (lo_on L.out l)
  clear l
  go_wp2_with fail
  clear hb
  refine (K3.out (.slice va xs.length vc) w5 CH.out).mono ?_
  rintro e w6 ⟨rfl, l⟩
  have CD' := Lib.hid (CD.out.lo l)
  have CH' := Lib.hid (CH.out.lo l)
  have BP' := Lib.hid (BP.out.lo l)
  have BW' := Lib.hid (BW.out.lo l)
  clear CD CH BP BW
  have CD := CD'
  clear CD'
  have CH := CH'
  clear CH'
  have BP := BP'
  clear BP'
  have BW := BW'
  clear BW'
  have L := Lib.hid (lo_on L.out l)
  clear l
  clear K3
  go_wp2_with fail
  refine (K4.out (.slice va xs.length vc) w6 CH.out).mono ?_
  rintro e w7 ⟨rfl, l⟩
  have CD' := Lib.hid (CD.out.lo l)
  have CH' := Lib.hid (CH.out.lo l)
  have BP' := Lib.hid (BP.out.lo l)
  have BW' := Lib.hid (BW.out.lo l)
  clear CD CH BP BW
  have CD := CD'
  clear CD'
  have CH := CH'
  clear CH'
  have BP := BP'
  clear BP'
  have BW := BW'
  clear BW'
  have L := Lib.hid (lo_on L.out l)
  clear l
  clear K4
  go_wp2_with fail
  refine (K5.out (.slice va xs.length vc) w7 CH.out).mono ?_
  rintro e w8 ⟨rfl, l⟩
  have CD' := Lib.hid (CD.out.lo l)
  have CH' := Lib.hid (CH.out.lo l)
  have BP' := Lib.hid (BP.out.lo l)
  have BW' := Lib.hid (BW.out.lo l)
  clear CD CH BP BW
  have CD := CD'
  clear CD'
  have CH := CH'
  clear CH'
  have BP := BP'
  clear BP'
  have BW := BW'
  clear BW'
  have L := Lib.hid (lo_on L.out l)
  clear l
  clear K5
  go_wp2_with fail
  refine (K6.out (.slice va xs.length vc) w8 CH.out).mono ?_
  rintro e w9 ⟨rfl, l⟩
  have CD' := Lib.hid (CD.out.lo l)
  have CH' := Lib.hid (CH.out.lo l)
  have BP' := Lib.hid (BP.out.lo l)
  have BW' := Lib.hid (BW.out.lo l)
  clear CD CH BP BW
  have CD := CD'
  clear CD'
  have CH := CH'
  clear CH'
  have BP := BP'
  clear BP'
  have BW := BW'
  clear BW'
  have L := Lib.hid (lo_on L.out l)
  clear l
  clear K6
  go_wp2_with fail
  refine (K7.out (.slice va xs.length vc) w9 CH.out).mono ?_
  rintro e w10 ⟨rfl, l⟩
  have CD' := Lib.hid (CD.out.lo l)
  have CH' := Lib.hid (CH.out.lo l)
  have BP' := Lib.hid (BP.out.lo l)
  have BW' := Lib.hid (BW.out.lo l)
  clear CD CH BP BW
  have CD := CD'
  clear CD'
  have CH := CH'
  clear CH'
  have BP := BP'
  clear BP'
  have BW := BW'
  clear BW'
  have L := Lib.hid (lo_on L.out l)
  clear l
  clear K7
  obtain ⟨w11, hb⟩ : ∃ x, w10.alloc (.cells #[.int .i64 h1, .int .i64 h2] 28) = x := ⟨_, rfl⟩
  have BH := Lib.hid (show Cel2 w11 w10.heap.size (h1, h2) by rw [← hb]; exact cel2_new _ _ _ _)
  have l : Below w10.heap.size w10 w11 := by rw [← hb]; exact below_one _ _
  have CD' := Lib.hid (CD.out.lo l)
  have CH' := Lib.hid (CH.out.lo l)
  have BP' := Lib.hid (BP.out.lo l)
  have BW' := Lib.hid (BW.out.lo l)
  clear CD CH BP BW
  have CD := CD'
  clear CD'
  have CH := CH'
  clear CH'
  have BP := BP'
  clear BP'
  have BW := BW'
  clear BW'
  have L := Lib.hid (lo_on L.out l)
  clear l
  go_wp2_with fail
  clear hb
  refine (K8.out (.slice va xs.length vc) w11 CH.out).mono ?_
  rintro e w12 ⟨rfl, l⟩
  have CD' := Lib.hid (CD.out.lo l)
  have CH' := Lib.hid (CH.out.lo l)
  have BP' := Lib.hid (BP.out.lo l)
  have BW' := Lib.hid (BW.out.lo l)
  have BH' := Lib.hid (BH.out.lo l)
  clear CD CH BP BW BH
  have CD := CD'
  clear CD'
  have CH := CH'
  clear CH'
  have BP := BP'
  clear BP'
  have BW := BW'
  clear BW'
  have BH := BH'
  clear BH'
  have L := Lib.hid (lo_on L.out l)
  clear l
  clear K8
  obtain ⟨w13, hb⟩ : ∃ x, w12.alloc (.cells #[.int .i64 h1, .int .i64 h2] 28) = x := ⟨_, rfl⟩
  have BI := Lib.hid (show Cel2 w13 w12.heap.size (h1, h2) by rw [← hb]; exact cel2_new _ _ _ _)
  have l : Below w12.heap.size w12 w13 := by rw [← hb]; exact below_one _ _
  have CD' := Lib.hid (CD.out.lo l)
  have CH' := Lib.hid (CH.out.lo l)
  have BP' := Lib.hid (BP.out.lo l)
  have BW' := Lib.hid (BW.out.lo l)
  have BH' := Lib.hid (BH.out.lo l)
  clear CD CH BP BW BH
  have CD := CD'
  clear CD'
  have CH := CH'
  clear CH'
  have BP := BP'
  clear BP'
  have BW := BW'
  clear BW'
  have BH := BH'
  clear BH'
  have L := Lib.hid (lo_on L.out l)
  clear l
  go_wp2_with fail
  clear hb
  refine (K9.out (.slice va xs.length vc) w13 CH.out).mono ?_
  rintro e w14 ⟨rfl, l⟩
  have CD' := Lib.hid (CD.out.lo l)
  have CH' := Lib.hid (CH.out.lo l)
  have BP' := Lib.hid (BP.out.lo l)
  have BW' := Lib.hid (BW.out.lo l)
  have BH' := Lib.hid (BH.out.lo l)
  have BI' := Lib.hid (BI.out.lo l)
  clear CD CH BP BW BH BI
  have CD := CD'
  clear CD'
  have CH := CH'
  clear CH'
  have BP := BP'
  clear BP'
  have BW := BW'
  clear BW'
  have BH := BH'
  clear BH'
  have BI := BI'
  clear BI'
  have L := Lib.hid (lo_on L.out l)
  clear l
  clear K9
  obtain ⟨w15, hb⟩ : ∃ x, w14.alloc (.cells #[.int .i64 g1, .int .i64 g2] 28) = x := ⟨_, rfl⟩
  have BG := Lib.hid (show Cel2 w15 w14.heap.size (g1, g2) by rw [← hb]; exact cel2_new _ _ _ _)
  have l : Below w14.heap.size w14 w15 := by rw [← hb]; exact below_one _ _
  have CD' := Lib.hid (CD.out.lo l)
  have CH' := Lib.hid (CH.out.lo l)
  have BP' := Lib.hid (BP.out.lo l)
  have BW' := Lib.hid (BW.out.lo l)
  have BH' := Lib.hid (BH.out.lo l)
  have BI' := Lib.hid (BI.out.lo l)
  clear CD CH BP BW BH BI
  have CD := CD'
  clear CD'
  have CH := CH'
  clear CH'
  have BP := BP'
  clear BP'
  have BW := BW'
  clear BW'
  have BH := BH'
  clear BH'
  have BI := BI'
  clear BI'
  have L := Lib.hid (lo_on L.out l)
  clear l
  go_wp2_with fail
  clear hb
  refine (K10.out (.slice va xs.length vc) w15 CH.out).mono ?_
  rintro e w16 ⟨rfl, l⟩
  have CD' := Lib.hid (CD.out.lo l)
  have CH' := Lib.hid (CH.out.lo l)
  have BP' := Lib.hid (BP.out.lo l)
  have BW' := Lib.hid (BW.out.lo l)
  have BH' := Lib.hid (BH.out.lo l)
  have BI' := Lib.hid (BI.out.lo l)
  have BG' := Lib.hid (BG.out.lo l)
  clear CD CH BP BW BH BI BG
  have CD := CD'
  clear CD'
  have CH := CH'
  clear CH'
  have BP := BP'
  clear BP'
  have BW := BW'
  clear BW'
  have BH := BH'
  clear BH'
  have BI := BI'
  clear BI'
  have BG := BG'
  clear BG'
  have L := Lib.hid (lo_on L.out l)
  clear l
  clear K10
  obtain ⟨w17, hb⟩ : ∃ x, w16.alloc (.cells #[.int .i64 g1, .int .i64 g2] 28) = x := ⟨_, rfl⟩
  have BJ := Lib.hid (show Cel2 w17 w16.heap.size (g1, g2) by rw [← hb]; exact cel2_new _ _ _ _)
  have l : Below w16.heap.size w16 w17 := by rw [← hb]; exact below_one _ _
  have CD' := Lib.hid (CD.out.lo l)
  have CH' := Lib.hid (CH.out.lo l)
  have BP' := Lib.hid (BP.out.lo l)
  have BW' := Lib.hid (BW.out.lo l)
  have BH' := Lib.hid (BH.out.lo l)
  have BI' := Lib.hid (BI.out.lo l)
  have BG' := Lib.hid (BG.out.lo l)
  clear CD CH BP BW BH BI BG
  have CD := CD'
  clear CD'
  have CH := CH'
  clear CH'
  have BP := BP'
  clear BP'
  have BW := BW'
  clear BW'
  have BH := BH'
  clear BH'
  have BI := BI'
  clear BI'
  have BG := BG'
  clear BG'
  have L := Lib.hid (lo_on L.out l)
  clear l
  go_wp2_with fail
  clear hb
  refine (K11.out (.slice va xs.length vc) w17 CH.out).mono ?_
  rintro e w18 ⟨s1, rfl, m1, l⟩
  have CD' := Lib.hid (CD.out.lo l)
  have CH' := Lib.hid (CH.out.lo l)
  have BP' := Lib.hid (BP.out.lo l)
  have BW' := Lib.hid (BW.out.lo l)
  have BH' := Lib.hid (BH.out.lo l)
  have BI' := Lib.hid (BI.out.lo l)
  have BG' := Lib.hid (BG.out.lo l)
  have BJ' := Lib.hid (BJ.out.lo l)
  clear CD CH BP BW BH BI BG BJ
  have CD := CD'
  clear CD'
  have CH := CH'
  clear CH'
  have BP := BP'
  clear BP'
  have BW := BW'
  clear BW'
  have BH := BH'
  clear BH'
  have BI := BI'
  clear BI'
  have BG := BG'
  clear BG'
  have BJ := BJ'
  clear BJ'
  have L := Lib.hid (lo_on L.out l)
  clear l
  clear K11
  have M1 := Lib.hid m1.row
  clear m1
  go_wp2_with fail
  refine (K12.out (.slice va xs.length vc) w18 CH.out).mono ?_
  rintro e w19 ⟨s2, rfl, m2, l⟩
  have CD' := Lib.hid (CD.out.lo l)
  have CH' := Lib.hid (CH.out.lo l)
  have BP' := Lib.hid (BP.out.lo l)
  have BW' := Lib.hid (BW.out.lo l)
  have BH' := Lib.hid (BH.out.lo l)
  have BI' := Lib.hid (BI.out.lo l)
  have BG' := Lib.hid (BG.out.lo l)
  have BJ' := Lib.hid (BJ.out.lo l)
  have M1' := Lib.hid (M1.out.lo l)
  clear CD CH BP BW BH BI BG BJ M1
  have CD := CD'
  clear CD'
  have CH := CH'
  clear CH'
  have BP := BP'
  clear BP'
  have BW := BW'
  clear BW'
  have BH := BH'
  clear BH'
  have BI := BI'
  clear BI'
  have BG := BG'
  clear BG'
  have BJ := BJ'
  clear BJ'
  have M1 := M1'
  clear M1'
  have L := Lib.hid (lo_on L.out l)
  clear l
  clear K12
  have M2 := Lib.hid m2.row
  clear m2
  go_wp2_with fail
  refine (vCut_any a0 len0 cap0 w19 CD.out hlen).mono ?_
  rintro e w20 ⟨ca, cl, cc, rfl, hcc, l⟩
  have CD' := Lib.hid (CD.out.lo l)
  have CH' := Lib.hid (CH.out.lo l)
  have BP' := Lib.hid (BP.out.lo l)
  have BW' := Lib.hid (BW.out.lo l)
  have BH' := Lib.hid (BH.out.lo l)
  have BI' := Lib.hid (BI.out.lo l)
  have BG' := Lib.hid (BG.out.lo l)
  have BJ' := Lib.hid (BJ.out.lo l)
  have M1' := Lib.hid (M1.out.lo l)
  have M2' := Lib.hid (M2.out.lo l)
  clear CD CH BP BW BH BI BG BJ M1 M2
  have CD := CD'
  clear CD'
  have CH := CH'
  clear CH'
  have BP := BP'
  clear BP'
  have BW := BW'
  clear BW'
  have BH := BH'
  clear BH'
  have BI := BI'
  clear BI'
  have BG := BG'
  clear BG'
  have BJ := BJ'
  clear BJ'
  have M1 := M1'
  clear M1'
  have M2 := M2'
  clear M2'
  have L := Lib.hid (lo_on L.out l)
  clear l
  go_wp2_with fail
  refine (drawLever_any ca cl cc w20 hcc).mono ?_
  rintro e w21 ⟨s, fw, fm, rfl, l⟩
  have CD' := Lib.hid (CD.out.lo l)
  have CH' := Lib.hid (CH.out.lo l)
  have BP' := Lib.hid (BP.out.lo l)
  have BW' := Lib.hid (BW.out.lo l)
  have BH' := Lib.hid (BH.out.lo l)
  have BI' := Lib.hid (BI.out.lo l)
  have BG' := Lib.hid (BG.out.lo l)
  have BJ' := Lib.hid (BJ.out.lo l)
  have M1' := Lib.hid (M1.out.lo l)
  have M2' := Lib.hid (M2.out.lo l)
  clear CD CH BP BW BH BI BG BJ M1 M2
  have CD := CD'
  clear CD'
  have CH := CH'
  clear CH'
  have BP := BP'
  clear BP'
  have BW := BW'
  clear BW'
  have BH := BH'
  clear BH'
  have BI := BI'
  clear BI'
  have BG := BG'
  clear BG'
  have BJ := BJ'
  clear BJ'
  have M1 := M1'
  clear M1'
  have M2 := M2'
  clear M2'
  have L := Lib.hid (lo_on L.out l)
  clear l
  clear hcc
  have J1 := Lib.hid (fun w => implLever_any s fw fm w)
  have J2 := Lib.hid (fun w => specLever_any s fw fm w)
  have JB := Lib.hid (show lvB s fw fm = true → (s.k = 1 ∧ (1 ≤ s.a ∧ s.a ≤ 24) ∧ 1 ≤ s.b ∧ s.b ≤ 24) ∧ (1 ≤ fw ∧ fw ≤ 99) ∧ 1 ≤ fm ∧ fm ≤ 99 from fun h => by
    unfold lvB at h
    simp only [Bool.and_eq_true, decide_eq_true_eq] at h
    obtain ⟨⟨⟨hs, hk⟩, hf⟩, hm⟩ := h
    refine ⟨⟨hk, ?_⟩, hf, hm⟩
    obtain ⟨x, y, z⟩ := s
    simp only at hk
    subst hk
    exact lv_small y z hs)
  have JF := Lib.hid (show lvB s fw fm = true → lvF s fw fm = [(30 - s.b, fw), (30 + s.a, fm)] from fun h => by unfold lvF; rw [if_pos h])
  have JL := Lib.hid (lvF_len s fw fm)
  obtain ⟨sk, sa, sb⟩ := s
  simp only at J1 J2 JB JF
  generalize lvB ⟨sk, sa, sb⟩ fw fm = b4 at *
  generalize lvF ⟨sk, sa, sb⟩ fw fm = rl at *
  obtain ⟨w22, hb⟩ : ∃ x, w21.alloc (.cells #[.int .i64 sk, .int .i64 sa, .int .i64 sb] 25) = x := ⟨_, rfl⟩
  have BS := Lib.hid (show Cel3 w22 w21.heap.size (.int .i64 sk) (.int .i64 sa) (.int .i64 sb) by rw [← hb]; exact cel3_new _ _ _ _ _)
  have l : Below w21.heap.size w21 w22 := by rw [← hb]; exact below_one _ _
  have CD' := Lib.hid (CD.out.lo l)
  have CH' := Lib.hid (CH.out.lo l)
  have BP' := Lib.hid (BP.out.lo l)
  have BW' := Lib.hid (BW.out.lo l)
  have BH' := Lib.hid (BH.out.lo l)
  have BI' := Lib.hid (BI.out.lo l)
  have BG' := Lib.hid (BG.out.lo l)
  have BJ' := Lib.hid (BJ.out.lo l)
  have M1' := Lib.hid (M1.out.lo l)
  have M2' := Lib.hid (M2.out.lo l)
  clear CD CH BP BW BH BI BG BJ M1 M2
  have CD := CD'
  clear CD'
  have CH := CH'
  clear CH'
  have BP := BP'
  clear BP'
  have BW := BW'
  clear BW'
  have BH := BH'
  clear BH'
  have BI := BI'
  clear BI'
  have BG := BG'
  clear BG'
  have BJ := BJ'
  clear BJ'
  have M1 := M1'
  clear M1'
  have M2 := M2'
  clear M2'
  have L := Lib.hid (lo_on L.out l)
  clear l
  obtain ⟨_, BSa, BSb, BSc⟩ := BS.out
  go_wp2_with fail
  clear hb BSa BSb BSc
  refine (J1.out w22).mono ?_
  rintro e w23 ⟨rv1, rfl, q1, l⟩
  have CD' := Lib.hid (CD.out.lo l)
  have CH' := Lib.hid (CH.out.lo l)
  have BP' := Lib.hid (BP.out.lo l)
  have BW' := Lib.hid (BW.out.lo l)
  have BH' := Lib.hid (BH.out.lo l)
  have BI' := Lib.hid (BI.out.lo l)
  have BG' := Lib.hid (BG.out.lo l)
  have BJ' := Lib.hid (BJ.out.lo l)
  have M1' := Lib.hid (M1.out.lo l)
  have M2' := Lib.hid (M2.out.lo l)
  have BS' := Lib.hid (BS.out.lo l)
  clear CD CH BP BW BH BI BG BJ M1 M2 BS
  have CD := CD'
  clear CD'
  have CH := CH'
  clear CH'
  have BP := BP'
  clear BP'
  have BW := BW'
  clear BW'
  have BH := BH'
  clear BH'
  have BI := BI'
  clear BI'
  have BG := BG'
  clear BG'
  have BJ := BJ'
  clear BJ'
  have M1 := M1'
  clear M1'
  have M2 := M2'
  clear M2'
  have BS := BS'
  clear BS'
  have L := Lib.hid (lo_on L.out l)
  clear l
  have Q1 := Lib.hid q1.row
  clear q1 J1
  obtain ⟨_, BSa, BSb, BSc⟩ := BS.out
  go_wp2_with fail
  clear BSa BSb BSc
  refine (J2.out w23).mono ?_
  rintro e w24 ⟨rv2, rfl, q2, l⟩
  have CD' := Lib.hid (CD.out.lo l)
  have CH' := Lib.hid (CH.out.lo l)
  have BP' := Lib.hid (BP.out.lo l)
  have BW' := Lib.hid (BW.out.lo l)
  have BH' := Lib.hid (BH.out.lo l)
  have BI' := Lib.hid (BI.out.lo l)
  have BG' := Lib.hid (BG.out.lo l)
  have BJ' := Lib.hid (BJ.out.lo l)
  have M1' := Lib.hid (M1.out.lo l)
  have M2' := Lib.hid (M2.out.lo l)
  have BS' := Lib.hid (BS.out.lo l)
  have Q1' := Lib.hid (Q1.out.lo l)
  clear CD CH BP BW BH BI BG BJ M1 M2 BS Q1
  have CD := CD'
  clear CD'
  have CH := CH'
  clear CH'
  have BP := BP'
  clear BP'
  have BW := BW'
  clear BW'
  have BH := BH'
  clear BH'
  have BI := BI'
  clear BI'
  have BG := BG'
  clear BG'
  have BJ := BJ'
  clear BJ'
  have M1 := M1'
  clear M1'
  have M2 := M2'
  clear M2'
  have BS := BS'
  clear BS'
  have Q1 := Q1'
  clear Q1'
  have L := Lib.hid (lo_on L.out l)
  clear l
  have Q2 := Lib.hid q2.row
  clear q2 J2
  have E1 := fun w => eq_pair p1 p2 p1 p2 w
  rw [show ((p1 == p1) && (p2 == p2)) = true by simp] at E1
  have E2 := fun w => eq_pair h1 h2 h1 h2 w
  rw [show ((h1 == h1) && (h2 == h2)) = true by simp] at E2
  have E3 := fun w => eq_pair g1 g2 g1 g2 w
  rw [show ((g1 == g1) && (g2 == g2)) = true by simp] at E3
  have nr : (r != r) = false := by simp
  have ny : (y != y) = false := by simp
  have nz : (z != z) = false := by simp
  have n2 : (b2 != b2) = false := by simp
  have n4 : (b4 != b4) = false := by simp
  obtain ⟨_, BPa, BPb, _, _⟩ := BP.out
  obtain ⟨_, BWa, BWb, _, _⟩ := BW.out
  obtain ⟨_, BHa, BHb, _, _⟩ := BH.out
  obtain ⟨_, BIa, BIb, _, _⟩ := BI.out
  obtain ⟨_, BGa, BGb, _, _⟩ := BG.out
  obtain ⟨_, BJa, BJb, _, _⟩ := BJ.out
  go_wp2_with fail
  clear BPa BPb BWa BWb BHa BHb BIa BIb BGa BGb BJa BJb
  refine (vPairs_lo s1 s2 sp w24 M1.out M2.out (by have := SL.out; omega)).mono ?_
  rintro e w25 ⟨rfl, l⟩
  have CD' := Lib.hid (CD.out.lo l)
  have CH' := Lib.hid (CH.out.lo l)
  have BP' := Lib.hid (BP.out.lo l)
  have BW' := Lib.hid (BW.out.lo l)
  have BH' := Lib.hid (BH.out.lo l)
  have BI' := Lib.hid (BI.out.lo l)
  have BG' := Lib.hid (BG.out.lo l)
  have BJ' := Lib.hid (BJ.out.lo l)
  have M1' := Lib.hid (M1.out.lo l)
  have M2' := Lib.hid (M2.out.lo l)
  have BS' := Lib.hid (BS.out.lo l)
  have Q1' := Lib.hid (Q1.out.lo l)
  have Q2' := Lib.hid (Q2.out.lo l)
  clear CD CH BP BW BH BI BG BJ M1 M2 BS Q1 Q2
  have CD := CD'
  clear CD'
  have CH := CH'
  clear CH'
  have BP := BP'
  clear BP'
  have BW := BW'
  clear BW'
  have BH := BH'
  clear BH'
  have BI := BI'
  clear BI'
  have BG := BG'
  clear BG'
  have BJ := BJ'
  clear BJ'
  have M1 := M1'
  clear M1'
  have M2 := M2'
  clear M2'
  have BS := BS'
  clear BS'
  have Q1 := Q1'
  clear Q1'
  have Q2 := Q2'
  clear Q2'
  have L := Lib.hid (lo_on L.out l)
  clear l
  go_wp2_with fail
  refine (vRow_lo rv1 rv2 rl w25 Q1.out Q2.out JL.out).mono ?_
  rintro e w26 ⟨rfl, l⟩
  have CD' := Lib.hid (CD.out.lo l)
  have CH' := Lib.hid (CH.out.lo l)
  have BP' := Lib.hid (BP.out.lo l)
  have BW' := Lib.hid (BW.out.lo l)
  have BH' := Lib.hid (BH.out.lo l)
  have BI' := Lib.hid (BI.out.lo l)
  have BG' := Lib.hid (BG.out.lo l)
  have BJ' := Lib.hid (BJ.out.lo l)
  have M1' := Lib.hid (M1.out.lo l)
  have M2' := Lib.hid (M2.out.lo l)
  have BS' := Lib.hid (BS.out.lo l)
  have Q1' := Lib.hid (Q1.out.lo l)
  have Q2' := Lib.hid (Q2.out.lo l)
  clear CD CH BP BW BH BI BG BJ M1 M2 BS Q1 Q2
  have CD := CD'
  clear CD'
  have CH := CH'
  clear CH'
  have BP := BP'
  clear BP'
  have BW := BW'
  clear BW'
  have BH := BH'
  clear BH'
  have BI := BI'
  clear BI'
  have BG := BG'
  clear BG'
  have BJ := BJ'
  clear BJ'
  have M1 := M1'
  clear M1'
  have M2 := M2'
  clear M2'
  have BS := BS'
  clear BS'
  have Q1 := Q1'
  clear Q1'
  have Q2 := Q2'
  clear Q2'
  have L := Lib.hid (lo_on L.out l)
  clear l
  clear E1 E2 E3 nr ny nz n2 n4 M2 Q2 BW BI BJ JL
  go_upto_if 229 with (fail)
  exact chains19 w _ xs n r p1 p2 h1 h2 g1 g2 y z sp va vc _ _ _ s1 CH BP BH BG M1 L hx6 FF SF KM b2 RV C5 sk sa sb fw fm rl b4 _ rv1 BS Q1 JB JF (by assumption)
end Go.Proofs.Ytpklccpkgefniaa
namespace Go.Proofs.Ytpklccpkgefniaa
open Go.RowKit
theorem codeIn_of_row {w : World} {a : Option Addr} {len cap : Nat} {zs : List Int}
    (h : (a = none ∧ len = 0 ∧ cap = 0 ∧ zs = []) ∨ ∃ x, a = some x ∧ len ≤ cap ∧ cap ≤ maxLen ∧ zs.length = cap ∧ (∀ i, i < zs.length → w.cell? (x.add i) = some (.int .u8 (zs.getD i 0))) ∧ ∀ n ∈ zs, (Lit.int .u8 n).wf = true) :
    CodeIn w a len cap := by
  rcases h with ⟨rfl, rfl, rfl, _⟩ | ⟨⟨b, off, spot⟩, rfl, hl, _, hz, hc, hw⟩
  · exact ⟨Nat.le_refl _, .inl ⟨rfl, rfl, rfl⟩⟩
  · refine ⟨hl, .inr ⟨_, rfl, ?_, zs.take len, ?_, ?_, ?_⟩⟩
    · by_cases h0 : len = 0
      · exact .inl h0
      · have hc0 := hc 0 (by omega)
        have hs : spot = none := by simpa [Addr.add] using World.cell?_spot hc0
        subst hs
        rw [Go.WideShapes.add_plain] at hc0
        exact .inr ⟨b, off, rfl, block_lt hc0⟩
    · rw [List.length_take]; omega
    · intro i hi
      rw [hc i (by omega)]
      simp [List.getD, hi]
    · intro z hz'
      exact bounds_u8 (hw z (List.mem_of_mem_take hz'))
end Go.Proofs.Ytpklccpkgefniaa
