/- Tumbling bodies, both sides. -/
import Derived.Test.YtmcjichpeijiaaaBr3
import Derived.Test.YtmcjichpeijiaaaBr6
namespace Go.Proofs.Ytmcjichpeijiaaa
open Go.RowKit Go.Maps
set_option maxHeartbeats 800000 in
theorem cloneC_any (v : Value) (xs : List (Int × Int)) (w : World) (hr : LoadRow w v xs) (hn : xs.length ≤ 2000000) :
    Calls Try.prog 103 #[v] w fun e w' => ∃ v', e = .returned v' ∧ OwnC w' w.heap.size v' xs ∧ Below w.heap.size w w' := by
  obtain ⟨i0, hi, hz0, hz1, hz2⟩ := info_parts infoA2
  have hrow0 := ownC_lit0 w w.heap.size (Nat.le_refl _)
  have NE := fun (w : World) (a : Option Addr) (n c : Nat) => Lib.run_eql_slice_nil (P := Try.prog) w 22 29 a n c 0 0 Try.underlying22
  obtain ⟨a, c, rfl, hr⟩ := hr
  cases a with
  | none =>
    have e : xs = [] := by
      rcases hr with h | ⟨g, off, h, _⟩
      · exact h
      · cases h
    subst e
    clear hrow0
    go_enter Try.func103, Try.ntmps103
    go_wp2
    go_ret
    exact ⟨_, rfl, ownC_nil _ _, Below.refl _ _⟩
  | some a =>
    have HN := Lib.hid (show ∀ j u, (cellsF xs)[j]? = some u → (w.alloc (.cells #[] 29)).cell? (a.add j) = some u from fun j u hj => by
      rcases hr with h | ⟨g, off, h, hg, hc⟩
      · subst h; simp [cellsF] at hj
      · cases h
        exact row_cells rfl (fun j hj => by rw [(below_new w _).cell (p := ⟨g, off + j * 2, none⟩) hg, (below_new w _).cell (p := ⟨g, off + j * 2 + 1, none⟩) hg]; exact hc j hj) j u hj)
    have hcl : (cellsF xs).length = xs.length * 2 := cellsF_len xs
    clear hr
    unfold OwnC at hrow0
    go_enter Try.func103, Try.ntmps103
    go_wp2_with (at_builtin; refine wpList_append_own _ rfl _ _ 22 rfl w.heap.size 29 i0 (.agg #[.int .i64 0, .int .i64 0]) 2 16 Try.underlying22 hi hz0 hz1 hz2 rfl (by decide) _ _ _ rfl hrow0 a xs.length c (cellsF xs) rfl hcl HN.out (cellsF_one xs) (by unfold maxLen; simp only [List.length_nil]; omega) (by simp only [List.length_nil]; omega) (by simp) ?_; intro v' w3 hown' hgrow3 hnil3)
    have HO := Lib.hid (show OwnC w3 w.heap.size v' xs by
      unfold OwnC
      simpa [cellsF] using hown')
    have HL := Lib.hid (show Below w.heap.size w w3 from ((Below.refl _ _).alloc (Nat.le_refl _) _).grown hgrow3 (by simp) (fun j hj => by cases hj; exact Nat.le_refl _))
    clear hown' hgrow3 hnil3 hrow0
    go_wp2
    go_ret
    exact ⟨v', rfl, HO.out, HL.out⟩
theorem MineL.mono8 {w : World} {B E : Nat} {v : Value} {xs : List (Int × Int)} (h : MineL w B E v xs) (h2 : E ≤ w.heap.size) : MineL w B w.heap.size v xs := by
  rcases h with h | ⟨g, c, e, k1, k2, k3, r⟩
  · exact .inl h
  · exact .inr ⟨g, c, e, k1, by omega, Nat.le_refl _, r⟩
/-- After so many turns it stands, or 4. -/
def tnF (xs : List (Int × Int)) : Nat := if sideL (tumL xs 0) = 0 then 0 else if sideL (tumL xs 1) = 0 then 1 else if sideL (tumL xs 2) = 0 then 2 else if sideL (tumL xs 3) = 0 then 3 else 4
theorem tn_of {xs : List (Int × Int)} {n : Nat} (hn : n < 4) (h : ∀ k, k < n → sideL (tumL xs k) ≠ 0) (h0 : sideL (tumL xs n) = 0) : tnF xs = n := by
  unfold tnF
  rcases (show n = 0 ∨ n = 1 ∨ n = 2 ∨ n = 3 by omega) with rfl | rfl | rfl | rfl
  · rw [if_pos h0]
  · rw [if_neg (h 0 (by omega)), if_pos h0]
  · rw [if_neg (h 0 (by omega)), if_neg (h 1 (by omega)), if_pos h0]
  · rw [if_neg (h 0 (by omega)), if_neg (h 1 (by omega)), if_neg (h 2 (by omega)), if_pos h0]
theorem tn_no {xs : List (Int × Int)} (h : ∀ k, k < 4 → sideL (tumL xs k) ≠ 0) : tnF xs = 4 := by
  unfold tnF
  rw [if_neg (h 0 (by omega)), if_neg (h 1 (by omega)), if_neg (h 2 (by omega)), if_neg (h 3 (by omega))]
noncomputable def tumB (xs : List (Int × Int)) : Bool := bodB xs && decide (tnF xs < 4)
noncomputable def tumR (xs : List (Int × Int)) : List (Int × Int) := bodL (tumB xs) (tumL xs (tnF xs))
noncomputable def tumN (xs : List (Int × Int)) : Int := bodI (tumB xs) (tnF xs)
theorem tum_len (xs : List (Int × Int)) (n : Nat) : (tumL xs n).length = xs.length := by
  induction n with
  | zero => rfl
  | succ n ih => rw [tumL, turn_len, ih]
theorem tum_bad {xs : List (Int × Int)} (h : bodB xs = false) : tumB xs = false ∧ tumR xs = [] ∧ tumN xs = 0 := by
  unfold tumN tumR tumB; rw [h]; exact ⟨rfl, rfl, rfl⟩
theorem tum_yes {xs : List (Int × Int)} (h : BodF xs) {n : Nat} (hn : n < 4) (hk : ∀ k, k < n → sideL (tumL xs k) ≠ 0) (h0 : sideL (tumL xs n) = 0) : tumB xs = true ∧ tumR xs = tumL xs n ∧ tumN xs = n := by
  have e := tn_of hn hk h0
  unfold tumN tumR tumB
  rw [(bodB_iff xs).2 h, e]
  simp [hn, bodL, bodI]
theorem tum_no {xs : List (Int × Int)} (hk : ∀ k, k < 4 → sideL (tumL xs k) ≠ 0) : tumB xs = false ∧ tumR xs = [] ∧ tumN xs = 0 := by
  have e := tn_no hk
  unfold tumN tumR tumB
  rw [e]
  simp [bodL, bodI]
theorem BodF.wf {xs : List (Int × Int)} (h : BodF xs) : WfL xs := fun c hc => by
  have := h.hi c hc
  unfold WfC
  omega
set_option maxRecDepth 100000 in
set_option maxHeartbeats 3200000 in
theorem specTumbleBody_any (v : Value) (xs : List (Int × Int)) (w : World) (hr : LoadRow w v xs) :
    Calls Try.prog 39 #[v] w fun e w' => ∃ u0, e = .returned (.tuple #[u0, .int .i64 (tumN xs), .bool (tumB xs)]) ∧ LoadRow w' u0 (tumR xs) ∧ Below w.heap.size w w' := by
  have C := Lib.hid (l8Body_any v xs w hr)
  have HX := Lib.hid (bodB_iff xs)
  have HBAD := Lib.hid (fun h : bodB xs = false => tum_bad h)
  generalize bodB xs = b at *
  cases b with
  | false =>
    obtain ⟨e1, e2, e3⟩ := HBAD.out rfl
    rw [e1, e2, e3]
    obtain ⟨a, c, rfl, _⟩ := hr
    go_enter Try.func39, Try.ntmps39
    go_wp2_with fail
    refine C.out.mono ?_
    rintro e w1 ⟨rfl, l1⟩
    go_wp2
    go_ret3
    exact ⟨_, rfl, lit_row _ _, l1.alloc l1.size _⟩
  | true =>
    have hb := HX.out.1 rfl
    have DW := Lib.hid (fun w1 (l : Below w.heap.size w w1) => l8Down_any v xs w1 (hr.lo l) hb.one hb.sm (by have := hb.short; omega))
    rw [hb.same_down] at DW
    have SD := Lib.hid (fun n (h : ∀ k, k < n → sideL (tumL xs k) ≠ 0) u w1 (hu : LoadRow w1 u (tumL xs n)) => l8Side_any u _ w1 hu (tumL_bod hb n h))
    have TU := Lib.hid (fun n (h : ∀ k, k < n + 1 → sideL (tumL xs k) ≠ 0) u w1 (hu : LoadRow w1 u (tumL xs n)) => show Calls Try.prog 99 #[u, .int .i64 (sideL (tumL xs n))] w1 fun e w' => ∃ v', e = .returned v' ∧ OwnC w' w1.heap.size v' (tumL xs (n + 1)) ∧ Below w1.heap.size w1 w' from
      l8Turn_any u _ (sideL (tumL xs n)) w1 hu (tumL_bod hb n (fun k hk => h k (by omega))) (by
        rcases ovF_is (midF Prod.fst (tumL xs n)) (tumL xs n).length (gloF (tumL xs n)) (ghiF (tumL xs n)) with e | e
        · exact absurd e (h n (by omega))
        · exact e))
    have HYE := Lib.hid (fun n (hn : n < 4) (hk : ∀ k, k < n → sideL (tumL xs k) ≠ 0) (h0 : sideL (tumL xs n) = 0) => tum_yes hb hn hk h0)
    have HNO := Lib.hid (fun (hk : ∀ k, k < 4 → sideL (tumL xs k) ≠ 0) => tum_no hk)
    have H4 := Lib.hid (fun (hk : ∀ k, k < 4 → sideL (tumL xs k) ≠ 0) => tum_four hb (hk 0 (by omega)) (hk 1 (by omega)) (hk 2 (by omega)) (hk 3 (by omega)))
    have T0 := Lib.hid (show tumL xs 0 = xs from rfl)
    generalize tumB xs = tb at *
    generalize tumR xs = tr at *
    generalize tumN xs = tn at *
    generalize tumL xs = T at *
    obtain ⟨a, c, rfl, _⟩ := hr
    clear hb HX HBAD
    go_enter Try.func39, Try.ntmps39
    go_wp2_with fail
    refine C.out.mono ?_
    rintro e w1 ⟨rfl, l1⟩
    have D1 := Lib.hid (DW.out w1 l1)
    have L1 := Lib.hid l1
    clear l1
    go_wp2_with fail
    refine D1.out.mono ?_
    rintro e w2 ⟨u0, rfl, ho, l2⟩
    have O2 := Lib.hid (show OwnC w2 w.heap.size u0 (T 0) by rw [T0.out]; exact ownC_base ho L1.out.size)
    have L2 := Lib.hid (lo_on L1.out l2)
    clear ho l2 DW C D1
    go_wp2
    go_loopw [5, 6] (fun v i wr => ∃ n : Nat, n ≤ 4 ∧ i = .int .i64 n ∧ Hid (OwnC wr w.heap.size v (T n)) ∧ Hid (∀ k, k < n → sideL (T k) ≠ 0) ∧ Hid (Below w.heap.size w wr)) (fun _ i _ => 4 - (intOf i).toNat)
    case atStart => exact ⟨0, by omega, rfl, O2, Lib.hid (fun k h => by omega), L2⟩
    case round =>
      obtain ⟨n, hn4, rfl, HO, HK, HL⟩ := hrel
      clear O2 L2 L1
      have S1 := Lib.hid (SD.out n HK.out _ wr (ownC_row HO.out))
      have TN := Lib.hid (fun (h : sideL (T n) ≠ 0) => TU.out n (fun k hk => by
        by_cases e : k = n
        · subst e; exact h
        · exact HK.out k (by omega)) _ wr (ownC_row HO.out))
      have KN := Lib.hid (fun (h : sideL (T n) ≠ 0) => show ∀ k, k < n + 1 → sideL (T k) ≠ 0 from fun k hk => by
        by_cases e : k = n
        · subst e; exact h
        · exact HK.out k (by omega))
      have HYn := Lib.hid (fun (h : sideL (T n) = 0) (h4 : n < 4) => HYE.out n h4 HK.out h)
      have H4n := Lib.hid (fun (h4 : n = 4) => show sideL (T n) ≠ 0 from by subst h4; exact H4.out HK.out)
      have HNn := Lib.hid (fun (h4 : n = 4) => HNO.out (by subst h4; exact HK.out))
      have HR := Lib.hid (show LoadRow wr u5 (T n) from ownC_row HO.out)
      generalize sideL (T n) = s at *
      clear HYE HNO H4 SD TU
      by_cases hs : s = 0
      · subst hs
        have hn : n < 4 := by
          by_cases e : n < 4
          · exact e
          · exact absurd rfl (H4n.out (by omega))
        obtain ⟨rfl, rfl, rfl⟩ := HYn.out rfl hn
        go_wp2_with fail
        refine S1.out.mono ?_
        rintro e w' ⟨rfl, rfl⟩
        go_wp2_with fail
        refine S1.out.mono ?_
        rintro e w' ⟨rfl, rfl⟩
        go_wp2
        go_ret3
        exact ⟨_, rfl, HR.out, HL.out⟩
      · have hs1 : (s == 0) = false := by simpa using hs
        have hs2 : (s != 0) = true := by simpa using hs
        by_cases hn : n < 4
        · have hn' : (n : Int) < 4 := by omega
          have T1 := Lib.hid (TN.out hs)
          have K1 := Lib.hid (KN.out hs)
          clear TN KN HYn H4n HNn HR
          go_wp2_with fail
          refine S1.out.mono ?_
          rintro e w' ⟨rfl, rfl⟩
          go_wp2_with fail
          refine S1.out.mono ?_
          rintro e w' ⟨rfl, rfl⟩
          go_wp2_with fail
          refine T1.out.mono ?_
          rintro e w3 ⟨u, rfl, ho, l3⟩
          have O3 := Lib.hid (ownC_base ho HL.out.size)
          have L3 := Lib.hid (lo_on HL.out l3)
          clear ho l3
          go_wp2
          go_roundw
          case rel => exact ⟨n + 1, by omega, by go_num, O3, K1, L3⟩
          case measure => simp [intOf]; omega
        · obtain rfl : n = 4 := by omega
          obtain ⟨rfl, rfl, rfl⟩ := HNn.out rfl
          clear TN KN HYn H4n HNn HR
          go_wp2_with fail
          refine S1.out.mono ?_
          rintro e w' ⟨rfl, rfl⟩
          go_wp2_with fail
          refine S1.out.mono ?_
          rintro e w' ⟨rfl, rfl⟩
          go_wp2
          go_ret3
          exact ⟨_, rfl, lit_row _ _, HL.out.alloc HL.out.size _⟩
set_option maxRecDepth 100000 in
set_option maxHeartbeats 3200000 in
theorem tumbleBody_any (v : Value) (xs : List (Int × Int)) (w : World) (hr : LoadRow w v xs) (hw : WfL xs) (hn : xs.length ≤ 2000000) :
    Calls Try.prog 40 #[v] w fun e w' => ∃ u0, e = .returned (.tuple #[u0, .int .i64 (tumN xs), .bool (tumB xs)]) ∧ MineL w' w.heap.size w'.heap.size u0 (tumR xs) ∧ Below w.heap.size w w' := by
  have CL := Lib.hid (cloneC_any v xs w hr hn)
  have BAD := Lib.hid (fun (h : bodB xs = false) u w1 (hu : LoadRow w1 u xs) => show Calls Try.prog 34 #[u] w1 fun e w' => e = .returned (.tuple #[.int .i64 0, .bool false]) ∧ Below w1.heap.size w1 w' by
    have t := bodySide_any u xs w1 hu hw hn
    rw [h] at t
    exact t)
  have HX := Lib.hid (bodB_iff xs)
  have HBAD := Lib.hid (fun h : bodB xs = false => tum_bad h)
  generalize bodB xs = b at *
  cases b with
  | false =>
    obtain ⟨e1, e2, e3⟩ := HBAD.out rfl
    rw [e1, e2, e3]
    have B2 := Lib.hid (BAD.out rfl)
    obtain ⟨a, c, rfl, _⟩ := hr
    clear HBAD BAD HX
    go_enter Try.func40, Try.ntmps40
    go_wp2_with fail
    refine CL.out.mono ?_
    rintro e w1 ⟨u, rfl, ho, l1⟩
    have HU := Lib.hid (ownC_row ho)
    have L1 := Lib.hid l1
    clear ho l1 CL
    go_wp2
    go_loopw [5, 11] (fun v i wr => i = .int .i64 0 ∧ v = u ∧ Hid (LoadRow wr u xs) ∧ Hid (Below w.heap.size w wr)) (fun _ i _ => 0)
    case atStart => exact ⟨rfl, rfl, HU, L1⟩
    case round =>
      obtain ⟨rfl, rfl, HR, HL⟩ := hrel
      have B3 := Lib.hid (B2.out _ wr HR.out)
      clear B2 HU L1 HR
      go_wp2_with fail
      refine B3.out.mono ?_
      rintro e w2 ⟨rfl, l2⟩
      have L2 := Lib.hid (lo_on HL.out l2)
      clear l2
      go_wp2
      go_ret3
      exact ⟨_, rfl, mineL_nil _ _ _ _ _, L2.out⟩
  | true =>
    have hb := HX.out.1 rfl
    have SD := Lib.hid (fun n (h : ∀ k, k < n → sideL (tumL xs k) ≠ 0) u w1 (hu : LoadRow w1 u (tumL xs n)) => show Calls Try.prog 34 #[u] w1 fun e w' => e = .returned (.tuple #[.int .i64 (sideL (tumL xs n)), .bool true]) ∧ Below w1.heap.size w1 w' by
      have hbn := tumL_bod hb n h
      have t := bodySide_any u (tumL xs n) w1 hu hbn.wf (by have := hbn.short; omega)
      rw [(bodB_iff _).2 hbn] at t
      exact t)
    have TU := Lib.hid (fun n (h : ∀ k, k < n + 1 → sideL (tumL xs k) ≠ 0) u w1 (hu : LoadRow w1 u (tumL xs n)) => show Calls Try.prog 36 #[u, .int .i64 (sideL (tumL xs n))] w1 fun e w' => ∃ v', e = .returned (.tuple #[v', .bool true]) ∧ MineL w' w1.heap.size w'.heap.size v' (tumL xs (n + 1)) ∧ Below w1.heap.size w1 w' by
      have hbn := tumL_bod hb n (fun k hk => h k (by omega))
      have hs : sideL (tumL xs n) = 1 ∨ sideL (tumL xs n) = -1 := by
        rcases ovF_is (midF Prod.fst (tumL xs n)) (tumL xs n).length (gloF (tumL xs n)) (ghiF (tumL xs n)) with e | e
        · exact absurd e (h n (by omega))
        · exact e
      have t := turnBody_any u (tumL xs n) (sideL (tumL xs n)) w1 hu hbn.wf (by have := hbn.short; omega)
      have e1 : turnB (tumL xs n) (sideL (tumL xs n)) = true := by
        unfold turnB
        rw [(bodB_iff _).2 hbn]
        rcases hs with e | e <;> rw [e] <;> rfl
      unfold turnR at t
      rw [e1] at t
      exact t)
    have HYE := Lib.hid (fun n (hn : n < 4) (hk : ∀ k, k < n → sideL (tumL xs k) ≠ 0) (h0 : sideL (tumL xs n) = 0) => tum_yes hb hn hk h0)
    have HNO := Lib.hid (fun (hk : ∀ k, k < 4 → sideL (tumL xs k) ≠ 0) => tum_no hk)
    have T0 := Lib.hid (show tumL xs 0 = xs from rfl)
    generalize tumB xs = tb at *
    generalize tumR xs = tr at *
    generalize tumN xs = tn at *
    generalize tumL xs = T at *
    obtain ⟨a, c, rfl, _⟩ := hr
    clear hb HX HBAD BAD
    go_enter Try.func40, Try.ntmps40
    go_wp2_with fail
    refine CL.out.mono ?_
    rintro e w1 ⟨u0, rfl, ho, l1⟩
    have O1 := Lib.hid (show MineL w1 w.heap.size w1.heap.size u0 (T 0) by rw [T0.out]; exact ownC_mine ho)
    have L1 := Lib.hid l1
    clear ho l1 CL
    go_wp2
    go_loopw [5, 11] (fun v i wr => ∃ n : Nat, n ≤ 4 ∧ i = .int .i64 n ∧ Hid (MineL wr w.heap.size wr.heap.size v (T n)) ∧ Hid (∀ k, k < n → sideL (T k) ≠ 0) ∧ Hid (Below w.heap.size w wr)) (fun _ i _ => 4 - (intOf i).toNat)
    case atStart => exact ⟨0, by omega, rfl, O1, Lib.hid (fun k h => by omega), L1⟩
    case round =>
      obtain ⟨n, hn4, rfl, HO, HK, HL⟩ := hrel
      clear O1 L1
      by_cases hn : n < 4
      · have hn' : (n : Int) < 4 := by omega
        have S1 := Lib.hid (SD.out n HK.out _ wr HO.out.row)
        have TN := Lib.hid (fun (h : sideL (T n) ≠ 0) w1 (l : Below wr.heap.size wr w1) => TU.out n (fun k hk => by
          by_cases e : k = n
          · subst e; exact h
          · exact HK.out k (by omega)) _ w1 (HO.out.lo l).row)
        have KN := Lib.hid (fun (h : sideL (T n) ≠ 0) => show ∀ k, k < n + 1 → sideL (T k) ≠ 0 from fun k hk => by
          by_cases e : k = n
          · subst e; exact h
          · exact HK.out k (by omega))
        have HYn := Lib.hid (fun (h : sideL (T n) = 0) => HYE.out n hn HK.out h)
        generalize sideL (T n) = s at *
        clear HYE HNO SD TU HK
        by_cases hs : s = 0
        · subst hs
          obtain ⟨rfl, rfl, rfl⟩ := HYn.out rfl
          clear TN KN HYn
          go_wp2_with fail
          refine S1.out.mono ?_
          rintro e w3 ⟨rfl, l3⟩
          have O3 := Lib.hid ((HO.out.lo l3).mono8 l3.size)
          have L3 := Lib.hid (lo_on HL.out l3)
          clear l3 HO
          go_wp2
          go_ret3
          exact ⟨_, rfl, O3.out, L3.out⟩
        · have hs1 : (s == 0) = false := by simpa using hs
          have hs2 : (s != 0) = true := by simpa using hs
          have T1 := Lib.hid (TN.out hs)
          have K1 := Lib.hid (KN.out hs)
          clear TN KN HYn
          go_wp2_with fail
          refine S1.out.mono ?_
          rintro e w3 ⟨rfl, l3⟩
          have T2 := Lib.hid (T1.out w3 l3)
          have L3 := Lib.hid (lo_on HL.out l3)
          clear l3 HO
          go_wp2_with fail
          refine T2.out.mono ?_
          rintro e w4 ⟨u, rfl, ho, l4⟩
          have O4 := Lib.hid (ho.base8 L3.out.size)
          have L4 := Lib.hid (lo_on L3.out l4)
          clear ho l4
          go_wp2
          go_roundw
          case rel => exact ⟨n + 1, by omega, by go_num, O4, K1, L4⟩
          case measure => simp [intOf]; omega
      · obtain rfl : n = 4 := by omega
        obtain ⟨rfl, rfl, rfl⟩ := HNO.out HK.out
        go_wp2
        go_ret3
        exact ⟨_, rfl, mineL_nil _ _ _ _ _, HL.out⟩
end Go.Proofs.Ytmcjichpeijiaaa
