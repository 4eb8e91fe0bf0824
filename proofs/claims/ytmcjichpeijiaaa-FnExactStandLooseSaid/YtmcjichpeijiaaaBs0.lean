/- The model's loose cells. -/
import Derived.Test.YtmcjichpeijiaaaBr9
namespace Go.Proofs.Ytmcjichpeijiaaa
open Go.RowKit Go.Maps
theorem OwnI.lo9 {w w' : World} {B : Nat} {v : Value} {xs : List Int} (h : OwnI w B v xs) (l : Below w.heap.size w w') : OwnI w' B v xs := ownsRow_below h l
set_option maxRecDepth 100000 in
set_option maxHeartbeats 6400000 in
theorem l8Loose_any (st : Bool) (v : Value) (xs : List (Int × Int)) (w : World) (hr : RowB w v xs) (hb : BodF xs) :
    Calls Try.prog 105 #[v, .bool st] w fun e w' => ∃ u, e = .returned u ∧ OwnI w' w.heap.size u (looL st xs xs.length) ∧ Below w.heap.size w w' := by
  obtain ⟨i0, hi, hz0, hz1, hz2⟩ := info_parts infoInt
  have h12 := hb.short
  have WO := Lib.hid (fun k (hk : k < xs.length) (w1 : World) (l : Below w.heap.size w w1) => l8Without_any v xs k w1 (hr.lo l) hb hk)
  have SD := Lib.hid (fun (u : Value) (ds : List (Int × Int)) (w1 : World) (hu : LoadRow w1 u ds) (h : bodB ds = true) => l8Side_any u ds w1 hu ((bodB_iff _).1 h))
  have HS0 := Lib.hid (fun k => looL_succ st xs k)
  have O0 := Lib.hid (show OwnI (w.alloc (.cells #[] 3)) w.heap.size (.slice (some ⟨w.heap.size, 0, none⟩) 0 0) (looL st xs 0) from ownI_lit0 w w.heap.size (Nat.le_refl _))
  obtain ⟨g, off, c, rfl, _⟩ := hr
  clear hb
  go_enter Try.func105, Try.ntmps105
  go_wp2
  go_loopw [5, 6] (fun u i wr => ∃ k : Nat, k ≤ xs.length ∧ i = .int .i64 k ∧ Hid (OwnI wr w.heap.size u (looL st xs k)) ∧ Hid (Below w.heap.size w wr)) (fun _ i _ => xs.length - (intOf i).toNat)
  case atStart => exact ⟨0, Nat.zero_le _, rfl, O0, Lib.hid (below_new _ _)⟩
  case round =>
    obtain ⟨k, hk, rfl, HO, HL⟩ := hrel
    clear O0
    by_cases hlt : k < xs.length
    · have hlt' : (k : Int) < (xs.length : Int) := by omega
      have W1 := Lib.hid (WO.out k hlt wr HL.out)
      have SDk := Lib.hid (fun u w1 (hu : LoadRow w1 u (downL (otL xs k))) h => SD.out u (downL (otL xs k)) w1 hu h)
      have HS := Lib.hid (HS0.out k)
      have HLB := Lib.hid (show looB st xs k = (bodB (downL (otL xs k)) && (!st || decide (sideL (downL (otL xs k)) = 0))) from rfl)
      have hnk := looL_len st xs k
      obtain ⟨n, hn⟩ : ∃ n, (looL st xs k).length = n := ⟨_, rfl⟩
      rw [hn] at hnk
      generalize looB st xs k = lb at *
      generalize bodB (downL (otL xs k)) = b at *
      generalize sideL (downL (otL xs k)) = s at *
      generalize downL (otL xs k) = ds at *
      clear WO SD HS0
      cases b with
      | false =>
        have HSk := Lib.hid (show looL st xs (k + 1) = looL st xs k by rw [HS.out, HLB.out]; simp)
        clear HS HLB SDk
        go_wp2_with fail
        refine W1.out.mono ?_
        rintro e w2 ⟨u, rfl, hu, l2⟩
        have O2 := Lib.hid (show OwnI w2 w.heap.size u5 (looL st xs (k + 1)) by rw [HSk.out]; exact HO.out.lo9 l2)
        have L2 := Lib.hid (lo_on HL.out l2)
        clear hu l2
        go_wp2
        go_roundw
        case rel => exact ⟨k + 1, by omega, by go_num, O2, L2⟩
        case measure => simp [intOf]; omega
      | true =>
        cases st with
        | false =>
          have HSk := Lib.hid (show looL false xs (k + 1) = looL false xs k ++ [(k : Int)] by rw [HS.out, HLB.out]; simp)
          clear HS HLB SDk
          go_wp2_with fail
          refine W1.out.mono ?_
          rintro e w2 ⟨u, rfl, hu, l2⟩
          have L2 := Lib.hid (lo_on HL.out l2)
          have hown := HO.out.lo9 l2
          unfold OwnI at hown
          rw [hn] at hown
          have hgw := L2.out.size
          clear hu l2 HO HL
          go_wp2_with (at_builtin; refine wpList_append_own _ rfl _ _ 41 rfl w.heap.size 3 i0 (.int .i64 0) 1 8 Try.underlying41 hi hz0 hz1 hz2 rfl (by decide) _ _ _ rfl (hown.alloc _) ⟨w2.heap.size, 0, none⟩ 1 1 [.int .i64 k] rfl rfl (by simpa using cell_one_new w2 (.int .i64 k) 3) (fun x hx => by simp at hx; subst hx; rfl) (by unfold maxLen; omega) (by omega) (by simp; omega) ?_; intro v' w3 hown' hgrow3 hnil3)
          have O3 := Lib.hid (show OwnI w3 w.heap.size v' (looL false xs (k + 1)) by rw [HSk.out]; exact ownI_snoc hown' hn)
          have L3 := Lib.hid (show Below w.heap.size w w3 from (L2.out.alloc L2.out.size _).grown hgrow3 (by simp; omega) (fun j hj => (hown.lt j hj).1))
          clear hown hown' hgrow3 hnil3
          go_wp2
          go_roundw
          case rel => exact ⟨k + 1, by omega, by go_num, O3, L3⟩
          case measure => simp [intOf]; omega
        | true =>
          by_cases hs : s = 0
          · subst hs
            have HSk := Lib.hid (show looL true xs (k + 1) = looL true xs k ++ [(k : Int)] by rw [HS.out, HLB.out]; simp)
            clear HS HLB
            go_wp2_with fail
            refine W1.out.mono ?_
            rintro e w2 ⟨u, rfl, hu, l2⟩
            have S2 := Lib.hid (SDk.out u w2 hu (by first | trivial | rfl))
            have L2 := Lib.hid (lo_on HL.out l2)
            have hown := HO.out.lo9 l2
            unfold OwnI at hown
            rw [hn] at hown
            have hgw := L2.out.size
            clear hu l2 HO HL SDk
            go_wp2_with fail
            refine S2.out.mono ?_
            rintro e w' ⟨rfl, rfl⟩
            go_wp2_with (at_builtin; refine wpList_append_own _ rfl _ _ 41 rfl w.heap.size 3 i0 (.int .i64 0) 1 8 Try.underlying41 hi hz0 hz1 hz2 rfl (by decide) _ _ _ rfl (hown.alloc _) ⟨w'.heap.size, 0, none⟩ 1 1 [.int .i64 k] rfl rfl (by simpa using cell_one_new w' (.int .i64 k) 3) (fun x hx => by simp at hx; subst hx; rfl) (by unfold maxLen; omega) (by omega) (by simp; omega) ?_; intro v' w3 hown' hgrow3 hnil3)
            have O3 := Lib.hid (show OwnI w3 w.heap.size v' (looL true xs (k + 1)) by rw [HSk.out]; exact ownI_snoc hown' hn)
            have L3 := Lib.hid (show Below w.heap.size w w3 from (L2.out.alloc L2.out.size _).grown hgrow3 (by simp; omega) (fun j hj => (hown.lt j hj).1))
            clear hown hown' hgrow3 hnil3
            go_wp2
            go_roundw
            case rel => exact ⟨k + 1, by omega, by go_num, O3, L3⟩
            case measure => simp [intOf]; omega
          · have hs1 : (s == 0) = false := by simpa using hs
            have HSk := Lib.hid (show looL true xs (k + 1) = looL true xs k by rw [HS.out, HLB.out]; simp [hs])
            clear HS HLB
            go_wp2_with fail
            refine W1.out.mono ?_
            rintro e w2 ⟨u, rfl, hu, l2⟩
            have S2 := Lib.hid (SDk.out u w2 hu (by first | trivial | rfl))
            have O2 := Lib.hid (show OwnI w2 w.heap.size u5 (looL true xs (k + 1)) by rw [HSk.out]; exact HO.out.lo9 l2)
            have L2 := Lib.hid (lo_on HL.out l2)
            clear hu l2 HO HL SDk
            go_wp2_with fail
            refine S2.out.mono ?_
            rintro e w' ⟨rfl, rfl⟩
            go_wp2
            go_roundw
            case rel => exact ⟨k + 1, by omega, by go_num, O2, L2⟩
            case measure => simp [intOf]; omega
    · obtain rfl : k = xs.length := by omega
      have hge : ¬ (xs.length : Int) < (xs.length : Int) := by omega
      clear WO SD HS0
      go_wp2
      go_ret
      exact ⟨_, rfl, HO.out, HL.out⟩
theorem specLooseCells_any (v : Value) (xs : List (Int × Int)) (w : World) (hr : LoadRow w v xs) (hcap : ∃ a, v = .slice a xs.length xs.length) :
    Calls Try.prog 46 #[v] w fun e w' => ∃ u0, e = .returned (.tuple #[u0, .bool (bodB xs)]) ∧ IntRow w' u0 (looR false xs) ∧ Below w.heap.size w w' := by
  have C := Lib.hid (l8Body_any v xs w hr)
  have T := Lib.hid (fun (h : bodB xs = true) (w1 : World) (l : Below w.heap.size w w1) => l8Loose_any false v xs w1 ((rowB_of hr hcap ((bodB_iff xs).1 h).one).lo l) ((bodB_iff xs).1 h))
  unfold looR
  generalize bodB xs = b at *
  generalize looL false xs xs.length = ys at *
  obtain ⟨a, c, rfl, _⟩ := hr
  clear hcap
  cases b with
  | false =>
    go_enter Try.func46, Try.ntmps46
    go_wp2_with fail
    refine C.out.mono ?_
    rintro e w1 ⟨rfl, l1⟩
    go_wp2
    go_ret2
    exact ⟨_, rfl, (ownI_lit0 w1 w1.heap.size (Nat.le_refl _)).mine.row, l1.alloc l1.size _⟩
  | true =>
    have T2 := Lib.hid (fun w1 l => T.out rfl w1 l)
    clear T
    go_enter Try.func46, Try.ntmps46
    go_wp2_with fail
    refine C.out.mono ?_
    rintro e w1 ⟨rfl, l1⟩
    have T3 := Lib.hid (T2.out w1 l1)
    go_wp2_with fail
    refine T3.out.mono ?_
    rintro e w2 ⟨u, rfl, ho, l2⟩
    have HI := Lib.hid ho.mine.row
    have L2 := Lib.hid (lo_on l1 l2)
    clear ho l2
    go_wp2
    go_ret2
    exact ⟨_, rfl, HI.out, L2.out⟩
theorem specStandLoose_any (v : Value) (xs : List (Int × Int)) (w : World) (hr : LoadRow w v xs) (hcap : ∃ a, v = .slice a xs.length xs.length) :
    Calls Try.prog 48 #[v] w fun e w' => ∃ u0, e = .returned (.tuple #[u0, .bool (bodB xs)]) ∧ IntRow w' u0 (looR true xs) ∧ Below w.heap.size w w' := by
  have C := Lib.hid (l8Body_any v xs w hr)
  have T := Lib.hid (fun (h : bodB xs = true) (w1 : World) (l : Below w.heap.size w w1) => l8Loose_any true v xs w1 ((rowB_of hr hcap ((bodB_iff xs).1 h).one).lo l) ((bodB_iff xs).1 h))
  unfold looR
  generalize bodB xs = b at *
  generalize looL true xs xs.length = ys at *
  obtain ⟨a, c, rfl, _⟩ := hr
  clear hcap
  cases b with
  | false =>
    go_enter Try.func48, Try.ntmps48
    go_wp2_with fail
    refine C.out.mono ?_
    rintro e w1 ⟨rfl, l1⟩
    go_wp2
    go_ret2
    exact ⟨_, rfl, (ownI_lit0 w1 w1.heap.size (Nat.le_refl _)).mine.row, l1.alloc l1.size _⟩
  | true =>
    have T2 := Lib.hid (fun w1 l => T.out rfl w1 l)
    clear T
    go_enter Try.func48, Try.ntmps48
    go_wp2_with fail
    refine C.out.mono ?_
    rintro e w1 ⟨rfl, l1⟩
    have T3 := Lib.hid (T2.out w1 l1)
    go_wp2_with fail
    refine T3.out.mono ?_
    rintro e w2 ⟨u, rfl, ho, l2⟩
    have HI := Lib.hid ho.mine.row
    have L2 := Lib.hid (lo_on l1 l2)
    clear ho l2
    go_wp2
    go_ret2
    exact ⟨_, rfl, HI.out, L2.out⟩
end Go.Proofs.Ytmcjichpeijiaaa
