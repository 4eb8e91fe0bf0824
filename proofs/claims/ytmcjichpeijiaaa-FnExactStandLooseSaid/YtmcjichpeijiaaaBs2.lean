/- The program's loose cells. -/
import Derived.Test.YtmcjichpeijiaaaBs0
import Derived.Test.YtmcjichpeijiaaaBs1
import Derived.Deep.RegionLaw
namespace Go.Proofs.Ytmcjichpeijiaaa
open Go.RowKit Go.Maps
theorem MineI.base8 {w : World} {B B' : Nat} {v : Value} {xs : List Int} (h : MineI w B w.heap.size v xs) (hB : B' ≤ B) : MineI w B' w.heap.size v xs := h.mono hB (Nat.le_refl _) (Nat.le_refl _)
theorem BodF.wf9 {xs : List (Int × Int)} (h : BodF xs) : WfL xs := fun c hc => by
  have := h.hi c hc
  unfold WfC
  omega
/-- What putting down the other cells tells. -/
theorem pd_ot {xs : List (Int × Int)} (h : BodF xs) (k : Nat) : pdB (otL xs k) = bodB (downL (otL xs k)) ∧ pdL (otL xs k) = if bodB (downL (otL xs k)) = true then downL (otL xs k) else [] := by
  have e : pdB (otL xs k) = bodB (downL (otL xs k)) := by
    rw [Bool.eq_iff_iff, pdB_iff, bodB_iff]
    refine ⟨fun p => p.bod, fun b => ⟨?_, ?_, fun c hc => ?_, b⟩⟩
    · have := b.one; rw [downL_len] at this; exact this
    · have := b.short; rw [downL_len] at this; exact this
    · have := h.hi c ((otL_sub xs k).subset hc)
      unfold In60; omega
  exact ⟨e, by unfold pdL; rw [e]⟩
set_option maxRecDepth 100000 in
set_option maxHeartbeats 3200000 in
theorem without_any (v : Value) (xs : List (Int × Int)) (k : Nat) (w : World) (hr : RowB w v xs) (hb : BodF xs) (hk : k < xs.length) : ∃ (va vb : Value) (g off c o3 c3 : Nat), v = .slice (some ⟨g, off, none⟩) xs.length c ∧ va = .slice (some ⟨g, off, none⟩) k c ∧ vb = .slice (some ⟨g, o3, none⟩) (xs.length - (k + 1)) c3 ∧
    (∀ X : World, (Instr.slice 22 v none (some (.int .i64 (k : Int))) none).run Try.prog X = .ok va X) ∧
    (∀ X : World, (Instr.slice 22 v (some (.int .i64 ((k : Int) + 1))) none none).run Try.prog X = .ok vb X) ∧
    ∀ X : World, Below w.heap.size w X → ∀ b, X.cell? ⟨b, 0, none⟩ = some va → X.cell? ⟨b, 1, none⟩ = some vb → Calls Try.prog 118 #[.slice (some ⟨b, 0, none⟩) 2 2] X fun e w' => ∃ v', e = .returned v' ∧ OwnC w' X.heap.size v' (otL xs k) ∧ Below X.heap.size X w' := by
  obtain ⟨g, off, c, rfl, hnc, hg, hc⟩ := hr
  have h12 := hb.short
  obtain ⟨o3, c3, s2, h3, _⟩ := slice_l g off xs.length c (k + 1) (by omega) hnc
  refine ⟨_, _, g, off, c, o3, c3, rfl, rfl, rfl, fun X => slice_h g off xs.length c k (by omega) X, fun X => s2 X, fun X l b c0 c1 => ?_⟩
  have ht : (xs.take k).length = k := by rw [List.length_take]; omega
  have hd : (xs.drop (k + 1)).length = xs.length - (k + 1) := by rw [List.length_drop]
  have hgX : g < X.heap.size := Nat.lt_of_lt_of_le hg l.size
  have PA : PartC X (.slice (some ⟨g, off, none⟩) k c) (xs.take k) := ⟨g, off, c, by rw [ht], hgX, fun j hj => by
    rw [ht] at hj
    rw [l.cell (p := ⟨g, off + j * 2, none⟩) hg, l.cell (p := ⟨g, off + j * 2 + 1, none⟩) hg, takeC_at hj]
    exact hc j (by omega)⟩
  have PB : PartC X (.slice (some ⟨g, o3, none⟩) (xs.length - (k + 1)) c3) (xs.drop (k + 1)) := ⟨g, o3, c3, by rw [hd], hgX, fun j hj => by
    rw [hd] at hj
    rcases h3 with h3 | h3
    · rw [l.cell (p := ⟨g, o3 + j * 2, none⟩) hg, l.cell (p := ⟨g, o3 + j * 2 + 1, none⟩) hg, dropC_at, h3, show off + (k + 1) * 2 + j * 2 = off + (k + 1 + j) * 2 by omega]
      exact hc (k + 1 + j) (by omega)
    · omega⟩
  exact concatC_any b _ _ (xs.take k) (xs.drop (k + 1)) X c0 c1 PA PB (by omega) (by omega)
set_option maxRecDepth 100000 in
set_option maxHeartbeats 6400000 in
theorem places_loose (v : Value) (xs : List (Int × Int)) (w : World) (hr : LoadRow w v xs) (hcap : ∃ a, v = .slice a xs.length xs.length) (hw : WfL xs) (hn : xs.length ≤ 2000000) :
    Calls Try.prog 106 #[v, .func (.func 22) #[] #[]] w fun e w' => ∃ u0, e = .returned (.tuple #[u0, .bool (bodB xs)]) ∧ MineI w' w.heap.size w'.heap.size u0 (looR false xs) ∧ Below w.heap.size w w' := by
  obtain ⟨i0, hi, hz0, hz1, hz2⟩ := info_parts infoInt
  have C := Lib.hid (isBody_any v xs w hr hw hn)
  have HX := Lib.hid (bodB_iff xs)
  unfold looR
  generalize bodB xs = b0 at *
  cases b0 with
  | false =>
    obtain ⟨a, c, rfl, _⟩ := hr
    clear hcap
    go_enter Try.func106, Try.ntmps106
    go_wp2_with fail
    refine C.out.mono ?_
    rintro e w1 ⟨rfl, l1⟩
    go_wp2
    go_ret2
    exact ⟨_, rfl, mineI_nil _ _ _ _ _, l1⟩
  | true =>
    have hb := HX.out.1 rfl
    have h12 := hb.short
    have hrb := rowB_of hr hcap hb.one
    have WO := Lib.hid (fun k (hk : k < xs.length) (w1 : World) (l : Below w.heap.size w w1) => without_any v xs k w1 (hrb.lo l) hb hk)
    have PD := Lib.hid (fun k (hk : k < xs.length) (u : Value) (w1 : World) (hu : LoadRow w1 u (otL xs k)) => show Calls Try.prog 25 #[u] w1 fun e w' => ∃ u0, e = .returned (.tuple #[u0, .bool (bodB (downL (otL xs k)))]) ∧ MineL w' w1.heap.size w'.heap.size u0 (if bodB (downL (otL xs k)) = true then downL (otL xs k) else []) ∧ Below w1.heap.size w1 w' by
      have t := putDown_any u (otL xs k) w1 hu (by have := otL_len hk; omega)
      rw [(pd_ot hb k).1, (pd_ot hb k).2] at t
      exact t)
    have DC := Lib.hid (fun (ds : List (Int × Int)) (h : bodB ds = true) (u : Value) (w1 : World) (hu : LoadRow w1 u ds) => show Calls Try.prog 22 #[u] w1 fun e w' => e = .returned (.bool true) ∧ Below w1.heap.size w1 w' by
      have hd := (bodB_iff ds).1 h
      have t := isBody_any u ds w1 hu hd.wf9 (by have := hd.short; omega)
      rw [h] at t
      exact t)
    have HS0 := Lib.hid (fun k => looL_succ false xs k)
    obtain ⟨g0, off0, c0, rfl, _⟩ := hrb
    rw [if_pos rfl]
    clear hb HX hr hcap
    go_enter Try.func106, Try.ntmps106
    go_wp2_with fail
    refine C.out.mono ?_
    rintro e w1 ⟨rfl, l1⟩
    have O0 := Lib.hid (show OwnI w1 w.heap.size (.slice none 0 0) (looL false xs 0) from ownI_nil _ _)
    have L0 := Lib.hid l1
    clear l1 C
    go_wp2
    go_loopw [6, 15] (fun u i wr => ∃ k : Nat, k ≤ xs.length ∧ i = .int .i64 k ∧ Hid (OwnI wr w.heap.size u (looL false xs k)) ∧ Hid (Below w.heap.size w wr)) (fun _ i _ => xs.length - (intOf i).toNat)
    case atStart => exact ⟨0, Nat.zero_le _, rfl, O0, L0⟩
    case round =>
      obtain ⟨k, hk, rfl, HO, HL⟩ := hrel
      clear O0 L0
      by_cases hlt : k < xs.length
      · have hlt' : (k : Int) < (xs.length : Int) := by omega
        obtain ⟨va, vb, ga, oa, ca, ob, cb, e1, e2, e3, s1, s2, CC⟩ := WO.out k hlt wr HL.out
        injection e1 with e11 e12 e13
        injection e11 with e14
        injection e14 with e15 e16
        subst e15 e16 e13 e2 e3
        have PDk := Lib.hid (fun u w1 hu => PD.out k hlt u w1 hu)
        have hw1 : IntKind.i64.wrap ((k : Int) + 1) = (k : Int) + 1 := by rw [IntKind.wrap_i64]; omega
        have BX := Lib.hid (show Below wr.heap.size wr (wr.alloc (.cells #[.slice (some ⟨g0, off0, none⟩) k c0, .slice (some ⟨g0, ob, none⟩) (xs.length - (k + 1)) cb] 22)).drew from (below_new _ _).drew)
        have C1 := Lib.hid (CC _ BX.out wr.heap.size ((World.cell?_alloc_at _ _ _ _ rfl).trans rfl) ((World.cell?_alloc_at _ _ _ _ rfl).trans rfl))
        have HS := Lib.hid (HS0.out k)
        have HLB := Lib.hid (show looB false xs k = (bodB (downL (otL xs k)) && (!false || decide (sideL (downL (otL xs k)) = 0))) from rfl)
        have DCk := Lib.hid (fun h u w1 hu => DC.out (downL (otL xs k)) h u w1 hu)
        have hnk := looL_len false xs k
        obtain ⟨n, hn⟩ : ∃ n, (looL false xs k).length = n := ⟨_, rfl⟩
        rw [hn] at hnk
        generalize looB false xs k = lb at *
        generalize bodB (downL (otL xs k)) = b at *
        generalize sideL (downL (otL xs k)) = s at *
        generalize downL (otL xs k) = ds at *
        generalize otL xs k = os at *
        clear WO PD DC HS0 CC
        go_wp2_with fail
        go_region_law (first
          | (go_simp; go_at_call 118; refine C1.out.mono ?_; rintro e w2 ⟨uc, rfl, hoc, lc⟩)
          | (go_simp; go_at_call 25; refine (PDk.out uc w2 (ownC_row hoc)).mono ?_; rintro e w3 ⟨ud, rfl, hmd, ld⟩))
        have L2 := lo_on HL.out (lo_on BX.out lc)
        have L3' := Lib.hid (lo_on L2 ld)
        have HM := Lib.hid hmd.row
        have HO' := Lib.hid (((HO.out.lo9 BX.out).lo9 lc).lo9 ld)
        clear hoc lc hmd ld L2 HO HL BX C1 PDk s1 s2 hw1
        cases b with
        | false =>
          have HSk := Lib.hid (show looL false xs (k + 1) = looL false xs k by rw [HS.out, HLB.out]; simp)
          have O4 := Lib.hid (show OwnI w3 w.heap.size u6 (looL false xs (k + 1)) by rw [HSk.out]; exact HO'.out)
          clear HS HLB DCk HM HO'
          go_wp2
          go_roundw
          case rel => exact ⟨k + 1, by omega, by go_num, O4, L3'⟩
          case measure => simp [intOf]; omega
        | true =>
          have D1 := Lib.hid (DCk.out (by first | trivial | rfl) ud w3 HM.out)
          clear DCk HM
          have HSk := Lib.hid (show looL false xs (k + 1) = looL false xs k ++ [(k : Int)] by rw [HS.out, HLB.out]; simp)
          clear HS HLB
          go_wp2_with fail
          refine D1.out.mono ?_
          rintro e w4 ⟨rfl, l4⟩
          have L4 := Lib.hid (lo_on L3'.out l4)
          have hown := HO'.out.lo9 l4
          unfold OwnI at hown
          rw [hn] at hown
          have hgw := L4.out.size
          clear l4 HO' L3' D1
          go_wp2_with (at_builtin; refine wpList_append_own _ rfl _ _ 41 rfl w.heap.size 3 i0 (.int .i64 0) 1 8 Try.underlying41 hi hz0 hz1 hz2 rfl (by decide) _ _ _ rfl (hown.alloc _) ⟨w4.heap.size, 0, none⟩ 1 1 [.int .i64 k] rfl rfl (by simpa using cell_one_new w4 (.int .i64 k) 3) (fun x hx => by simp at hx; subst hx; rfl) (by unfold maxLen; omega) (by omega) (by simp; omega) ?_; intro v' w3 hown' hgrow3 hnil3)
          have O3 := Lib.hid (show OwnI w3 w.heap.size v' (looL false xs (k + 1)) by rw [HSk.out]; exact ownI_snoc hown' hn)
          have L3 := Lib.hid (show Below w.heap.size w w3 from (L4.out.alloc L4.out.size _).grown hgrow3 (by simp; omega) (fun j hj => (hown.lt j hj).1))
          clear hown hown' hgrow3 hnil3
          go_wp2
          go_roundw
          case rel => exact ⟨k + 1, by omega, by go_num, O3, L3⟩
          case measure => simp [intOf]; omega
      · obtain rfl : k = xs.length := by omega
        have hge : ¬ (xs.length : Int) < (xs.length : Int) := by omega
        have hb3 := HL.out.size
        have HI := Lib.hid HO.out.mine
        clear WO PD DC HS0 HO
        go_wp2
        go_ret2
        exact ⟨_, rfl, HI.out, HL.out⟩
set_option maxRecDepth 100000 in
set_option maxHeartbeats 6400000 in
theorem places_stand (v : Value) (xs : List (Int × Int)) (w : World) (hr : LoadRow w v xs) (hcap : ∃ a, v = .slice a xs.length xs.length) (hw : WfL xs) (hn : xs.length ≤ 2000000) :
    Calls Try.prog 106 #[v, .func (.func 104) #[] #[]] w fun e w' => ∃ u0, e = .returned (.tuple #[u0, .bool (bodB xs)]) ∧ MineI w' w.heap.size w'.heap.size u0 (looR true xs) ∧ Below w.heap.size w w' := by
  obtain ⟨i0, hi, hz0, hz1, hz2⟩ := info_parts infoInt
  have C := Lib.hid (isBody_any v xs w hr hw hn)
  have HX := Lib.hid (bodB_iff xs)
  unfold looR
  generalize bodB xs = b0 at *
  cases b0 with
  | false =>
    obtain ⟨a, c, rfl, _⟩ := hr
    clear hcap
    go_enter Try.func106, Try.ntmps106
    go_wp2_with fail
    refine C.out.mono ?_
    rintro e w1 ⟨rfl, l1⟩
    go_wp2
    go_ret2
    exact ⟨_, rfl, mineI_nil _ _ _ _ _, l1⟩
  | true =>
    have hb := HX.out.1 rfl
    have h12 := hb.short
    have hrb := rowB_of hr hcap hb.one
    have WO := Lib.hid (fun k (hk : k < xs.length) (w1 : World) (l : Below w.heap.size w w1) => without_any v xs k w1 (hrb.lo l) hb hk)
    have PD := Lib.hid (fun k (hk : k < xs.length) (u : Value) (w1 : World) (hu : LoadRow w1 u (otL xs k)) => show Calls Try.prog 25 #[u] w1 fun e w' => ∃ u0, e = .returned (.tuple #[u0, .bool (bodB (downL (otL xs k)))]) ∧ MineL w' w1.heap.size w'.heap.size u0 (if bodB (downL (otL xs k)) = true then downL (otL xs k) else []) ∧ Below w1.heap.size w1 w' by
      have t := putDown_any u (otL xs k) w1 hu (by have := otL_len hk; omega)
      rw [(pd_ot hb k).1, (pd_ot hb k).2] at t
      exact t)
    have DC := Lib.hid (fun (ds : List (Int × Int)) (h : bodB ds = true) (u : Value) (w1 : World) (hu : LoadRow w1 u ds) => show Calls Try.prog 104 #[u] w1 fun e w' => e = .returned (.bool (decide (sideL ds = 0))) ∧ Below w1.heap.size w1 w' by
      have hd := (bodB_iff ds).1 h
      have t := bodyStands_any u ds w1 hu hd.wf9 (by have := hd.short; omega)
      unfold stanB at t
      rw [h] at t
      exact t)
    have HS0 := Lib.hid (fun k => looL_succ true xs k)
    obtain ⟨g0, off0, c0, rfl, _⟩ := hrb
    rw [if_pos rfl]
    clear hb HX hr hcap
    go_enter Try.func106, Try.ntmps106
    go_wp2_with fail
    refine C.out.mono ?_
    rintro e w1 ⟨rfl, l1⟩
    have O0 := Lib.hid (show OwnI w1 w.heap.size (.slice none 0 0) (looL true xs 0) from ownI_nil _ _)
    have L0 := Lib.hid l1
    clear l1 C
    go_wp2
    go_loopw [6, 15] (fun u i wr => ∃ k : Nat, k ≤ xs.length ∧ i = .int .i64 k ∧ Hid (OwnI wr w.heap.size u (looL true xs k)) ∧ Hid (Below w.heap.size w wr)) (fun _ i _ => xs.length - (intOf i).toNat)
    case atStart => exact ⟨0, Nat.zero_le _, rfl, O0, L0⟩
    case round =>
      obtain ⟨k, hk, rfl, HO, HL⟩ := hrel
      clear O0 L0
      by_cases hlt : k < xs.length
      · have hlt' : (k : Int) < (xs.length : Int) := by omega
        obtain ⟨va, vb, ga, oa, ca, ob, cb, e1, e2, e3, s1, s2, CC⟩ := WO.out k hlt wr HL.out
        injection e1 with e11 e12 e13
        injection e11 with e14
        injection e14 with e15 e16
        subst e15 e16 e13 e2 e3
        have PDk := Lib.hid (fun u w1 hu => PD.out k hlt u w1 hu)
        have hw1 : IntKind.i64.wrap ((k : Int) + 1) = (k : Int) + 1 := by rw [IntKind.wrap_i64]; omega
        have BX := Lib.hid (show Below wr.heap.size wr (wr.alloc (.cells #[.slice (some ⟨g0, off0, none⟩) k c0, .slice (some ⟨g0, ob, none⟩) (xs.length - (k + 1)) cb] 22)).drew from (below_new _ _).drew)
        have C1 := Lib.hid (CC _ BX.out wr.heap.size ((World.cell?_alloc_at _ _ _ _ rfl).trans rfl) ((World.cell?_alloc_at _ _ _ _ rfl).trans rfl))
        have HS := Lib.hid (HS0.out k)
        have HLB := Lib.hid (show looB true xs k = (bodB (downL (otL xs k)) && (!true || decide (sideL (downL (otL xs k)) = 0))) from rfl)
        have DCk := Lib.hid (fun h u w1 hu => DC.out (downL (otL xs k)) h u w1 hu)
        have hnk := looL_len true xs k
        obtain ⟨n, hn⟩ : ∃ n, (looL true xs k).length = n := ⟨_, rfl⟩
        rw [hn] at hnk
        generalize looB true xs k = lb at *
        generalize bodB (downL (otL xs k)) = b at *
        generalize sideL (downL (otL xs k)) = s at *
        generalize downL (otL xs k) = ds at *
        generalize otL xs k = os at *
        clear WO PD DC HS0 CC
        go_wp2_with fail
        go_region_law (first
          | (go_simp; go_at_call 118; refine C1.out.mono ?_; rintro e w2 ⟨uc, rfl, hoc, lc⟩)
          | (go_simp; go_at_call 25; refine (PDk.out uc w2 (ownC_row hoc)).mono ?_; rintro e w3 ⟨ud, rfl, hmd, ld⟩))
        have L2 := lo_on HL.out (lo_on BX.out lc)
        have L3' := Lib.hid (lo_on L2 ld)
        have HM := Lib.hid hmd.row
        have HO' := Lib.hid (((HO.out.lo9 BX.out).lo9 lc).lo9 ld)
        clear hoc lc hmd ld L2 HO HL BX C1 PDk s1 s2 hw1
        cases b with
        | false =>
          have HSk := Lib.hid (show looL true xs (k + 1) = looL true xs k by rw [HS.out, HLB.out]; simp)
          have O4 := Lib.hid (show OwnI w3 w.heap.size u6 (looL true xs (k + 1)) by rw [HSk.out]; exact HO'.out)
          clear HS HLB DCk HM HO'
          go_wp2
          go_roundw
          case rel => exact ⟨k + 1, by omega, by go_num, O4, L3'⟩
          case measure => simp [intOf]; omega
        | true =>
          have D1 := Lib.hid (DCk.out (by first | trivial | rfl) ud w3 HM.out)
          clear DCk HM
          by_cases hs : s = 0
          · rw [decide_eq_true hs] at D1
            have HSk := Lib.hid (show looL true xs (k + 1) = looL true xs k ++ [(k : Int)] by rw [HS.out, HLB.out]; simp [hs])
            clear HS HLB hs
            go_wp2_with fail
            refine D1.out.mono ?_
            rintro e w4 ⟨rfl, l4⟩
            have L4 := Lib.hid (lo_on L3'.out l4)
            have hown := HO'.out.lo9 l4
            unfold OwnI at hown
            rw [hn] at hown
            have hgw := L4.out.size
            clear l4 HO' L3' D1
            go_wp2_with (at_builtin; refine wpList_append_own _ rfl _ _ 41 rfl w.heap.size 3 i0 (.int .i64 0) 1 8 Try.underlying41 hi hz0 hz1 hz2 rfl (by decide) _ _ _ rfl (hown.alloc _) ⟨w4.heap.size, 0, none⟩ 1 1 [.int .i64 k] rfl rfl (by simpa using cell_one_new w4 (.int .i64 k) 3) (fun x hx => by simp at hx; subst hx; rfl) (by unfold maxLen; omega) (by omega) (by simp; omega) ?_; intro v' w3 hown' hgrow3 hnil3)
            have O3 := Lib.hid (show OwnI w3 w.heap.size v' (looL true xs (k + 1)) by rw [HSk.out]; exact ownI_snoc hown' hn)
            have L3 := Lib.hid (show Below w.heap.size w w3 from (L4.out.alloc L4.out.size _).grown hgrow3 (by simp; omega) (fun j hj => (hown.lt j hj).1))
            clear hown hown' hgrow3 hnil3
            go_wp2
            go_roundw
            case rel => exact ⟨k + 1, by omega, by go_num, O3, L3⟩
            case measure => simp [intOf]; omega
          · rw [decide_eq_false hs] at D1
            have HSk := Lib.hid (show looL true xs (k + 1) = looL true xs k by rw [HS.out, HLB.out]; simp [hs])
            clear HS HLB hs
            go_wp2_with fail
            refine D1.out.mono ?_
            rintro e w4 ⟨rfl, l4⟩
            have L4 := Lib.hid (lo_on L3'.out l4)
            have O4 := Lib.hid (show OwnI w4 w.heap.size u6 (looL true xs (k + 1)) by rw [HSk.out]; exact HO'.out.lo9 l4)
            clear l4 HO' L3' D1
            go_wp2
            go_roundw
            case rel => exact ⟨k + 1, by omega, by go_num, O4, L4⟩
            case measure => simp [intOf]; omega
      · obtain rfl : k = xs.length := by omega
        have hge : ¬ (xs.length : Int) < (xs.length : Int) := by omega
        have hb3 := HL.out.size
        have HI := Lib.hid HO.out.mine
        clear WO PD DC HS0 HO
        go_wp2
        go_ret2
        exact ⟨_, rfl, HI.out, HL.out⟩
theorem looseCells_any (v : Value) (xs : List (Int × Int)) (w : World) (hr : LoadRow w v xs) (hcap : ∃ a, v = .slice a xs.length xs.length) (hw : WfL xs) (hn : xs.length ≤ 2000000) :
    Calls Try.prog 47 #[v] w fun e w' => ∃ u0, e = .returned (.tuple #[u0, .bool (bodB xs)]) ∧ MineI w' w.heap.size w'.heap.size u0 (looR false xs) ∧ Below w.heap.size w w' := by
  have C := Lib.hid (places_loose v xs w hr hcap hw hn)
  generalize looR false xs = ys at *
  generalize bodB xs = b at *
  obtain ⟨a, c, rfl, _⟩ := hr
  clear hcap
  go_enter Try.func47, Try.ntmps47
  go_wp2_with fail
  refine C.out.mono ?_
  rintro e w1 ⟨u, rfl, hm, l1⟩
  have HM := Lib.hid hm
  have L1 := Lib.hid l1
  clear hm l1
  go_wp2
  go_ret2
  exact ⟨_, rfl, HM.out, L1.out⟩
theorem standLoose_any (v : Value) (xs : List (Int × Int)) (w : World) (hr : LoadRow w v xs) (hcap : ∃ a, v = .slice a xs.length xs.length) (hw : WfL xs) (hn : xs.length ≤ 2000000) :
    Calls Try.prog 49 #[v] w fun e w' => ∃ u0, e = .returned (.tuple #[u0, .bool (bodB xs)]) ∧ MineI w' w.heap.size w'.heap.size u0 (looR true xs) ∧ Below w.heap.size w w' := by
  have C := Lib.hid (places_stand v xs w hr hcap hw hn)
  generalize looR true xs = ys at *
  generalize bodB xs = b at *
  obtain ⟨a, c, rfl, _⟩ := hr
  clear hcap
  go_enter Try.func49, Try.ntmps49
  go_wp2_with fail
  refine C.out.mono ?_
  rintro e w1 ⟨u, rfl, hm, l1⟩
  have HM := Lib.hid hm
  have L1 := Lib.hid l1
  clear hm l1
  go_wp2
  go_ret2
  exact ⟨_, rfl, HM.out, L1.out⟩
end Go.Proofs.Ytmcjichpeijiaaa
