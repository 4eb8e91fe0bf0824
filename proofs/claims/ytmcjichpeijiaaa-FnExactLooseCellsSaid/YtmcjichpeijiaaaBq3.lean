/- The program's PutDown. -/
import Derived.Test.YtmcjichpeijiaaaBq1
import Derived.Test.YtmcjichpeijiaaaBq2
import Derived.Test.YtmcjichpeijiaaaBp3
namespace Go.Proofs.Ytmcjichpeijiaaa
open Go.RowKit Go.Maps
def farB (c : Int × Int) : Bool := !(decide (-60 ≤ c.1) && decide (c.1 ≤ 60) && (decide (-60 ≤ c.2) && decide (c.2 ≤ 60)))
theorem farB_no (c : Int × Int) : farB c = false ↔ In60 c := by unfold farB In60; simp [and_assoc]
set_option maxHeartbeats 1600000 in
theorem isFar_any (p q : Int) (w : World) : Calls Try.prog 86 #[.agg #[.int .i64 p, .int .i64 q]] w fun e w' => e = .returned (.bool (farB (p, q))) ∧ Below w.heap.size w w' := by
  have HF := Lib.hid (farB_no (p, q))
  unfold In60 at HF
  simp only at HF
  generalize farB (p, q) = r at *
  have e : (decide (60 < max p q) || decide (min p q < -60)) = r := by
    cases r with
    | false =>
      have := HF.out.1 rfl
      rw [Bool.or_eq_false_iff, decide_eq_false_iff_not, decide_eq_false_iff_not]
      omega
    | true =>
      rw [Bool.or_eq_true, decide_eq_true_iff, decide_eq_true_iff]
      refine Classical.byContradiction fun h => ?_
      have := HF.out.2 (by omega)
      cases this
  have HE := Lib.hid e
  clear e
  by_cases h : 60 < max p q
  · have hr : r = true := by rw [← HE.out, decide_eq_true h]; rfl
    subst hr
    go_enter Try.func86, Try.ntmps86
    go_wp2
    go_ret
    exact ⟨rfl, below_new _ _⟩
  · have hr : decide (min p q < -60) = r := by rw [← HE.out, decide_eq_false h]; rfl
    have HR := Lib.hid hr
    clear hr
    go_enter Try.func86, Try.ntmps86
    go_wp2
    go_ret
    exact ⟨congrArg (fun b => Ending.returned (Value.bool b)) HR.out, below_new _ _⟩
set_option maxRecDepth 100000 in
set_option maxHeartbeats 3200000 in
theorem index_far (T : Int × Int → Bool) (v : Value) (xs : List (Int × Int)) (w : World) (hr : LoadRow w v xs) (hn : xs.length ≤ 2000)
    (CL : ∀ c ∈ xs, ∀ w1 : World, Below w.heap.size w w1 → Calls Try.prog 86 #[.agg #[.int .i64 c.1, .int .i64 c.2]] w1 fun e w' => e = .returned (.bool (T c)) ∧ Below w1.heap.size w1 w') :
    Calls Try.prog 140 #[v, .func (.func 86) #[] #[]] w fun e w' => (∃ z : Int, e = .returned (.int .i64 z) ∧ decide (0 ≤ z) = xs.any T) ∧ Below w.heap.size w w' := by
  have HCL := Lib.hid CL
  have HY := Lib.hid (fun (h : ∀ j, j < xs.length → T (xs.getD j (0, 0)) = false) => show xs.any T = false by
    rw [List.any_eq_false]
    intro c hc
    obtain ⟨j, hj, rfl⟩ := getD_mem hc
    rw [h j hj]; simp)
  have HN := Lib.hid (fun j (hj : j < xs.length) (h : T (xs.getD j (0, 0)) = true) => show xs.any T = true by
    rw [List.any_eq_true]
    exact ⟨_, mem_getD hj, h⟩)
  generalize xs.any T = r at *
  clear CL
  obtain ⟨a, c, rfl, hr⟩ := hr
  go_enter Try.func140, Try.ntmps140
  go_wp2
  go_loopw [8] (fun i wr => ∃ k : Nat, k ≤ xs.length ∧ i = .int .i64 k ∧ Hid (∀ j, j < k → T (xs.getD j (0, 0)) = false) ∧ Hid (Below w.heap.size w wr)) (fun i _ => xs.length - (intOf i).toNat)
  case atStart => exact ⟨0, Nat.zero_le _, rfl, Lib.hid (fun j h => by omega), Lib.hid (Below.refl _ _)⟩
  case round =>
    obtain ⟨k, hk, rfl, HL, HB⟩ := hrel
    by_cases hlt : k < xs.length
    · rcases hr with h | ⟨g, off, rfl, hg, hc⟩
      · subst h; simp at hlt
      have hlt' : (k : Int) < (xs.length : Int) := by omega
      obtain ⟨c1, c2⟩ := hc k hlt
      rw [← HB.out.cell (p := ⟨g, off + k * 2, none⟩) hg] at c1
      rw [← HB.out.cell (p := ⟨g, off + k * 2 + 1, none⟩) hg] at c2
      have CC := Lib.hid (HCL.out _ (mem_getD hlt) wr HB.out)
      have HNk := Lib.hid (HN.out k hlt)
      have HLk := Lib.hid (fun (h : T (xs.getD k (0, 0)) = false) => show ∀ j, j < k + 1 → T (xs.getD j (0, 0)) = false from fun j hj => by
        by_cases e : j = k
        · subst e; exact h
        · exact HL.out j (by omega))
      generalize xs.getD k (0, 0) = x at c1 c2 CC HNk HLk
      obtain ⟨x1, x2⟩ := x
      simp only at c1 c2 CC
      obtain ⟨t, ht⟩ : ∃ t, T (x1, x2) = t := ⟨_, rfl⟩
      rw [ht] at CC HNk HLk
      clear ht hc
      cases t with
      | true =>
        have HF := Lib.hid (HNk.out rfl)
        go_wp2_with fail
        refine CC.out.mono ?_
        rintro e w1 ⟨rfl, l1⟩
        go_wp2
        go_ret
        exact ⟨⟨_, rfl, by rw [HF.out]; simp⟩, lo_on HB.out l1⟩
      | false =>
        have HLn := Lib.hid (HLk.out rfl)
        go_wp2_with fail
        refine CC.out.mono ?_
        rintro e w1 ⟨rfl, l1⟩
        have LN := Lib.hid (lo_on HB.out l1)
        go_wp2
        go_roundw
        case rel => exact ⟨k + 1, by omega, by go_num, HLn, LN⟩
        case measure => simp [intOf]; omega
    · obtain rfl : k = xs.length := by omega
      have hge : ¬ (xs.length : Int) < (xs.length : Int) := by omega
      have HF := Lib.hid (HY.out HL.out)
      go_wp2
      go_ret
      exact ⟨⟨_, rfl, by rw [HF.out]; simp⟩, HB.out⟩
set_option maxRecDepth 100000 in
set_option maxHeartbeats 1600000 in
theorem contains_far (T : Int × Int → Bool) (v : Value) (xs : List (Int × Int)) (w : World) (hr : LoadRow w v xs) (hn : xs.length ≤ 2000)
    (CL : ∀ c ∈ xs, ∀ w1 : World, Below w.heap.size w w1 → Calls Try.prog 86 #[.agg #[.int .i64 c.1, .int .i64 c.2]] w1 fun e w' => e = .returned (.bool (T c)) ∧ Below w1.heap.size w1 w') :
    Calls Try.prog 85 #[v, .func (.func 86) #[] #[]] w fun e w' => e = .returned (.bool (xs.any T)) ∧ Below w.heap.size w w' := by
  have C := Lib.hid (index_far T v xs w hr hn CL)
  obtain ⟨r, hr2⟩ : ∃ r, xs.any T = r := ⟨_, rfl⟩
  rw [hr2] at C ⊢
  obtain ⟨a, c, rfl, _⟩ := hr
  clear hr2 CL
  go_enter Try.func85, Try.ntmps85
  go_wp2_with fail
  refine C.out.mono ?_
  rintro e w1 ⟨⟨z, rfl, hz⟩, l1⟩
  have HZ := Lib.hid hz
  clear hz
  go_wp2
  go_ret
  exact ⟨by rw [← HZ.out]; rfl, l1⟩
theorem far_any (xs : List (Int × Int)) : xs.any farB = false ↔ ∀ c ∈ xs, In60 c := by
  rw [List.any_eq_false]
  constructor
  · intro h c hc
    have := h c hc
    exact (farB_no c).1 (by simpa using this)
  · intro h c hc
    rw [(farB_no c).2 (h c hc)]; simp
theorem downM_is (xs : List (Int × Int)) : downM xs = xs.map (mvC (-mnF Prod.fst xs) (-mnF Prod.snd xs)) := rfl
theorem min60 {xs : List (Int × Int)} (h0 : 0 < xs.length) (h : ∀ c ∈ xs, In60 c) : (-60 ≤ mnF Prod.fst xs ∧ mnF Prod.fst xs ≤ 60) ∧ -60 ≤ mnF Prod.snd xs ∧ mnF Prod.snd xs ≤ 60 := by
  have hne : xs ≠ [] := by intro e; subst e; simp at h0
  obtain ⟨c, hc, e1⟩ := mnF_mem Prod.fst xs hne
  obtain ⟨d, hd, e2⟩ := mnF_mem Prod.snd xs hne
  have a1 := h c hc
  have a2 := h d hd
  unfold In60 at a1 a2
  omega
theorem wf_small {xs : List (Int × Int)} (h : ∀ c ∈ xs, In60 c) (h0 : 0 < xs.length) : WfL (downL xs) := fun c hc => by
  obtain ⟨d, hd, rfl⟩ := mem_downM.1 hc
  have a := h d hd
  have b := min60 h0 h
  unfold In60 at a
  unfold WfC mvC
  simp only
  omega
set_option maxRecDepth 100000 in
set_option maxHeartbeats 3200000 in
theorem putDown_any (v : Value) (xs : List (Int × Int)) (w : World) (hr : LoadRow w v xs) (hn : xs.length ≤ 2000000) :
    Calls Try.prog 25 #[v] w fun e w' => ∃ u0, e = .returned (.tuple #[u0, .bool (pdB xs)]) ∧ MineL w' w.heap.size w'.heap.size u0 (pdL xs) ∧ Below w.heap.size w w' := by
  have HY := Lib.hid (fun h : PdF xs => pd_yes h)
  have HN := Lib.hid (fun h : ¬ PdF xs => pd_no h)
  generalize pdB xs = b at *
  generalize pdL xs = ys at *
  by_cases h12 : 1 ≤ xs.length ∧ xs.length ≤ 12
  case neg =>
    have C1 := Lib.hid (fun w => isCellCount_any (xs.length : Int) w)
    rw [show (decide (1 ≤ (xs.length : Int)) && decide ((xs.length : Int) ≤ 12)) = false from in_no (by omega)] at C1
    obtain ⟨rfl, rfl⟩ := HN.out (fun h => h12 ⟨h.one, h.short⟩)
    obtain ⟨a, c, rfl, _⟩ := hr
    clear h12
    go_enter Try.func25, Try.ntmps25
    go_wp2_with fail
    refine (C1.out _).mono ?_
    rintro e w' ⟨rfl, rfl⟩
    go_wp2
    go_ret2
    exact ⟨_, rfl, mineL_nil _ _ _ _ _, Below.refl _ _⟩
  have C1 := Lib.hid (fun w => isCellCount_any (xs.length : Int) w)
  rw [show (decide (1 ≤ (xs.length : Int)) && decide ((xs.length : Int) ≤ 12)) = true from in_yes (by omega)] at C1
  have CF := Lib.hid (contains_far farB v xs w hr (by omega) (fun c _ w1 _ => isFar_any c.1 c.2 w1))
  have HFA := Lib.hid (far_any xs)
  generalize xs.any farB = f at CF HFA
  cases f with
  | true =>
    obtain ⟨rfl, rfl⟩ := HN.out (fun h => by have := HFA.out.2 h.near; cases this)
    obtain ⟨a, c, rfl, _⟩ := hr
    go_enter Try.func25, Try.ntmps25
    go_wp2_with fail
    refine (C1.out _).mono ?_
    rintro e w' ⟨rfl, rfl⟩
    go_wp2_with fail
    refine CF.out.mono ?_
    rintro e w1 ⟨rfl, l1⟩
    go_wp2
    go_ret2
    exact ⟨_, rfl, mineL_nil _ _ _ _ _, l1⟩
  | false =>
    have hin := HFA.out.1 rfl
    have CO := Lib.hid (fun w1 (l : Below w.heap.size w w1) => cornerOf_any v xs w1 (hr.lo l) (by omega) (by omega))
    have MB := Lib.hid (fun w1 (l : Below w.heap.size w w1) => movedBy_any v xs (-mnF Prod.fst xs) (-mnF Prod.snd xs) w1 (hr.lo l) (by omega) (by omega) (fun c hc => (hin c hc).sm) (by have := min60 (by omega) hin; omega) (by have := min60 (by omega) hin; omega))
    rw [← downM_is] at MB
    have SO := Lib.hid (fun gg (w1 : World) (B : Nat) (h : OwnC w1 B (.slice (some ⟨gg, 0, none⟩) (downM xs).length xs.length) (downM xs)) (hg : gg < w1.heap.size) => sortC_any gg xs.length B (downM xs) w1 h hg (by unfold downM; rw [List.length_map]; omega))
    rw [show (downM xs).length = xs.length by unfold downM; rw [List.length_map]] at SO
    have IB := Lib.hid (fun (u : Value) (w1 : World) (h : LoadRow w1 u (downL xs)) => isBody_any u (downL xs) w1 h (wf_small hin (by omega)) (by rw [downL_len]; omega))
    have HDL := Lib.hid (show sortL (downM xs) = downL xs from rfl)
    rw [HDL.out] at SO
    have HBO := Lib.hid (bodB_iff (downL xs))
    have HPY := Lib.hid (fun h : BodF (downL xs) => HY.out ⟨h12.1, h12.2, hin, h⟩)
    have HPN := Lib.hid (fun h : ¬ BodF (downL xs) => HN.out (fun k => h k.bod))
    have hmin := min60 (by omega) hin
    clear HDL hin HFA
    generalize bodB (downL xs) = t at IB HBO
    generalize downL xs = ds at SO IB HPY HPN HBO
    generalize downM xs = dm at MB SO
    generalize mnF Prod.fst xs = m1 at CO MB hmin
    generalize mnF Prod.snd xs = m2 at CO MB hmin
    obtain ⟨⟨e1, e2⟩, e3, e4⟩ := hmin
    obtain ⟨a, c, rfl, _⟩ := hr
    go_enter Try.func25, Try.ntmps25
    go_wp2_with fail
    refine (C1.out _).mono ?_
    rintro e w' ⟨rfl, rfl⟩
    go_wp2_with fail
    refine CF.out.mono ?_
    rintro e w1 ⟨rfl, l1⟩
    have L1 := Lib.hid l1
    clear l1 CF
    go_wp2_with fail
    refine (CO.out w1 L1.out).mono ?_
    rintro e w2 ⟨rfl, l2⟩
    have L2 := Lib.hid (lo_on L1.out l2)
    clear l2 CO
    obtain ⟨WB, hWB⟩ : ∃ X, w2.alloc (.cells #[.int .i64 m1, .int .i64 m2] 29) = X := ⟨_, rfl⟩
    have LB := Lib.hid (show Below w.heap.size w WB by rw [← hWB]; exact L2.out.alloc L2.out.size _)
    obtain ⟨_, b1, b2, _, _⟩ := (show Cel2 WB w2.heap.size (m1, m2) by rw [← hWB]; exact cel2_new _ _ _ _)
    simp only at b1 b2
    go_wp2_with fail
    clear hWB
    refine (MB.out WB LB.out).mono ?_
    rintro e w3 ⟨gg, rfl, ho, hg, l3⟩
    have hlo := ho.lt gg rfl
    have L3 := Lib.hid (lo_on LB.out l3)
    have HLO := Lib.hid (show w.heap.size ≤ gg from Nat.le_trans LB.out.size hlo.1)
    have SO2 := Lib.hid (SO.out gg w3 _ ho hg)
    clear ho hg l3 MB SO hlo b1 b2
    go_wp2_with fail
    refine SO2.out.mono ?_
    rintro e w4 ⟨rfl, hm, l4⟩
    have L4 := Lib.hid (show Below w.heap.size w w4 from L3.out.trans (l4.mono HLO.out))
    have HM := Lib.hid hm
    have IB2 := Lib.hid (IB.out _ w4 hm.row)
    clear hm l4 IB SO2
    cases t with
    | true =>
      obtain ⟨rfl, rfl⟩ := HPY.out (HBO.out.1 rfl)
      go_wp2_with fail
      refine IB2.out.mono ?_
      rintro e w5 ⟨rfl, l5⟩
      go_wp2
      go_ret2
      refine ⟨_, rfl, ?_, lo_on L4.out l5⟩
      have h5 := HM.out.lo l5
      rcases h5 with h | ⟨g', c', e', q1, q2, q3, q4, q5⟩
      · exact .inl h
      · exact .inr ⟨g', c', e', Nat.le_trans HLO.out q1, by omega, Nat.le_refl _, q4, q5⟩
    | false =>
      obtain ⟨rfl, rfl⟩ := HPN.out (fun h => by have := HBO.out.2 h; cases this)
      go_wp2_with fail
      refine IB2.out.mono ?_
      rintro e w5 ⟨rfl, l5⟩
      go_wp2
      go_ret2
      exact ⟨_, rfl, mineL_nil _ _ _ _ _, lo_on L4.out l5⟩
end Go.Proofs.Ytmcjichpeijiaaa
