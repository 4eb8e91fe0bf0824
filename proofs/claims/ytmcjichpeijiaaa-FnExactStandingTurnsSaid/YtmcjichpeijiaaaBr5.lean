/- The program's turned and mirrored bodies. -/
import Derived.Test.YtmcjichpeijiaaaBq3
namespace Go.Proofs.Ytmcjichpeijiaaa
open Go.RowKit Go.Maps
def bodL (b : Bool) (ys : List (Int × Int)) : List (Int × Int) := if b = true then ys else []
theorem MineL.base8 {w : World} {B B' : Nat} {v : Value} {xs : List (Int × Int)} (h : MineL w B w.heap.size v xs) (hB : B' ≤ B) : MineL w B' w.heap.size v xs := by
  rcases h with h | ⟨g, c, e, k1, r⟩
  · exact .inl h
  · exact .inr ⟨g, c, e, by omega, r⟩
theorem iso_pd {F : Int × Int → Int × Int} (hF : IsoC F) {xs : List (Int × Int)} (h : BodF xs) (hI : ∀ c ∈ xs, In60 (F c)) : PdF (xs.map F) :=
  ⟨by rw [List.length_map]; exact h.one, by rw [List.length_map]; exact h.short, fun d hd => by
    obtain ⟨c, hc, rfl⟩ := List.mem_map.1 hd
    exact hI c hc, iso_bod hF h⟩
set_option maxRecDepth 100000 in
set_option maxHeartbeats 1600000 in
theorem changed_tu (b1 : Nat) (F : Int × Int → Int × Int) (hF : IsoC F) (v : Value) (xs : List (Int × Int)) (w : World) (hr : LoadRow w v xs) (hw : WfL xs) (hn : xs.length ≤ 2000000) (hI : bodB xs = true → ∀ c ∈ xs, In60 (F c))
    (CL : bodB xs = true → ∀ c ∈ xs, ∀ w1 : World, Below w.heap.size w w1 → Calls Try.prog 101 #[.agg #[.int .i64 c.1, .int .i64 c.2], .pointer (some ⟨b1, 0, none⟩)] w1 fun e w' => e = .returned (.agg #[.int .i64 (F c).1, .int .i64 (F c).2]) ∧ Below w1.heap.size w1 w') :
    Calls Try.prog 100 #[v, .func (.func 101) #[] #[.pointer (some ⟨b1, 0, none⟩)]] w fun e w' => ∃ u0, e = .returned (.tuple #[u0, .bool (bodB xs)]) ∧ MineL w' w.heap.size w'.heap.size u0 (bodL (bodB xs) (downL (xs.map F))) ∧ Below w.heap.size w w' := by
  have C := Lib.hid (isBody_any v xs w hr hw hn)
  have EA := Lib.hid (fun (h : bodB xs = true) (w1 : World) (l : Below w.heap.size w w1) => each_tu b1 F v xs w1 (hr.lo l) ((bodB_iff xs).1 h).one (by have := ((bodB_iff xs).1 h).short; omega) (fun c hc w2 l2 => CL h c hc w2 (lo_on l l2)))
  have PD := Lib.hid (fun (h : bodB xs = true) (u : Value) (w2 : World) (hu : LoadRow w2 u (xs.map F)) => show Calls Try.prog 25 #[u] w2 fun e w' => ∃ u0, e = .returned (.tuple #[u0, .bool true]) ∧ MineL w' w2.heap.size w'.heap.size u0 (downL (xs.map F)) ∧ Below w2.heap.size w2 w' by
    have hb := (bodB_iff xs).1 h
    have p := pd_yes (iso_pd hF hb (hI h))
    have t := putDown_any u (xs.map F) w2 hu (by rw [List.length_map]; omega)
    rw [p.1, p.2] at t
    exact t)
  generalize bodB xs = b at *
  generalize downL (xs.map F) = ds at *
  generalize xs.map F = ms at *
  obtain ⟨a, c, rfl, _⟩ := hr
  clear CL hI
  unfold bodL
  cases b with
  | false =>
    go_enter Try.func100, Try.ntmps100
    go_wp2_with fail
    refine C.out.mono ?_
    rintro e w1 ⟨rfl, l1⟩
    go_wp2
    go_ret2
    exact ⟨_, rfl, mineL_nil _ _ _ _ _, l1⟩
  | true =>
    have EA2 := Lib.hid (EA.out rfl)
    have PD2 := Lib.hid (PD.out rfl)
    clear EA PD
    go_enter Try.func100, Try.ntmps100
    go_wp2_with fail
    refine C.out.mono ?_
    rintro e w1 ⟨rfl, l1⟩
    have E1 := Lib.hid (EA2.out w1 l1)
    go_wp2_with fail
    refine E1.out.mono ?_
    rintro e w2 ⟨gg, rfl, ho, hg, l2⟩
    have L2 := Lib.hid (lo_on l1 l2)
    have P2 := Lib.hid (PD2.out _ w2 (ownC_row ho))
    clear ho hg l2
    go_wp2_with fail
    refine P2.out.mono ?_
    rintro e w3 ⟨u, rfl, hm, l3⟩
    have HM := Lib.hid (hm.base8 L2.out.size)
    have L3 := Lib.hid (lo_on L2.out l3)
    clear hm l3
    go_wp2
    go_ret2
    exact ⟨_, rfl, HM.out, L3.out⟩
set_option maxRecDepth 100000 in
set_option maxHeartbeats 1600000 in
theorem changed_mi (F : Int × Int → Int × Int) (hF : IsoC F) (v : Value) (xs : List (Int × Int)) (w : World) (hr : LoadRow w v xs) (hw : WfL xs) (hn : xs.length ≤ 2000000) (hI : bodB xs = true → ∀ c ∈ xs, In60 (F c))
    (CL : bodB xs = true → ∀ c ∈ xs, ∀ w1 : World, Below w.heap.size w w1 → Calls Try.prog 102 #[.agg #[.int .i64 c.1, .int .i64 c.2]] w1 fun e w' => e = .returned (.agg #[.int .i64 (F c).1, .int .i64 (F c).2]) ∧ Below w1.heap.size w1 w') :
    Calls Try.prog 100 #[v, .func (.func 102) #[] #[]] w fun e w' => ∃ u0, e = .returned (.tuple #[u0, .bool (bodB xs)]) ∧ MineL w' w.heap.size w'.heap.size u0 (bodL (bodB xs) (downL (xs.map F))) ∧ Below w.heap.size w w' := by
  have C := Lib.hid (isBody_any v xs w hr hw hn)
  have EA := Lib.hid (fun (h : bodB xs = true) (w1 : World) (l : Below w.heap.size w w1) => each_mi F v xs w1 (hr.lo l) ((bodB_iff xs).1 h).one (by have := ((bodB_iff xs).1 h).short; omega) (fun c hc w2 l2 => CL h c hc w2 (lo_on l l2)))
  have PD := Lib.hid (fun (h : bodB xs = true) (u : Value) (w2 : World) (hu : LoadRow w2 u (xs.map F)) => show Calls Try.prog 25 #[u] w2 fun e w' => ∃ u0, e = .returned (.tuple #[u0, .bool true]) ∧ MineL w' w2.heap.size w'.heap.size u0 (downL (xs.map F)) ∧ Below w2.heap.size w2 w' by
    have hb := (bodB_iff xs).1 h
    have p := pd_yes (iso_pd hF hb (hI h))
    have t := putDown_any u (xs.map F) w2 hu (by rw [List.length_map]; omega)
    rw [p.1, p.2] at t
    exact t)
  generalize bodB xs = b at *
  generalize downL (xs.map F) = ds at *
  generalize xs.map F = ms at *
  obtain ⟨a, c, rfl, _⟩ := hr
  clear CL hI
  unfold bodL
  cases b with
  | false =>
    go_enter Try.func100, Try.ntmps100
    go_wp2_with fail
    refine C.out.mono ?_
    rintro e w1 ⟨rfl, l1⟩
    go_wp2
    go_ret2
    exact ⟨_, rfl, mineL_nil _ _ _ _ _, l1⟩
  | true =>
    have EA2 := Lib.hid (EA.out rfl)
    have PD2 := Lib.hid (PD.out rfl)
    clear EA PD
    go_enter Try.func100, Try.ntmps100
    go_wp2_with fail
    refine C.out.mono ?_
    rintro e w1 ⟨rfl, l1⟩
    have E1 := Lib.hid (EA2.out w1 l1)
    go_wp2_with fail
    refine E1.out.mono ?_
    rintro e w2 ⟨gg, rfl, ho, hg, l2⟩
    have L2 := Lib.hid (lo_on l1 l2)
    have P2 := Lib.hid (PD2.out _ w2 (ownC_row ho))
    clear ho hg l2
    go_wp2_with fail
    refine P2.out.mono ?_
    rintro e w3 ⟨u, rfl, hm, l3⟩
    have HM := Lib.hid (hm.base8 L2.out.size)
    have L3 := Lib.hid (lo_on L2.out l3)
    clear hm l3
    go_wp2
    go_ret2
    exact ⟨_, rfl, HM.out, L3.out⟩
noncomputable def turnB (xs : List (Int × Int)) (s : Int) : Bool := bodB xs && (decide (s = 1) || decide (s = -1))
noncomputable def turnR (xs : List (Int × Int)) (s : Int) : List (Int × Int) := bodL (turnB xs s) (turnL s xs)
theorem turn_len (s : Int) (xs : List (Int × Int)) : (turnL s xs).length = xs.length := by unfold turnL; rw [downL_len, List.length_map]
theorem mir_len (xs : List (Int × Int)) : (mirL xs).length = xs.length := by unfold mirL; rw [downL_len, List.length_map]
theorem bodL_len (b : Bool) {ys : List (Int × Int)} {n : Nat} (h : ys.length ≤ n) : (bodL b ys).length ≤ n := by
  unfold bodL; split
  · exact h
  · simp
set_option maxRecDepth 100000 in
set_option maxHeartbeats 1600000 in
theorem turnBody_any (v : Value) (xs : List (Int × Int)) (s : Int) (w : World) (hr : LoadRow w v xs) (hw : WfL xs) (hn : xs.length ≤ 2000000) :
    Calls Try.prog 36 #[v, .int .i64 s] w fun e w' => ∃ u0, e = .returned (.tuple #[u0, .bool (turnB xs s)]) ∧ MineL w' w.heap.size w'.heap.size u0 (turnR xs s) ∧ Below w.heap.size w w' := by
  obtain ⟨W, hW⟩ : ∃ W, w.alloc (.cells #[.int .i64 s] 3) = W := ⟨_, rfl⟩
  have LW := Lib.hid (show Below w.heap.size w W by rw [← hW]; exact below_new _ _)
  have k1 : W.cell? ⟨w.heap.size, 0, none⟩ = some (.int .i64 s) := by rw [← hW, World.cell?_alloc_at _ _ _ _ rfl]; rfl
  by_cases hs : s = 1 ∨ s = -1
  · have CH := Lib.hid (changed_tu w.heap.size (tuC s) (tuC_iso s hs) v xs W (hr.lo LW.out) hw hn (fun h c hc => by
      have hb := ((bodB_iff xs).1 h).hi c hc
      unfold In60 tuC
      rcases hs with rfl | rfl <;> simp only <;> omega) (fun h c hc w1 l => by
      have hb := ((bodB_iff xs).1 h).hi c hc
      exact tuClo_any c.1 c.2 s w.heap.size w1 ((l.cell (p := ⟨w.heap.size, 0, none⟩) (cell_lt k1)).trans k1) hs (by omega) (by omega)))
    have e : turnB xs s = bodB xs := by
      unfold turnB
      rcases hs with rfl | rfl <;> simp
    unfold turnR
    rw [e]
    rw [show downL (xs.map (tuC s)) = turnL s xs from rfl] at CH
    generalize bodL (bodB xs) (turnL s xs) = ys at *
    generalize bodB xs = b at *
    obtain ⟨a, c, rfl, _⟩ := hr
    rcases hs with rfl | rfl
    all_goals
      (go_enter Try.func36, Try.ntmps36
       go_wp2_with fail
       clear hW
       refine CH.out.mono ?_
       rintro e w1 ⟨u, rfl, hm, l1⟩
       have HM := Lib.hid (hm.base8 LW.out.size)
       have L1 := Lib.hid (lo_on LW.out l1)
       clear hm l1
       go_wp2
       go_ret2
       exact ⟨_, rfl, HM.out, L1.out⟩)
  · have h1 : (s == 1) = false := by simp; omega
    have h2 : (s == -1) = false := by simp; omega
    have h3 : s ≠ 1 := by omega
    have h4 : s ≠ -1 := by omega
    have e : turnB xs s = false := by unfold turnB; simp [h3, h4]
    have h5 : (s != 1) = true := by simpa using h3
    have h6 : (s != -1) = true := by simpa using h4
    unfold turnR
    rw [e]
    obtain ⟨a, c, rfl, _⟩ := hr
    go_enter Try.func36, Try.ntmps36
    go_wp2
    go_ret2
    exact ⟨_, rfl, mineL_nil _ _ _ _ _, LW.out⟩
set_option maxRecDepth 100000 in
set_option maxHeartbeats 1600000 in
theorem mirrorBody_any (v : Value) (xs : List (Int × Int)) (w : World) (hr : LoadRow w v xs) (hw : WfL xs) (hn : xs.length ≤ 2000000) :
    Calls Try.prog 38 #[v] w fun e w' => ∃ u0, e = .returned (.tuple #[u0, .bool (bodB xs)]) ∧ MineL w' w.heap.size w'.heap.size u0 (bodL (bodB xs) (mirL xs)) ∧ Below w.heap.size w w' := by
  have CH := Lib.hid (changed_mi miC miC_iso v xs w hr hw hn (fun h c hc => by
      have hb := ((bodB_iff xs).1 h).hi c hc
      unfold In60 miC
      simp only; omega) (fun h c hc w1 l => by
      have hb := ((bodB_iff xs).1 h).hi c hc
      exact miClo_any c.1 c.2 w1 (by omega)))
  rw [show downL (xs.map miC) = mirL xs from rfl] at CH
  generalize bodL (bodB xs) (mirL xs) = ys at *
  generalize bodB xs = b at *
  obtain ⟨a, c, rfl, _⟩ := hr
  go_enter Try.func38, Try.ntmps38
  go_wp2_with fail
  refine CH.out.mono ?_
  rintro e w1 ⟨u, rfl, hm, l1⟩
  have HM := Lib.hid hm
  have L1 := Lib.hid l1
  clear hm l1
  go_wp2
  go_ret2
  exact ⟨_, rfl, HM.out, L1.out⟩
end Go.Proofs.Ytmcjichpeijiaaa
