/- CoinsWith where it fails, and the model's. -/
import Derived.Test.YtghpacgbkknhbaaWith2
namespace Go.Proofs.Ytghpacgbkknhbaa
open Go.RowKit Go.Maps
set_option maxRecDepth 100000 in
set_option maxHeartbeats 3200000 in
theorem coinsWith_no (n : Int) (v u : Value) (xss : List (List Int)) (os : List Int) (w : World) (hr : TabRow w v xss) (hb : SmallT xss) (hu : IntRow w u os) (ho : os.length ≤ 2000000) (h : ¬ okW n xss os) :
    Calls Try.prog 48 #[.int .i64 n, v, u] w fun e w' => ∃ u0, e = .returned (.tuple #[u0, .bool false]) ∧ MineL w' w.heap.size w'.heap.size u0 [] ∧ Below w.heap.size w w' := by
  have LA := Lib.hid ((Below.refl w.heap.size w).alloc (Nat.le_refl _) (.cells #[.int .i64 1, .int .i64 (-1)] 3))
  have hsb := hb.1
  by_cases hg : (coinsB n && planB n xss) = true
  case neg =>
    have hf : (coinsB n && planB n xss) = false := by simpa using hg
    have BY := Lib.hid (fun (w1 : World) (z : Value) (l : Below w.heap.size w w1) => byOutcome_no n v z xss w1 (hr.lo l) hb hf)
    clear hg hf hr hb hu h
    go_enter Try.func48, Try.ntmps48
    go_wp2_with fail
    refine (BY.out _ _ LA.out).mono ?_
    rintro e w2 ⟨rfl, l2⟩
    have L2 := Lib.hid (LA.out.trans (l2.mono (by simp)))
    clear l2
    go_wp2
    try rw [Exit.noGoto_ret]
    go_ret2
    exact ⟨_, rfl, mineL_nil _ _ _ _ _, L2.out⟩
  have hg' := (Bool.and_eq_true _ _).mp hg
  obtain ⟨N, rfl⟩ : ∃ N : Nat, n = N := ⟨n.toNat, by have := hg'.1; unfold coinsB at this; simp at this; omega⟩
  have BY := Lib.hid (fun (w1 : World) (z : Value) (l : Below w.heap.size w w1) (hz : IntRow w1 z [1, -1]) => byOutcome_yes N v z xss [1, -1] w1 (hr.lo l) hb hg'.1 ((propB_iff _).1 hg'.2) hz (by simp) bothZ)
  have U1 := Lib.hid (rowLit w [1, -1])
  obtain ⟨a, c, rfl, _⟩ := hr
  by_cases hl : os.length = xss.length
  case neg =>
    obtain ⟨a2, c2, rfl, _⟩ := hu
    have hln : ((os.length : Int) != (xss.length : Int)) = true := by simp; omega
    clear hg hg' hb h hl
    go_enter Try.func48, Try.ntmps48
    go_wp2_with fail
    refine (BY.out _ _ LA.out U1.out).mono ?_
    rintro e w2 ⟨b, rfl, _, _, l2⟩
    have L2 := Lib.hid (LA.out.trans (l2.mono (by simp)))
    clear l2
    go_wp2
    try rw [Exit.noGoto_ret]
    go_ret2
    exact ⟨_, rfl, mineL_nil _ _ _ _ _, L2.out⟩
  have hs : signsB os = false := propB_no (fun hs => h ⟨hg, hl, hs⟩)
  have AS := Lib.hid (fun (w1 : World) (l : Below w.heap.size w w1) => areSigns_any u os w1 (hu.lo l) ho)
  rw [hs] at AS
  obtain ⟨a2, c2, rfl, _⟩ := hu
  rw [hl] at AS ⊢
  have hln : ((xss.length : Int) != (xss.length : Int)) = false := by simp
  clear hg hg' hb h hl hs
  go_enter Try.func48, Try.ntmps48
  go_wp2_with fail
  refine (BY.out _ _ LA.out U1.out).mono ?_
  rintro e w2 ⟨b, rfl, _, _, l2⟩
  have L2 := Lib.hid (LA.out.trans (l2.mono (by simp)))
  clear l2
  go_wp2_with fail
  refine (AS.out _ L2.out).mono ?_
  rintro e w3 ⟨rfl, l3⟩
  have L3 := Lib.hid (L2.out.trans (l3.mono L2.out.size))
  clear l3
  go_wp2
  try rw [Exit.noGoto_ret]
  go_ret2
  exact ⟨_, rfl, mineL_nil _ _ _ _ _, L3.out⟩
theorem coinsWith_impl (n : Int) (v u : Value) (xss : List (List Int)) (os : List Int) (w : World) (hr : TabRow w v xss) (hb : SmallT xss) (hu : IntRow w u os) (ho : os.length ≤ 2000000) :
    Calls Try.prog 48 #[.int .i64 n, v, u] w fun e w' => ∃ u0, e = .returned (.tuple #[u0, .bool (withB n xss os)]) ∧ MineL w' w.heap.size w'.heap.size u0 (withL n xss os) ∧ Below w.heap.size w w' := by
  by_cases h : okW n xss os
  · have hg' := (Bool.and_eq_true _ _).mp h.1
    obtain ⟨N, rfl⟩ : ∃ N : Nat, n = N := ⟨n.toNat, by have := hg'.1; unfold coinsB at this; simp at this; omega⟩
    rw [show withB (N : Int) xss os = true from propB_yes h]
    exact coinsWith_yes N v u xss os w hr hb hu h
  · rw [withL, show withB n xss os = false from propB_no h]
    exact coinsWith_no n v u xss os w hr hb hu ho h
end Go.Proofs.Ytghpacgbkknhbaa
