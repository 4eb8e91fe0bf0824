/- The contracts of both HowToWeigh for all arguments. -/
import Derived.Test.YtghpacgbkknhbaaHow2
namespace Go.Proofs.Ytghpacgbkknhbaa
open Go.RowKit
set_option maxRecDepth 100000 in
set_option maxHeartbeats 1600000 in
theorem howTo_no (v : Value) (ks : List Int) (n : Int) (w : World) (hr : IntRow w v ks) (hk : ks.length ≤ 2000000) (h : ¬ (KitF ks ∧ 1 ≤ n)) :
    Calls Try.prog 23 #[v, .int .i64 n] w fun e w' => ∃ u, e = .returned (.tuple #[u, .bool false]) ∧ MineI w' w.heap.size w'.heap.size u [] ∧ Below w.heap.size w w' := by
  have IK := Lib.hid (isKit_any v ks w hr hk)
  by_cases hk1 : KitF ks
  · rw [show kitB ks = true from propB_yes hk1] at IK
    have n1 : decide (n < 1) = true := by
      have : ¬ 1 ≤ n := fun e => h ⟨hk1, e⟩
      simp; omega
    clear h hk1 hr
    go_enter Try.func23, Try.ntmps23
    go_wp2
    go_step3
    go_wp2_with fail
    refine IK.out.mono ?_
    rintro e w1 ⟨rfl, l1⟩
    have L1 := Lib.hid l1
    clear l1 IK
    go_wp2
    try rw [Exit.noGoto_ret]
    go_ret2
    exact ⟨_, rfl, mineI_nil _ _ _ _ _, L1.out⟩
  · rw [show kitB ks = false from propB_no hk1] at IK
    clear h hk1 hr
    go_enter Try.func23, Try.ntmps23
    go_wp2
    go_step3
    go_wp2_with fail
    refine IK.out.mono ?_
    rintro e w1 ⟨rfl, l1⟩
    have L1 := Lib.hid l1
    clear l1 IK
    go_wp2
    try rw [Exit.noGoto_ret]
    go_ret2
    exact ⟨_, rfl, mineI_nil _ _ _ _ _, L1.out⟩
set_option maxRecDepth 100000 in
set_option maxHeartbeats 1600000 in
theorem howTo_spec_no (v : Value) (ks : List Int) (n : Int) (w : World) (hr : IntRow w v ks) (hk : ks.length ≤ 2000000) (h : ¬ (KitF ks ∧ 1 ≤ n)) :
    Calls Try.prog 24 #[v, .int .i64 n] w fun e w' => ∃ u, e = .returned (.tuple #[u, .bool false]) ∧ IntRow w' u [] ∧ Below w.heap.size w w' := by
  have IK := Lib.hid (l3Kit_any v ks w hr hk)
  by_cases hk1 : KitF ks
  · rw [show kitB ks = true from propB_yes hk1] at IK
    have n1 : decide (n < 1) = true := by
      have : ¬ 1 ≤ n := fun e => h ⟨hk1, e⟩
      simp; omega
    clear h hk1 hr
    go_enter Try.func24, Try.ntmps24
    go_wp2_with fail
    refine IK.out.mono ?_
    rintro e w1 ⟨rfl, l1⟩
    have L1 := Lib.hid (l1.alloc l1.size (.cells #[] 3))
    clear l1 IK
    go_wp2
    try rw [Exit.noGoto_ret]
    go_ret2
    exact ⟨_, rfl, intRow_nil _ _ _, L1.out⟩
  · rw [show kitB ks = false from propB_no hk1] at IK
    clear h hk1 hr
    go_enter Try.func24, Try.ntmps24
    go_wp2_with fail
    refine IK.out.mono ?_
    rintro e w1 ⟨rfl, l1⟩
    have L1 := Lib.hid (l1.alloc l1.size (.cells #[] 3))
    clear l1 IK
    go_wp2
    try rw [Exit.noGoto_ret]
    go_ret2
    exact ⟨_, rfl, intRow_nil _ _ _, L1.out⟩
noncomputable def howL (ks : List Int) (n : Int) : List Int := if propB (KitF ks ∧ 1 ≤ n) then bestR ks n else []
noncomputable def howB (ks : List Int) (n : Int) : Bool := if propB (KitF ks ∧ 1 ≤ n) then (bestF ks n (3 ^ ks.length)).1.isSome else false
theorem bestR_len (ks : List Int) (n : Int) : (bestR ks n).length ≤ ks.length := by
  unfold bestR
  split
  · simp
  · rw [sgF_len]; exact Nat.le_refl _
theorem howL_len (ks : List Int) (n : Int) : (howL ks n).length ≤ 2000000 := by
  unfold howL
  split
  · rename_i h
    rw [propB_iff] at h
    have h1 := h.1.short
    have h2 := bestR_len ks n
    omega
  · simp
theorem how_impl (v : Value) (ks : List Int) (n : Int) (w : World) (hr : IntRow w v ks) (hk : ks.length ≤ 2000000) :
    Calls Try.prog 23 #[v, .int .i64 n] w fun e w' => ∃ u, e = .returned (.tuple #[u, .bool (howB ks n)]) ∧ MineI w' w.heap.size w'.heap.size u (howL ks n) ∧ Below w.heap.size w w' := by
  unfold howB howL
  by_cases h : KitF ks ∧ 1 ≤ n
  · rw [propB_yes h]
    refine (howTo_yes v ks n w hr h.1 h.2).mono ?_
    rintro e w' ⟨u, he, hb, l⟩
    refine ⟨u, he, ?_, l⟩
    simp only [if_true]
    unfold bestR
    generalize (bestF ks n (3 ^ ks.length)).1 = bi at hb
    cases bi with
    | none => cases hb; exact mineI_nil _ _ _ _ _
    | some i => exact hb.2
  · rw [propB_no h]
    exact howTo_no v ks n w hr hk h
theorem how_spec (v : Value) (ks : List Int) (n : Int) (w : World) (hr : IntRow w v ks) (hk : ks.length ≤ 2000000) :
    Calls Try.prog 24 #[v, .int .i64 n] w fun e w' => ∃ u, e = .returned (.tuple #[u, .bool (howB ks n)]) ∧ IntRow w' u (howL ks n) ∧ Below w.heap.size w w' := by
  unfold howB howL
  by_cases h : KitF ks ∧ 1 ≤ n
  · rw [propB_yes h]
    exact howTo_spec_yes v ks n w hr h.1 h.2
  · rw [propB_no h]
    exact howTo_spec_no v ks n w hr hk h
end Go.Proofs.Ytghpacgbkknhbaa
