/- For every input: FnExactIsRaft returns true and leaves its arguments as they were. Conditions: none beyond the given row's own. -/
import Derived.Test.YtcfbnadefdcjaaaRows
import Derived.Test.YtcfbnadefdcjaaaBase
import Derived.Test.YtcfbnadefdcjaaaRg1
import Derived.Test.YtcfbnadefdcjaaaWIsRaft
import Derived.WalkKit
import Derived.ProofKit
import Derived.OpenShut
import Derived.ShutString
import Derived.ChangeOld
import Derived.Below
import Derived.HandedShaped
namespace Go.Proofs.Ytcfbnadefdcjaaa.fnExactIsRaft
open Go.ChangeShapes Go.WideShapes Go.ChangeAt Go.RowKit
open Go.ChangeMaps (open_string shut_string)
set_option linter.unusedVariables false
set_option maxRecDepth 100000 in
theorem contract (H : Type) (enc : TypeId × Value → H) (W : World) (base : Nat) (args : Array Value) (ds gs : List (DataW H)) (before : List MemPlace)
    (hval : ∀ (j : Nat) t v, Try.f3.params[j]? = some t → args[j]? = some v → Value.okWide Try.prog W .any base t v)
    (hW : DataW.Whole enc Try.prog Try.f3.params.toList Rows.fnExactIsRaftSpec.vars false W args.toList ds gs before) (hsh : W.ShapedOpen Try.prog) :
    Calls Try.prog 3 args W fun e W' => ∃ v, e = .returned v ∧ Rows.fnExactIsRaftSpec.post enc Try.prog Try.f3 false true false false W args v W' := by
  have hW' := hW
  obtain ⟨p, q, hA0, hV, rfl, hfz, hnd⟩ := hW
  have hA : DataW.TrodAll enc Try.prog W 0 (fun _ => true) true Try.f3.params.toList args.toList ds p := hA0
  rw [Try.params3] at hA hval
  obtain ⟨v0, vs0, d0, ds0, p0, q0, hargs, rfl, rfl, h0, r0⟩ := trodAll_cons hA
  obtain ⟨rfl, rfl, rfl⟩ := trodAll_nil r0
  obtain rfl : args = #[v0] := by cases args; simp_all
  obtain ⟨rfl, rfl⟩ := trodVars_none hV
  have k0 := h0
  have lt0 : ∀ x ∈ p0, x.block < W.heap.size := by obtain ⟨m, hm⟩ := k0; exact DataW.trod_lt m _ _ _ hm
  obtain ⟨z0, w0⟩ : ∃ p, RaftIn v0 p := by
    exact open_raft Try.underlying23 (by kernel_rfl) (by kernel_rfl) Try.underlying3 Try.underlying3 Try.underlying3 (hval 0 23 v0 rfl rfl) h0
  clear hA0
  have walk : Calls Try.prog 3 #[v0] W fun e w' => e = .returned (.bool true) ∧ Below W.heap.size W w' := by
    obtain rfl : v0 = _ := w0
    exact exIsRaft_walk z0 W _ (fun w => specIsRaft_any z0.a z0.b z0.o w) (fun w => implIsRaft_any z0.a z0.b z0.o w)
  refine walk.mono fun e W' ⟨he, bel⟩ => ?_
  subst he
  exact ⟨_, rfl, _, _, _, [], _, [], hW', trodAll_mk1 (shut_bool Try.underlying4 _), (trodAll_cons_mk (Below.trod laidOut (by kernel_rfl) (of_decide_eq_true (by kernel_rfl)) k0 bel lt0) trodAll_mk0), rfl, bel.frame _, fun h => by cases h⟩
set_option maxRecDepth 100000 in
theorem lifted (os : Os) (started : os.Started) (H : Type) (enc : TypeId × Value → H) :
    ReturnsInHanded {} Try.checked os 3 .any (Rows.fnExactIsRaftSpec.pre6 enc Try.prog Try.f3 Rows.fnExactIsRaftRow.domain false) (Rows.fnExactIsRaftSpec.post enc Try.prog Try.f3 false true false false) := by
  refine returnsInHanded_of_change_shaped (C := Try.checked) own started (by kernel_rfl) Try.func3
    (ChangeSpec.witness6 (enc := enc) (C := Try.checked) false ⟨#[], #[.agg #[.int .i64 0, .int .i64 0, .int .i64 0]], []⟩ 8 (by kernel_rfl) (by kernel_rfl) (by kernel_rfl) (by kernel_rfl)) ?_
  intro W base args ds gs before hval hW _ _ hsh _
  exact contract H enc W base args ds gs before hval hW hsh
theorem fact1 : Try.checked.prog.funcNamed Rows.fnExactIsRaftRow.func = some 3 := by kernel_rfl
theorem fact2 : Facts1 Try.checked.prog Try.f3 Rows.fnExactIsRaftSpec Rows.fnExactIsRaftRow = true := by kernel_rfl
theorem fact3 : Facts2 Try.checked.prog Try.f3 Rows.fnExactIsRaftSpec Rows.fnExactIsRaftRow = true := by kernel_rfl
theorem fact4 : Facts3 Try.checked.prog Try.f3 Rows.fnExactIsRaftSpec Rows.fnExactIsRaftRow = true := by kernel_rfl
theorem fact5 : (Rows.fnExactIsRaftRow.inPlace == Try.checked.prog.inPlace 3) = true := by kernel_rfl
theorem fact6 : (Rows.fnExactIsRaftRow.unfollowed == Try.checked.prog.unfollowed 3) = true := by kernel_rfl
theorem fact7 : (Rows.fnExactIsRaftRow.recurses == Try.checked.prog.recurses 3) = true := by kernel_rfl
theorem fact8 : (Rows.fnExactIsRaftRow.named == Try.checked.prog.varsNamed 3) = true := by kernel_rfl
theorem joinedAll : joinedFacts Try.checked.prog 3 Try.f3 Rows.fnExactIsRaftSpec Rows.fnExactIsRaftRow = true := joined_parts fact2 fact3 fact4 fact5 fact6 fact7 fact8 laidOut rowed stopsNone knobsNone heard enters finals making
theorem instanceNo : Try.f3.isInstance Try.checked.prog Rows.fnExactIsRaftRow.origin Rows.fnExactIsRaftRow.targs := of_decide_eq_true (by kernel_rfl)
theorem wrapperNo : Try.f3.isWrapper Try.checked.prog Rows.fnExactIsRaftRow.wrapper Rows.fnExactIsRaftRow.mainSum := by unfold Func.isWrapper; first | (rw [if_pos (by decide +kernel)]; kernel_rfl) | (rw [if_neg (by decide +kernel)]; exact ⟨rfl, rfl⟩)
/-- The given statement. -/
theorem proved : Rows.FnExactIsRaftSaid :=
  OpenClaim.holds_of_wide (p := Try.pinned) 3 Try.f3 rfl rfl rfl rfl rfl rfl rfl ⟨rfl, rfl, rfl, rfl, rfl⟩ rfl rfl rfl rfl rfl fact1 Try.func3 joinedAll instanceNo wrapperNo
    (fun os started H enc _ => lifted os started H enc)
end Go.Proofs.Ytcfbnadefdcjaaa.fnExactIsRaft
