/- For every input: FnExactLeverRow returns true and leaves its arguments as they were. Conditions: none beyond the given row's own. -/
import Derived.Test.YtpklccpkgefniaaRows
import Derived.Test.YtpklccpkgefniaaBase
import Derived.Test.YtpklccpkgefniaaCg6
import Derived.Test.YtpklccpkgefniaaWLeverRow
import Derived.WalkKit
import Derived.ProofKit
import Derived.OpenShut
import Derived.ShutString
import Derived.ChangeOld
import Derived.Below
import Derived.HandedShaped
namespace Go.Proofs.Ytpklccpkgefniaa.fnExactLeverRow
open Go.ChangeShapes Go.WideShapes Go.ChangeAt Go.RowKit
open Go.ChangeMaps (open_string shut_string)
set_option linter.unusedVariables false
set_option maxRecDepth 100000 in
theorem contract (H : Type) (enc : TypeId × Value → H) (W : World) (base : Nat) (args : Array Value) (ds gs : List (DataW H)) (before : List MemPlace)
    (hval : ∀ (j : Nat) t v, Try.f10.params[j]? = some t → args[j]? = some v → Value.okWide Try.prog W .any base t v)
    (hW : DataW.Whole enc Try.prog Try.f10.params.toList Rows.fnExactLeverRowSpec.vars false W args.toList ds gs before) (hsh : W.ShapedOpen Try.prog) :
    Calls Try.prog 10 args W fun e W' => ∃ v, e = .returned v ∧ Rows.fnExactLeverRowSpec.post enc Try.prog Try.f10 false true false false W args v W' := by
  have hW' := hW
  obtain ⟨p, q, hA0, hV, rfl, hfz, hnd⟩ := hW
  have hA : DataW.TrodAll enc Try.prog W 0 (fun _ => true) true Try.f10.params.toList args.toList ds p := hA0
  rw [Try.params10] at hA hval
  obtain ⟨v0, vs0, d0, ds0, p0, q0, hargs, rfl, rfl, h0, r0⟩ := trodAll_cons hA
  obtain ⟨v1, vs1, d1, ds1, p1, q1, rfl, rfl, rfl, h1, r1⟩ := trodAll_cons r0
  obtain ⟨v2, vs2, d2, ds2, p2, q2, rfl, rfl, rfl, h2, r2⟩ := trodAll_cons r1
  obtain ⟨rfl, rfl, rfl⟩ := trodAll_nil r2
  obtain rfl : args = #[v0, v1, v2] := by cases args; simp_all
  obtain ⟨rfl, rfl⟩ := trodVars_none hV
  have k0 := h0
  have lt0 : ∀ x ∈ p0, x.block < W.heap.size := by obtain ⟨m, hm⟩ := k0; exact DataW.trod_lt m _ _ _ hm
  obtain ⟨z0, w0⟩ : ∃ p, StageIn v0 p := by
    exact open_stage Try.underlying23 (by kernel_rfl) (by kernel_rfl) Try.underlying3 Try.underlying3 Try.underlying3 (hval 0 23 v0 rfl rfl) h0
  obtain ⟨a1, rfl, rfl, rfl, w1⟩ := open_int Try.underlying3 (hval 1 3 v1 rfl rfl) h1
  obtain ⟨a2, rfl, rfl, rfl, w2⟩ := open_int Try.underlying3 (hval 2 3 v2 rfl rfl) h2
  clear hA0
  have walk : Calls Try.prog 10 #[v0, .int .i64 a1, .int .i64 a2] W fun e w' => e = .returned (.bool true) ∧ Below W.heap.size W w' := by
    obtain rfl : v0 = _ := w0
    exact exLeverRow_walk z0 a1 a2 W _ (lvF_len z0 a1 a2) _ (fun w => (specLever_any z0 a1 a2 w).mono (fun _ _ ⟨u, h1, h2, h3⟩ => ⟨u, h1, h2.row, h3⟩)) (fun w => implLever_any z0 a1 a2 w)
  refine walk.mono fun e W' ⟨he, bel⟩ => ?_
  subst he
  exact ⟨_, rfl, _, _, _, [], _, [], hW', trodAll_mk1 (shut_bool Try.underlying4 _), (trodAll_cons_mk (Below.trod laidOut (by kernel_rfl) (of_decide_eq_true (by kernel_rfl)) k0 bel lt0) (trodAll_cons_mk (shut_int Try.underlying3 w1) (trodAll_cons_mk (shut_int Try.underlying3 w2) trodAll_mk0))), rfl, bel.frame _, fun h => by cases h⟩
set_option maxRecDepth 100000 in
theorem lifted (os : Os) (started : os.Started) (H : Type) (enc : TypeId × Value → H) :
    ReturnsInHanded {} Try.checked os 10 .any (Rows.fnExactLeverRowSpec.pre6 enc Try.prog Try.f10 Rows.fnExactLeverRowRow.domain false) (Rows.fnExactLeverRowSpec.post enc Try.prog Try.f10 false true false false) := by
  refine returnsInHanded_of_change_shaped (C := Try.checked) own started (by kernel_rfl) Try.func10
    (ChangeSpec.witness6 (enc := enc) (C := Try.checked) false ⟨#[], #[.agg #[.int .i64 0, .int .i64 0, .int .i64 0], .int .i64 0, .int .i64 0], []⟩ 8 (by kernel_rfl) (by kernel_rfl) (by kernel_rfl) (by kernel_rfl)) ?_
  intro W base args ds gs before hval hW _ _ hsh _
  exact contract H enc W base args ds gs before hval hW hsh
theorem fact1 : Try.checked.prog.funcNamed Rows.fnExactLeverRowRow.func = some 10 := by kernel_rfl
theorem fact2 : Facts1 Try.checked.prog Try.f10 Rows.fnExactLeverRowSpec Rows.fnExactLeverRowRow = true := by kernel_rfl
theorem fact3 : Facts2 Try.checked.prog Try.f10 Rows.fnExactLeverRowSpec Rows.fnExactLeverRowRow = true := by kernel_rfl
theorem fact4 : Facts3 Try.checked.prog Try.f10 Rows.fnExactLeverRowSpec Rows.fnExactLeverRowRow = true := by kernel_rfl
theorem fact5 : (Rows.fnExactLeverRowRow.inPlace == Try.checked.prog.inPlace 10) = true := by kernel_rfl
theorem fact6 : (Rows.fnExactLeverRowRow.unfollowed == Try.checked.prog.unfollowed 10) = true := by kernel_rfl
theorem fact7 : (Rows.fnExactLeverRowRow.recurses == Try.checked.prog.recurses 10) = true := by kernel_rfl
theorem fact8 : (Rows.fnExactLeverRowRow.named == Try.checked.prog.varsNamed 10) = true := by kernel_rfl
theorem joinedAll : joinedFacts Try.checked.prog 10 Try.f10 Rows.fnExactLeverRowSpec Rows.fnExactLeverRowRow = true := joined_parts fact2 fact3 fact4 fact5 fact6 fact7 fact8 laidOut rowed stopsNone knobsNone heard enters finals making
theorem instanceNo : Try.f10.isInstance Try.checked.prog Rows.fnExactLeverRowRow.origin Rows.fnExactLeverRowRow.targs := of_decide_eq_true (by kernel_rfl)
theorem wrapperNo : Try.f10.isWrapper Try.checked.prog Rows.fnExactLeverRowRow.wrapper Rows.fnExactLeverRowRow.mainSum := by unfold Func.isWrapper; first | (rw [if_pos (by decide +kernel)]; kernel_rfl) | (rw [if_neg (by decide +kernel)]; exact ⟨rfl, rfl⟩)
/-- The given statement. -/
theorem proved : Rows.FnExactLeverRowSaid :=
  OpenClaim.holds_of_wide (p := Try.pinned) 10 Try.f10 rfl rfl rfl rfl rfl rfl rfl ⟨rfl, rfl, rfl, rfl, rfl⟩ rfl rfl rfl rfl rfl fact1 Try.func10 joinedAll instanceNo wrapperNo
    (fun os started H enc _ => lifted os started H enc)
end Go.Proofs.Ytpklccpkgefniaa.fnExactLeverRow
