/- For every input: FnExactInfluenceOf returns true and leaves its arguments as they were. Conditions: none beyond the given row's own. -/
import Derived.Test.YthncgcdnljoakaaRows
import Derived.Test.YthncgcdnljoakaaBase
import Derived.Test.YthncgcdnljoakaaBi3
import Derived.Test.YthncgcdnljoakaaWInfluenceOf
import Derived.WalkKit
import Derived.ProofKit
import Derived.OpenShut
import Derived.ShutString
import Derived.ChangeOld
import Derived.Below
import Derived.HandedShaped
namespace Go.Proofs.Ythncgcdnljoakaa.fnExactInfluenceOf
open Go.ChangeShapes Go.WideShapes Go.ChangeAt Go.RowKit
open Go.ChangeMaps (open_string shut_string)
set_option linter.unusedVariables false
set_option maxRecDepth 100000 in
theorem contract (H : Type) (enc : TypeId × Value → H) (W : World) (base : Nat) (args : Array Value) (ds gs : List (DataW H)) (before : List MemPlace)
    (hval : ∀ (j : Nat) t v, Try.f9.params[j]? = some t → args[j]? = some v → Value.okWide Try.prog W .any base t v)
    (hW : DataW.Whole enc Try.prog Try.f9.params.toList Rows.fnExactInfluenceOfSpec.vars false W args.toList ds gs before) (hsh : W.ShapedOpen Try.prog) :
    Calls Try.prog 9 args W fun e W' => ∃ v, e = .returned v ∧ Rows.fnExactInfluenceOfSpec.post enc Try.prog Try.f9 false true false false W args v W' := by
  have hW' := hW
  obtain ⟨p, q, hA0, hV, rfl, hfz, hnd⟩ := hW
  have hA : DataW.TrodAll enc Try.prog W 0 (fun _ => true) true Try.f9.params.toList args.toList ds p := hA0
  rw [Try.params9] at hA hval
  obtain ⟨v0, vs0, d0, ds0, p0, q0, hargs, rfl, rfl, h0, r0⟩ := trodAll_cons hA
  obtain ⟨v1, vs1, d1, ds1, p1, q1, rfl, rfl, rfl, h1, r1⟩ := trodAll_cons r0
  obtain ⟨rfl, rfl, rfl⟩ := trodAll_nil r1
  obtain rfl : args = #[v0, v1] := by cases args; simp_all
  obtain ⟨rfl, rfl⟩ := trodVars_none hV
  have k0 := h0
  have lt0 : ∀ x ∈ p0, x.block < W.heap.size := by obtain ⟨m, hm⟩ := k0; exact DataW.trod_lt m _ _ _ hm
  obtain ⟨z0, w0⟩ : ∃ p, BeamIn v0 p := by
    exact open_beam Try.underlying23 (by kernel_rfl) (by kernel_rfl) Try.underlying3 Try.underlying3 Try.underlying3 (hval 0 23 v0 rfl rfl) h0
  obtain ⟨a1, rfl, rfl, rfl, w1⟩ := open_int Try.underlying3 (hval 1 3 v1 rfl rfl) h1
  clear hA0
  have walk : Calls Try.prog 9 #[v0, .int .i64 a1] W fun e w' => e = .returned (.bool true) ∧ Below W.heap.size W w' := by
    obtain rfl : v0 = _ := w0
    exact exInfluenceOf_walk z0 a1 W _ (infR_len z0 a1) _ (fun w => (specInf_any z0 a1 w).mono fun _ _ ⟨u, h1, h2, h3⟩ => ⟨u, h1, h2.row, h3⟩) (fun w => inf_any z0 a1 w)
  refine walk.mono fun e W' ⟨he, bel⟩ => ?_
  subst he
  exact ⟨_, rfl, _, _, _, [], _, [], hW', trodAll_mk1 (shut_bool Try.underlying4 _), (trodAll_cons_mk (Below.trod laidOut (by kernel_rfl) (of_decide_eq_true (by kernel_rfl)) k0 bel lt0) (trodAll_cons_mk (shut_int Try.underlying3 w1) trodAll_mk0)), rfl, bel.frame _, fun h => by cases h⟩
set_option maxRecDepth 100000 in
theorem lifted (os : Os) (started : os.Started) (H : Type) (enc : TypeId × Value → H) :
    ReturnsInHanded {} Try.checked os 9 .any (Rows.fnExactInfluenceOfSpec.pre6 enc Try.prog Try.f9 Rows.fnExactInfluenceOfRow.domain false) (Rows.fnExactInfluenceOfSpec.post enc Try.prog Try.f9 false true false false) := by
  refine returnsInHanded_of_change_shaped (C := Try.checked) own started (by kernel_rfl) Try.func9
    (ChangeSpec.witness6 (enc := enc) (C := Try.checked) false ⟨#[], #[.agg #[.int .i64 0, .int .i64 0, .int .i64 0], .int .i64 0], []⟩ 8 (by kernel_rfl) (by kernel_rfl) (by kernel_rfl) (by kernel_rfl)) ?_
  intro W base args ds gs before hval hW _ _ hsh _
  exact contract H enc W base args ds gs before hval hW hsh
theorem fact1 : Try.checked.prog.funcNamed Rows.fnExactInfluenceOfRow.func = some 9 := by kernel_rfl
theorem fact2 : Facts1 Try.checked.prog Try.f9 Rows.fnExactInfluenceOfSpec Rows.fnExactInfluenceOfRow = true := by kernel_rfl
theorem fact3 : Facts2 Try.checked.prog Try.f9 Rows.fnExactInfluenceOfSpec Rows.fnExactInfluenceOfRow = true := by kernel_rfl
theorem fact4 : Facts3 Try.checked.prog Try.f9 Rows.fnExactInfluenceOfSpec Rows.fnExactInfluenceOfRow = true := by kernel_rfl
theorem fact5 : (Rows.fnExactInfluenceOfRow.inPlace == Try.checked.prog.inPlace 9) = true := by kernel_rfl
theorem fact6 : (Rows.fnExactInfluenceOfRow.unfollowed == Try.checked.prog.unfollowed 9) = true := by kernel_rfl
theorem fact7 : (Rows.fnExactInfluenceOfRow.recurses == Try.checked.prog.recurses 9) = true := by kernel_rfl
theorem fact8 : (Rows.fnExactInfluenceOfRow.named == Try.checked.prog.varsNamed 9) = true := by kernel_rfl
theorem joinedAll : joinedFacts Try.checked.prog 9 Try.f9 Rows.fnExactInfluenceOfSpec Rows.fnExactInfluenceOfRow = true := joined_parts fact2 fact3 fact4 fact5 fact6 fact7 fact8 laidOut rowed stopsNone knobsNone heard enters finals making
theorem instanceNo : Try.f9.isInstance Try.checked.prog Rows.fnExactInfluenceOfRow.origin Rows.fnExactInfluenceOfRow.targs := of_decide_eq_true (by kernel_rfl)
theorem wrapperNo : Try.f9.isWrapper Try.checked.prog Rows.fnExactInfluenceOfRow.wrapper Rows.fnExactInfluenceOfRow.mainSum := by unfold Func.isWrapper; first | (rw [if_pos (by decide +kernel)]; kernel_rfl) | (rw [if_neg (by decide +kernel)]; exact ⟨rfl, rfl⟩)
/-- The given statement. -/
theorem proved : Rows.FnExactInfluenceOfSaid :=
  OpenClaim.holds_of_wide (p := Try.pinned) 9 Try.f9 rfl rfl rfl rfl rfl rfl rfl ⟨rfl, rfl, rfl, rfl, rfl⟩ rfl rfl rfl rfl rfl fact1 Try.func9 joinedAll instanceNo wrapperNo
    (fun os started H enc _ => lifted os started H enc)
end Go.Proofs.Ythncgcdnljoakaa.fnExactInfluenceOf
