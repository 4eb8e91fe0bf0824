/- For every input: FnExactThreesKit returns true and leaves its arguments as they were. Conditions: none beyond the given row's own. -/
import Derived.Test.YtghpacgbkknhbaaRows
import Derived.Test.YtghpacgbkknhbaaBase
import Derived.Test.YtghpacgbkknhbaaKit5
import Derived.Test.YtghpacgbkknhbaaWThreesKit
import Derived.WalkKit
import Derived.ProofKit
import Derived.OpenShut
import Derived.ShutString
import Derived.ChangeOld
import Derived.Below
import Derived.HandedShaped
namespace Go.Proofs.Ytghpacgbkknhbaa.fnExactThreesKit
open Go.ChangeShapes Go.WideShapes Go.ChangeAt Go.RowKit
open Go.ChangeMaps (open_string shut_string)
set_option linter.unusedVariables false
set_option maxRecDepth 100000 in
theorem contract (H : Type) (enc : TypeId × Value → H) (W : World) (base : Nat) (args : Array Value) (ds gs : List (DataW H)) (before : List MemPlace)
    (hval : ∀ (j : Nat) t v, Try.f11.params[j]? = some t → args[j]? = some v → Value.okWide Try.prog W .any base t v)
    (hW : DataW.Whole enc Try.prog Try.f11.params.toList Rows.fnExactThreesKitSpec.vars false W args.toList ds gs before) (hsh : W.ShapedOpen Try.prog) :
    Calls Try.prog 11 args W fun e W' => ∃ v, e = .returned v ∧ Rows.fnExactThreesKitSpec.post enc Try.prog Try.f11 false true false false W args v W' := by
  have hW' := hW
  obtain ⟨p, q, hA0, hV, rfl, hfz, hnd⟩ := hW
  have hA : DataW.TrodAll enc Try.prog W 0 (fun _ => true) true Try.f11.params.toList args.toList ds p := hA0
  rw [Try.params11] at hA hval
  obtain ⟨v0, vs0, d0, ds0, p0, q0, hargs, rfl, rfl, h0, r0⟩ := trodAll_cons hA
  obtain ⟨rfl, rfl, rfl⟩ := trodAll_nil r0
  obtain rfl : args = #[v0] := by cases args; simp_all
  obtain ⟨rfl, rfl⟩ := trodVars_none hV
  obtain ⟨a0, rfl, rfl, rfl, w0⟩ := open_int Try.underlying3 (hval 0 3 v0 rfl rfl) h0
  clear hA0
  have walk : Calls Try.prog 11 #[.int .i64 a0] W fun e w' => e = .returned (.bool true) ∧ Below W.heap.size W w' := by
    exact exThreesKit_walk a0 W _ (kitOf_len 3 5 a0 (by omega)) _ (threes_spec a0) (threes_impl a0)
  refine walk.mono fun e W' ⟨he, bel⟩ => ?_
  subst he
  exact ⟨_, rfl, _, _, _, [], _, [], hW', trodAll_mk1 (shut_bool Try.underlying4 _), (trodAll_cons_mk (shut_int Try.underlying3 w0) trodAll_mk0), rfl, bel.frame _, fun h => by cases h⟩
set_option maxRecDepth 100000 in
theorem lifted (os : Os) (started : os.Started) (H : Type) (enc : TypeId × Value → H) :
    ReturnsInHanded {} Try.checked os 11 .any (Rows.fnExactThreesKitSpec.pre6 enc Try.prog Try.f11 Rows.fnExactThreesKitRow.domain false) (Rows.fnExactThreesKitSpec.post enc Try.prog Try.f11 false true false false) := by
  refine returnsInHanded_of_change_shaped (C := Try.checked) own started (by kernel_rfl) Try.func11
    (ChangeSpec.witness6 (enc := enc) (C := Try.checked) false ⟨#[], #[.int .i64 0], []⟩ 8 (by kernel_rfl) (by kernel_rfl) (by kernel_rfl) (by kernel_rfl)) ?_
  intro W base args ds gs before hval hW _ _ hsh _
  exact contract H enc W base args ds gs before hval hW hsh
theorem fact1 : Try.checked.prog.funcNamed Rows.fnExactThreesKitRow.func = some 11 := by kernel_rfl
theorem fact2 : Facts1 Try.checked.prog Try.f11 Rows.fnExactThreesKitSpec Rows.fnExactThreesKitRow = true := by kernel_rfl
theorem fact3 : Facts2 Try.checked.prog Try.f11 Rows.fnExactThreesKitSpec Rows.fnExactThreesKitRow = true := by kernel_rfl
theorem fact4 : Facts3 Try.checked.prog Try.f11 Rows.fnExactThreesKitSpec Rows.fnExactThreesKitRow = true := by kernel_rfl
theorem fact5 : (Rows.fnExactThreesKitRow.inPlace == Try.checked.prog.inPlace 11) = true := by kernel_rfl
theorem fact6 : (Rows.fnExactThreesKitRow.unfollowed == Try.checked.prog.unfollowed 11) = true := by kernel_rfl
theorem fact7 : (Rows.fnExactThreesKitRow.recurses == Try.checked.prog.recurses 11) = true := by kernel_rfl
theorem fact8 : (Rows.fnExactThreesKitRow.named == Try.checked.prog.varsNamed 11) = true := by kernel_rfl
theorem joinedAll : joinedFacts Try.checked.prog 11 Try.f11 Rows.fnExactThreesKitSpec Rows.fnExactThreesKitRow = true := joined_parts fact2 fact3 fact4 fact5 fact6 fact7 fact8 laidOut rowed stopsNone knobsNone heard enters finals making
theorem instanceNo : Try.f11.isInstance Try.checked.prog Rows.fnExactThreesKitRow.origin Rows.fnExactThreesKitRow.targs := of_decide_eq_true (by kernel_rfl)
theorem wrapperNo : Try.f11.isWrapper Try.checked.prog Rows.fnExactThreesKitRow.wrapper Rows.fnExactThreesKitRow.mainSum := by unfold Func.isWrapper; first | (rw [if_pos (by decide +kernel)]; kernel_rfl) | (rw [if_neg (by decide +kernel)]; exact ⟨rfl, rfl⟩)
/-- The given statement. -/
theorem proved : Rows.FnExactThreesKitSaid :=
  OpenClaim.holds_of_wide (p := Try.pinned) 11 Try.f11 rfl rfl rfl rfl rfl rfl rfl ⟨rfl, rfl, rfl, rfl, rfl⟩ rfl rfl rfl rfl rfl fact1 Try.func11 joinedAll instanceNo wrapperNo
    (fun os started H enc _ => lifted os started H enc)
end Go.Proofs.Ytghpacgbkknhbaa.fnExactThreesKit
