/- For every input: FnExactStandsFirm returns true and leaves its arguments as they were. Conditions: none beyond the given row's own. -/
import Derived.Test.YthihamjgfemacaaRows
import Derived.Test.YthihamjgfemacaaBase
import Derived.Test.YthihamjgfemacaaPile8
import Derived.Test.YthihamjgfemacaaWStandsFirm
import Derived.WalkKit
import Derived.ProofKit
import Derived.OpenShut
import Derived.ShutString
import Derived.ChangeOld
import Derived.Below
import Derived.HandedShaped
namespace Go.Proofs.Ythihamjgfemacaa.fnExactStandsFirm
open Go.ChangeShapes Go.WideShapes Go.ChangeAt Go.RowKit
open Go.ChangeMaps (open_string shut_string)
set_option linter.unusedVariables false
set_option maxRecDepth 100000 in
theorem contract (H : Type) (enc : TypeId × Value → H) (W : World) (base : Nat) (args : Array Value) (ds gs : List (DataW H)) (before : List MemPlace)
    (hval : ∀ (j : Nat) t v, Try.f20.params[j]? = some t → args[j]? = some v → Value.okWide Try.prog W .any base t v)
    (hW : DataW.Whole enc Try.prog Try.f20.params.toList Rows.fnExactStandsFirmSpec.vars false W args.toList ds gs before) (hsh : W.ShapedOpen Try.prog) :
    Calls Try.prog 20 args W fun e W' => ∃ v, e = .returned v ∧ Rows.fnExactStandsFirmSpec.post enc Try.prog Try.f20 false true false false W args v W' := by
  have hW' := hW
  obtain ⟨p, q, hA0, hV, rfl, hfz, hnd⟩ := hW
  have hA : DataW.TrodAll enc Try.prog W 0 (fun _ => true) true Try.f20.params.toList args.toList ds p := hA0
  rw [Try.params20] at hA hval
  obtain ⟨v0, vs0, d0, ds0, p0, q0, hargs, rfl, rfl, h0, r0⟩ := trodAll_cons hA
  obtain ⟨rfl, rfl, rfl⟩ := trodAll_nil r0
  obtain rfl : args = #[v0] := by cases args; simp_all
  obtain ⟨rfl, rfl⟩ := trodVars_none hV
  have k0 := h0
  have lt0 : ∀ x ∈ p0, x.block < W.heap.size := by obtain ⟨m, hm⟩ := k0; exact DataW.trod_lt m _ _ _ hm
  obtain ⟨z0, w0⟩ : ∃ p, PileIn W v0 p := by
    exact open_pile (e1 := 3) (e2 := 3) Try.underlying60 (by kernel_rfl) (by kernel_rfl) Try.underlying3 Try.underlying58 Try.underlying58 Try.underlying3 Try.underlying3 (by kernel_rfl) (by kernel_rfl) (hval 0 60 v0 rfl rfl) h0
  clear hA0
  have walk : Calls Try.prog 20 #[v0] W fun e w' => e = .returned (.bool true) ∧ Below W.heap.size W w' := by
    obtain ⟨la, lb, ca, cb, rfl, hn0, hm0, hr1, hr2⟩ := w0
    exact exStandsFirm_walk z0 la lb ca cb W hn0 hm0 ⟨_, _, rfl, hr1, hr2⟩ _ _ (fun hs v w h => specFirm_any v z0 w h hs) (fun hs v w h c => standsFirm_any v z0 w h c hs)
  refine walk.mono fun e W' ⟨he, bel⟩ => ?_
  subst he
  exact ⟨_, rfl, _, _, _, [], _, [], hW', trodAll_mk1 (shut_bool Try.underlying4 _), (trodAll_cons_mk (Below.trod laidOut (by kernel_rfl) (of_decide_eq_true (by kernel_rfl)) k0 bel lt0) trodAll_mk0), rfl, bel.frame _, fun h => by cases h⟩
set_option maxRecDepth 100000 in
theorem lifted (os : Os) (started : os.Started) (H : Type) (enc : TypeId × Value → H) :
    ReturnsInHanded {} Try.checked os 20 .any (Rows.fnExactStandsFirmSpec.pre6 enc Try.prog Try.f20 Rows.fnExactStandsFirmRow.domain false) (Rows.fnExactStandsFirmSpec.post enc Try.prog Try.f20 false true false false) := by
  refine returnsInHanded_of_change_shaped (C := Try.checked) own started (by kernel_rfl) Try.func20
    (ChangeSpec.witness6 (enc := enc) (C := Try.checked) false ⟨#[], #[.agg #[.int .i64 0, .slice none 0 0, .slice none 0 0]], []⟩ 8 (by kernel_rfl) (by kernel_rfl) (by kernel_rfl) (by kernel_rfl)) ?_
  intro W base args ds gs before hval hW _ _ hsh _
  exact contract H enc W base args ds gs before hval hW hsh
theorem fact1 : Try.checked.prog.funcNamed Rows.fnExactStandsFirmRow.func = some 20 := by kernel_rfl
theorem fact2 : Facts1 Try.checked.prog Try.f20 Rows.fnExactStandsFirmSpec Rows.fnExactStandsFirmRow = true := by kernel_rfl
theorem fact3 : Facts2 Try.checked.prog Try.f20 Rows.fnExactStandsFirmSpec Rows.fnExactStandsFirmRow = true := by kernel_rfl
theorem fact4 : Facts3 Try.checked.prog Try.f20 Rows.fnExactStandsFirmSpec Rows.fnExactStandsFirmRow = true := by kernel_rfl
theorem fact5 : (Rows.fnExactStandsFirmRow.inPlace == Try.checked.prog.inPlace 20) = true := by kernel_rfl
theorem fact6 : (Rows.fnExactStandsFirmRow.unfollowed == Try.checked.prog.unfollowed 20) = true := by kernel_rfl
theorem fact7 : (Rows.fnExactStandsFirmRow.recurses == Try.checked.prog.recurses 20) = true := by kernel_rfl
theorem fact8 : (Rows.fnExactStandsFirmRow.named == Try.checked.prog.varsNamed 20) = true := by kernel_rfl
theorem joinedAll : joinedFacts Try.checked.prog 20 Try.f20 Rows.fnExactStandsFirmSpec Rows.fnExactStandsFirmRow = true := joined_parts fact2 fact3 fact4 fact5 fact6 fact7 fact8 laidOut rowed stopsNone knobsNone heard enters finals making
theorem instanceNo : Try.f20.isInstance Try.checked.prog Rows.fnExactStandsFirmRow.origin Rows.fnExactStandsFirmRow.targs := of_decide_eq_true (by kernel_rfl)
theorem wrapperNo : Try.f20.isWrapper Try.checked.prog Rows.fnExactStandsFirmRow.wrapper Rows.fnExactStandsFirmRow.mainSum := by unfold Func.isWrapper; first | (rw [if_pos (by decide +kernel)]; kernel_rfl) | (rw [if_neg (by decide +kernel)]; exact ⟨rfl, rfl⟩)
/-- The given statement. -/
theorem proved : Rows.FnExactStandsFirmSaid :=
  OpenClaim.holds_of_wide (p := Try.pinned) 20 Try.f20 rfl rfl rfl rfl rfl rfl rfl ⟨rfl, rfl, rfl, rfl, rfl⟩ rfl rfl rfl rfl rfl fact1 Try.func20 joinedAll instanceNo wrapperNo
    (fun os started H enc _ => lifted os started H enc)
end Go.Proofs.Ythihamjgfemacaa.fnExactStandsFirm
