/- For every input: FnExactUpperCentre returns true and leaves its arguments as they were. Conditions: none beyond the given row's own. -/
import Derived.Test.YthihamjgfemacaaRows
import Derived.Test.YthihamjgfemacaaBase
import Derived.Test.YthihamjgfemacaaPile8
import Derived.Test.YthihamjgfemacaaA2
import Derived.Test.YthihamjgfemacaaWUpperCentre
import Derived.WalkKit
import Derived.ProofKit
import Derived.OpenShut
import Derived.ShutString
import Derived.ChangeOld
import Derived.Below
import Derived.HandedShaped
namespace Go.Proofs.Ythihamjgfemacaa.fnExactUpperCentre
open Go.ChangeShapes Go.WideShapes Go.ChangeAt Go.RowKit
open Go.ChangeMaps (open_string shut_string)
set_option linter.unusedVariables false
set_option maxRecDepth 100000 in
theorem contract (H : Type) (enc : TypeId × Value → H) (W : World) (base : Nat) (args : Array Value) (ds gs : List (DataW H)) (before : List MemPlace)
    (hval : ∀ (j : Nat) t v, Try.f18.params[j]? = some t → args[j]? = some v → Value.okWide Try.prog W .any base t v)
    (hW : DataW.Whole enc Try.prog Try.f18.params.toList Rows.fnExactUpperCentreSpec.vars false W args.toList ds gs before) (hsh : W.ShapedOpen Try.prog) :
    Calls Try.prog 18 args W fun e W' => ∃ v, e = .returned v ∧ Rows.fnExactUpperCentreSpec.post enc Try.prog Try.f18 false true false false W args v W' := by
  have hW' := hW
  obtain ⟨p, q, hA0, hV, rfl, hfz, hnd⟩ := hW
  have hA : DataW.TrodAll enc Try.prog W 0 (fun _ => true) true Try.f18.params.toList args.toList ds p := hA0
  rw [Try.params18] at hA hval
  obtain ⟨v0, vs0, d0, ds0, p0, q0, hargs, rfl, rfl, h0, r0⟩ := trodAll_cons hA
  obtain ⟨v1, vs1, d1, ds1, p1, q1, rfl, rfl, rfl, h1, r1⟩ := trodAll_cons r0
  obtain ⟨rfl, rfl, rfl⟩ := trodAll_nil r1
  obtain rfl : args = #[v0, v1] := by cases args; simp_all
  obtain ⟨rfl, rfl⟩ := trodVars_none hV
  have k0 := h0
  have lt0 : ∀ x ∈ p0, x.block < W.heap.size := by obtain ⟨m, hm⟩ := k0; exact DataW.trod_lt m _ _ _ hm
  obtain ⟨z0, w0⟩ : ∃ p, PileIn W v0 p := by
    exact open_pile (e1 := 3) (e2 := 3) Try.underlying60 (by kernel_rfl) (by kernel_rfl) Try.underlying3 Try.underlying58 Try.underlying58 Try.underlying3 Try.underlying3 (by kernel_rfl) (by kernel_rfl) (hval 0 60 v0 rfl rfl) h0
  obtain ⟨a1, rfl, rfl, rfl, w1⟩ := open_int Try.underlying3 (hval 1 3 v1 rfl rfl) h1
  clear hA0
  have walk : Calls Try.prog 18 #[v0, .int .i64 a1] W fun e w' => e = .returned (.bool true) ∧ Below W.heap.size W w' := by
    obtain ⟨la, lb, ca, cb, rfl, hn0, hm0, hr1, hr2⟩ := w0
    exact exUpperCentre_walk z0 la lb ca cb a1 W hn0 hm0 ⟨_, _, rfl, hr1, hr2⟩ _ _ _ (fun hs v w h => specCentre_any v z0 a1 w h hs) (fun hs v w h c => upperCentre_any v z0 a1 w h c hs)
  refine walk.mono fun e W' ⟨he, bel⟩ => ?_
  subst he
  exact ⟨_, rfl, _, _, _, [], _, [], hW', trodAll_mk1 (shut_bool Try.underlying4 _), (trodAll_cons_mk (Below.trod laidOut (by kernel_rfl) (of_decide_eq_true (by kernel_rfl)) k0 bel lt0) (trodAll_cons_mk (shut_int Try.underlying3 w1) trodAll_mk0)), rfl, bel.frame _, fun h => by cases h⟩
set_option maxRecDepth 100000 in
theorem lifted (os : Os) (started : os.Started) (H : Type) (enc : TypeId × Value → H) :
    ReturnsInHanded {} Try.checked os 18 .any (Rows.fnExactUpperCentreSpec.pre6 enc Try.prog Try.f18 Rows.fnExactUpperCentreRow.domain false) (Rows.fnExactUpperCentreSpec.post enc Try.prog Try.f18 false true false false) := by
  refine returnsInHanded_of_change_shaped (C := Try.checked) own started (by kernel_rfl) Try.func18
    (ChangeSpec.witness6 (enc := enc) (C := Try.checked) false ⟨#[], #[.agg #[.int .i64 0, .slice none 0 0, .slice none 0 0], .int .i64 0], []⟩ 8 (by kernel_rfl) (by kernel_rfl) (by kernel_rfl) (by kernel_rfl)) ?_
  intro W base args ds gs before hval hW _ _ hsh _
  exact contract H enc W base args ds gs before hval hW hsh
theorem fact1 : Try.checked.prog.funcNamed Rows.fnExactUpperCentreRow.func = some 18 := by kernel_rfl
theorem fact2 : Facts1 Try.checked.prog Try.f18 Rows.fnExactUpperCentreSpec Rows.fnExactUpperCentreRow = true := by kernel_rfl
theorem fact3 : Facts2 Try.checked.prog Try.f18 Rows.fnExactUpperCentreSpec Rows.fnExactUpperCentreRow = true := by kernel_rfl
theorem fact4 : Facts3 Try.checked.prog Try.f18 Rows.fnExactUpperCentreSpec Rows.fnExactUpperCentreRow = true := by kernel_rfl
theorem fact5 : (Rows.fnExactUpperCentreRow.inPlace == Try.checked.prog.inPlace 18) = true := by kernel_rfl
theorem fact6 : (Rows.fnExactUpperCentreRow.unfollowed == Try.checked.prog.unfollowed 18) = true := by kernel_rfl
theorem fact7 : (Rows.fnExactUpperCentreRow.recurses == Try.checked.prog.recurses 18) = true := by kernel_rfl
theorem fact8 : (Rows.fnExactUpperCentreRow.named == Try.checked.prog.varsNamed 18) = true := by kernel_rfl
theorem joinedAll : joinedFacts Try.checked.prog 18 Try.f18 Rows.fnExactUpperCentreSpec Rows.fnExactUpperCentreRow = true := joined_parts fact2 fact3 fact4 fact5 fact6 fact7 fact8 laidOut rowed stopsNone knobsNone heard enters finals making
theorem instanceNo : Try.f18.isInstance Try.checked.prog Rows.fnExactUpperCentreRow.origin Rows.fnExactUpperCentreRow.targs := of_decide_eq_true (by kernel_rfl)
theorem wrapperNo : Try.f18.isWrapper Try.checked.prog Rows.fnExactUpperCentreRow.wrapper Rows.fnExactUpperCentreRow.mainSum := by unfold Func.isWrapper; first | (rw [if_pos (by decide +kernel)]; kernel_rfl) | (rw [if_neg (by decide +kernel)]; exact ⟨rfl, rfl⟩)
/-- The given statement. -/
theorem proved : Rows.FnExactUpperCentreSaid :=
  OpenClaim.holds_of_wide (p := Try.pinned) 18 Try.f18 rfl rfl rfl rfl rfl rfl rfl ⟨rfl, rfl, rfl, rfl, rfl⟩ rfl rfl rfl rfl rfl fact1 Try.func18 joinedAll instanceNo wrapperNo
    (fun os started H enc _ => lifted os started H enc)
end Go.Proofs.Ythihamjgfemacaa.fnExactUpperCentre
