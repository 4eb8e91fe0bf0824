/- For every input: FnExactReachGain returns true and leaves its arguments as they were. Conditions: none beyond the given row's own. -/
import Derived.Test.YtgjchkcjlmklbaaRows
import Derived.Test.YtgjchkcjlmklbaaBase
import Derived.Test.YtgjchkcjlmklbaaSr9
import Derived.Test.YtgjchkcjlmklbaaPairRow
import Derived.Test.YtgjchkcjlmklbaaWReachGain
import Derived.WalkKit
import Derived.ProofKit
import Derived.OpenShut
import Derived.ShutString
import Derived.ChangeOld
import Derived.Below
import Derived.HandedShaped
namespace Go.Proofs.Ytgjchkcjlmklbaa.fnExactReachGain
open Go.ChangeShapes Go.WideShapes Go.ChangeAt Go.RowKit
open Go.ChangeMaps (open_string shut_string)
set_option linter.unusedVariables false
/-- What the walk is told of a slice of integers that came in. -/
def IsRow (k : IntKind) (w : World) (a : Option Addr) (len cap : Nat) (zs : List Int) : Prop :=
  (a = none ∧ len = 0 ∧ cap = 0 ∧ zs = []) ∨
  ∃ x, a = some x ∧ len ≤ cap ∧ cap ≤ maxLen ∧ zs.length = cap ∧ (∀ i, i < zs.length → w.cell? (x.add i) = some (.int k (zs.getD i 0))) ∧ ∀ n ∈ zs, (Lit.int k n).wf = true
set_option maxRecDepth 100000 in
theorem contract (H : Type) (enc : TypeId × Value → H) (W : World) (base : Nat) (args : Array Value) (ds gs : List (DataW H)) (before : List MemPlace)
    (hval : ∀ (j : Nat) t v, Try.f15.params[j]? = some t → args[j]? = some v → Value.okWide Try.prog W .any base t v)
    (hW : DataW.Whole enc Try.prog Try.f15.params.toList Rows.fnExactReachGainSpec.vars false W args.toList ds gs before) (hsh : W.ShapedOpen Try.prog) :
    Calls Try.prog 15 args W fun e W' => ∃ v, e = .returned v ∧ Rows.fnExactReachGainSpec.post enc Try.prog Try.f15 false true false false W args v W' := by
  have hW' := hW
  obtain ⟨p, q, hA0, hV, rfl, hfz, hnd⟩ := hW
  have hA : DataW.TrodAll enc Try.prog W 0 (fun _ => true) true Try.f15.params.toList args.toList ds p := hA0
  rw [Try.params15] at hA hval
  obtain ⟨v0, vs0, d0, ds0, p0, q0, hargs, rfl, rfl, h0, r0⟩ := trodAll_cons hA
  obtain ⟨v1, vs1, d1, ds1, p1, q1, rfl, rfl, rfl, h1, r1⟩ := trodAll_cons r0
  obtain ⟨rfl, rfl, rfl⟩ := trodAll_nil r1
  obtain rfl : args = #[v0, v1] := by cases args; simp_all
  obtain ⟨rfl, rfl⟩ := trodVars_none hV
  obtain ⟨a0, len0, cap0, rfl⟩ := okWide_slice Try.underlying59 (hval 0 59 v0 rfl rfl)
  have k0 := h0
  have lt0 : ∀ x ∈ p0, x.block < W.heap.size := by obtain ⟨m, hm⟩ := k0; exact DataW.trod_lt m _ _ _ hm
  obtain ⟨z0, w0⟩ : ∃ zs, IsStgs W a0 len0 cap0 zs := by
    refine open_stgs Try.underlying59 Try.underlying135 ?_ ?_ ?_ ?_ ?_ ?_ ?_ ?_ ?_ ?_ h0
    · exact Try.underlying3
    · exact Try.underlying3
    · exact Try.underlying3
    · rfl
    · rfl
    · rfl
    · kernel_rfl
    · kernel_rfl
    · kernel_rfl
    · kernel_rfl
  obtain ⟨a1, rfl, rfl, rfl, w1⟩ := open_int Try.underlying3 (hval 1 3 v1 rfl rfl) h1
  clear hA0
  have walk : Calls Try.prog 15 #[.slice a0 len0 cap0, .int .i64 a1] W fun e w' => e = .returned (.bool true) ∧ Below W.heap.size W w' := by
    obtain ⟨hl0, hn0, hr0⟩ := stgs_row w0
    subst hl0
    exact exReachGain_walk a0 cap0 z0 a1 W hn0 hr0 (fdL false z0 a1) found_len _ (fun _ v w h => specReachGain_any v z0 a1 w h (by omega)) (fun _ v w h => implReachGain_any v z0 a1 w h (by omega))
  refine walk.mono fun e W' ⟨he, bel⟩ => ?_
  subst he
  exact ⟨_, rfl, _, _, _, [], _, [], hW', trodAll_mk1 (shut_bool Try.underlying4 _), (trodAll_cons_mk (Below.trod laidOut (by kernel_rfl) (of_decide_eq_true (by kernel_rfl)) k0 bel lt0) (trodAll_cons_mk (shut_int Try.underlying3 w1) trodAll_mk0)), rfl, bel.frame _, fun h => by cases h⟩
set_option maxRecDepth 100000 in
theorem lifted (os : Os) (started : os.Started) (H : Type) (enc : TypeId × Value → H) :
    ReturnsInHanded {} Try.checked os 15 .any (Rows.fnExactReachGainSpec.pre6 enc Try.prog Try.f15 Rows.fnExactReachGainRow.domain false) (Rows.fnExactReachGainSpec.post enc Try.prog Try.f15 false true false false) := by
  refine returnsInHanded_of_change_shaped (C := Try.checked) own started (by kernel_rfl) Try.func15
    (ChangeSpec.witness6 (enc := enc) (C := Try.checked) false ⟨#[], #[.slice none 0 0, .int .i64 0], []⟩ 8 (by kernel_rfl) (by kernel_rfl) (by kernel_rfl) (by kernel_rfl)) ?_
  intro W base args ds gs before hval hW _ _ hsh _
  exact contract H enc W base args ds gs before hval hW hsh
theorem fact1 : Try.checked.prog.funcNamed Rows.fnExactReachGainRow.func = some 15 := by kernel_rfl
theorem fact2 : Facts1 Try.checked.prog Try.f15 Rows.fnExactReachGainSpec Rows.fnExactReachGainRow = true := by kernel_rfl
theorem fact3 : Facts2 Try.checked.prog Try.f15 Rows.fnExactReachGainSpec Rows.fnExactReachGainRow = true := by kernel_rfl
theorem fact4 : Facts3 Try.checked.prog Try.f15 Rows.fnExactReachGainSpec Rows.fnExactReachGainRow = true := by kernel_rfl
theorem fact5 : (Rows.fnExactReachGainRow.inPlace == Try.checked.prog.inPlace 15) = true := by kernel_rfl
theorem fact6 : (Rows.fnExactReachGainRow.unfollowed == Try.checked.prog.unfollowed 15) = true := by kernel_rfl
theorem fact7 : (Rows.fnExactReachGainRow.recurses == Try.checked.prog.recurses 15) = true := by kernel_rfl
theorem fact8 : (Rows.fnExactReachGainRow.named == Try.checked.prog.varsNamed 15) = true := by kernel_rfl
theorem joinedAll : joinedFacts Try.checked.prog 15 Try.f15 Rows.fnExactReachGainSpec Rows.fnExactReachGainRow = true := joined_parts fact2 fact3 fact4 fact5 fact6 fact7 fact8 laidOut rowed stopsNone knobsNone heard enters finals making
theorem instanceNo : Try.f15.isInstance Try.checked.prog Rows.fnExactReachGainRow.origin Rows.fnExactReachGainRow.targs := of_decide_eq_true (by kernel_rfl)
theorem wrapperNo : Try.f15.isWrapper Try.checked.prog Rows.fnExactReachGainRow.wrapper Rows.fnExactReachGainRow.mainSum := by unfold Func.isWrapper; first | (rw [if_pos (by decide +kernel)]; kernel_rfl) | (rw [if_neg (by decide +kernel)]; exact ⟨rfl, rfl⟩)
/-- The given statement. -/
theorem proved : Rows.FnExactReachGainSaid :=
  OpenClaim.holds_of_wide (p := Try.pinned) 15 Try.f15 rfl rfl rfl rfl rfl rfl rfl ⟨rfl, rfl, rfl, rfl, rfl⟩ rfl rfl rfl rfl rfl fact1 Try.func15 joinedAll instanceNo wrapperNo
    (fun os started H enc _ => lifted os started H enc)
end Go.Proofs.Ytgjchkcjlmklbaa.fnExactReachGain
