/- For every input: FnExactSafeSets returns true and leaves its arguments as they were. Conditions: none beyond the given row's own. -/
import Derived.Test.YtcfbnadefdcjaaaRows
import Derived.Test.YtcfbnadefdcjaaaBase
import Derived.Test.YtcfbnadefdcjaaaRgb
import Derived.Test.YtcfbnadefdcjaaaWSafeSets
import Derived.WalkKit
import Derived.ProofKit
import Derived.OpenShut
import Derived.ShutString
import Derived.ChangeOld
import Derived.Below
import Derived.HandedShaped
namespace Go.Proofs.Ytcfbnadefdcjaaa.fnExactSafeSets
open Go.ChangeShapes Go.WideShapes Go.ChangeAt Go.RowKit
open Go.ChangeMaps (open_string shut_string)
set_option linter.unusedVariables false
/-- What the walk is told of a slice of integers that came in. -/
def IsRow (k : IntKind) (w : World) (a : Option Addr) (len cap : Nat) (zs : List Int) : Prop :=
  (a = none ∧ len = 0 ∧ cap = 0 ∧ zs = []) ∨
  ∃ x, a = some x ∧ len ≤ cap ∧ cap ≤ maxLen ∧ zs.length = cap ∧ (∀ i, i < zs.length → w.cell? (x.add i) = some (.int k (zs.getD i 0))) ∧ ∀ n ∈ zs, (Lit.int k n).wf = true
set_option maxRecDepth 100000 in
theorem contract (H : Type) (enc : TypeId × Value → H) (W : World) (base : Nat) (args : Array Value) (ds gs : List (DataW H)) (before : List MemPlace)
    (hval : ∀ (j : Nat) t v, Try.f6.params[j]? = some t → args[j]? = some v → Value.okWide Try.prog W .any base t v)
    (hW : DataW.Whole enc Try.prog Try.f6.params.toList Rows.fnExactSafeSetsSpec.vars false W args.toList ds gs before) (hsh : W.ShapedOpen Try.prog) :
    Calls Try.prog 6 args W fun e W' => ∃ v, e = .returned v ∧ Rows.fnExactSafeSetsSpec.post enc Try.prog Try.f6 false true false false W args v W' := by
  have hW' := hW
  obtain ⟨p, q, hA0, hV, rfl, hfz, hnd⟩ := hW
  have hA : DataW.TrodAll enc Try.prog W 0 (fun _ => true) true Try.f6.params.toList args.toList ds p := hA0
  rw [Try.params6] at hA hval
  obtain ⟨v0, vs0, d0, ds0, p0, q0, hargs, rfl, rfl, h0, r0⟩ := trodAll_cons hA
  obtain ⟨v1, vs1, d1, ds1, p1, q1, rfl, rfl, rfl, h1, r1⟩ := trodAll_cons r0
  obtain ⟨rfl, rfl, rfl⟩ := trodAll_nil r1
  obtain rfl : args = #[v0, v1] := by cases args; simp_all
  obtain ⟨rfl, rfl⟩ := trodVars_none hV
  have k0 := h0
  have lt0 : ∀ x ∈ p0, x.block < W.heap.size := by obtain ⟨m, hm⟩ := k0; exact DataW.trod_lt m _ _ _ hm
  obtain ⟨z0, w0⟩ : ∃ p, RaftIn v0 p := by
    exact open_raft Try.underlying23 (by kernel_rfl) (by kernel_rfl) Try.underlying3 Try.underlying3 Try.underlying3 (hval 0 23 v0 rfl rfl) h0
  obtain ⟨a1, len1, cap1, rfl⟩ := okWide_slice Try.underlying28 (hval 1 28 v1 rfl rfl)
  have k1 := h1
  have lt1 : ∀ x ∈ p1, x.block < W.heap.size := by obtain ⟨m, hm⟩ := k1; exact DataW.trod_lt m _ _ _ hm
  obtain ⟨z1, w1⟩ : ∃ zs, IsPairs .i64 W a1 len1 cap1 zs := by
    refine open_pairs Try.underlying28 Try.underlying86 ?_ ?_ ?_ ?_ ?_ ?_ ?_ h1
    · exact Try.underlying3
    · exact Try.underlying3
    · rfl
    · rfl
    · kernel_rfl
    · kernel_rfl
    · kernel_rfl
  clear hA0
  have walk : Calls Try.prog 6 #[v0, .slice a1 len1 cap1] W fun e w' => e = .returned (.bool true) ∧ Below W.heap.size W w' := by
    obtain rfl : v0 = _ := w0
    obtain ⟨hl1, hn1, hr1⟩ := pairs_row w1
    subst hl1
    exact exSafeSets_walk z0 a1 cap1 z1 W hn1 hr1 _ _ (fun _ v w h => specSets_any z0.a z0.b z0.o v z1 w h) (fun _ v w h => implSets_any z0.a z0.b z0.o v z1 w h)
  refine walk.mono fun e W' ⟨he, bel⟩ => ?_
  subst he
  exact ⟨_, rfl, _, _, _, [], _, [], hW', trodAll_mk1 (shut_bool Try.underlying4 _), (trodAll_cons_mk (Below.trod laidOut (by kernel_rfl) (of_decide_eq_true (by kernel_rfl)) k0 bel lt0) (trodAll_cons_mk (Below.trod laidOut (by kernel_rfl) (of_decide_eq_true (by kernel_rfl)) k1 bel lt1) trodAll_mk0)), rfl, bel.frame _, fun h => by cases h⟩
set_option maxRecDepth 100000 in
theorem lifted (os : Os) (started : os.Started) (H : Type) (enc : TypeId × Value → H) :
    ReturnsInHanded {} Try.checked os 6 .any (Rows.fnExactSafeSetsSpec.pre6 enc Try.prog Try.f6 Rows.fnExactSafeSetsRow.domain false) (Rows.fnExactSafeSetsSpec.post enc Try.prog Try.f6 false true false false) := by
  refine returnsInHanded_of_change_shaped (C := Try.checked) own started (by kernel_rfl) Try.func6
    (ChangeSpec.witness6 (enc := enc) (C := Try.checked) false ⟨#[], #[.agg #[.int .i64 0, .int .i64 0, .int .i64 0], .slice none 0 0], []⟩ 8 (by kernel_rfl) (by kernel_rfl) (by kernel_rfl) (by kernel_rfl)) ?_
  intro W base args ds gs before hval hW _ _ hsh _
  exact contract H enc W base args ds gs before hval hW hsh
theorem fact1 : Try.checked.prog.funcNamed Rows.fnExactSafeSetsRow.func = some 6 := by kernel_rfl
theorem fact2 : Facts1 Try.checked.prog Try.f6 Rows.fnExactSafeSetsSpec Rows.fnExactSafeSetsRow = true := by kernel_rfl
theorem fact3 : Facts2 Try.checked.prog Try.f6 Rows.fnExactSafeSetsSpec Rows.fnExactSafeSetsRow = true := by kernel_rfl
theorem fact4 : Facts3 Try.checked.prog Try.f6 Rows.fnExactSafeSetsSpec Rows.fnExactSafeSetsRow = true := by kernel_rfl
theorem fact5 : (Rows.fnExactSafeSetsRow.inPlace == Try.checked.prog.inPlace 6) = true := by kernel_rfl
theorem fact6 : (Rows.fnExactSafeSetsRow.unfollowed == Try.checked.prog.unfollowed 6) = true := by kernel_rfl
theorem fact7 : (Rows.fnExactSafeSetsRow.recurses == Try.checked.prog.recurses 6) = true := by kernel_rfl
theorem fact8 : (Rows.fnExactSafeSetsRow.named == Try.checked.prog.varsNamed 6) = true := by kernel_rfl
theorem joinedAll : joinedFacts Try.checked.prog 6 Try.f6 Rows.fnExactSafeSetsSpec Rows.fnExactSafeSetsRow = true := joined_parts fact2 fact3 fact4 fact5 fact6 fact7 fact8 laidOut rowed stopsNone knobsNone heard enters finals making
theorem instanceNo : Try.f6.isInstance Try.checked.prog Rows.fnExactSafeSetsRow.origin Rows.fnExactSafeSetsRow.targs := of_decide_eq_true (by kernel_rfl)
theorem wrapperNo : Try.f6.isWrapper Try.checked.prog Rows.fnExactSafeSetsRow.wrapper Rows.fnExactSafeSetsRow.mainSum := by unfold Func.isWrapper; first | (rw [if_pos (by decide +kernel)]; kernel_rfl) | (rw [if_neg (by decide +kernel)]; exact ⟨rfl, rfl⟩)
/-- The given statement. -/
theorem proved : Rows.FnExactSafeSetsSaid :=
  OpenClaim.holds_of_wide (p := Try.pinned) 6 Try.f6 rfl rfl rfl rfl rfl rfl rfl ⟨rfl, rfl, rfl, rfl, rfl⟩ rfl rfl rfl rfl rfl fact1 Try.func6 joinedAll instanceNo wrapperNo
    (fun os started H enc _ => lifted os started H enc)
end Go.Proofs.Ytcfbnadefdcjaaa.fnExactSafeSets
