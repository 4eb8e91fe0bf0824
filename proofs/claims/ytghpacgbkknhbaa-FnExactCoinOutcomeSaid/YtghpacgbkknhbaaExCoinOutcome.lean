/- For every input: FnExactCoinOutcome returns true and leaves its arguments as they were. Conditions: none beyond the given row's own. -/
import Derived.Test.YtghpacgbkknhbaaRows
import Derived.Test.YtghpacgbkknhbaaBase
import Derived.Test.YtghpacgbkknhbaaCoin3
import Derived.Test.YtghpacgbkknhbaaWCoinOutcome
import Derived.WalkKit
import Derived.ProofKit
import Derived.OpenShut
import Derived.ShutString
import Derived.ChangeOld
import Derived.Below
import Derived.HandedShaped
namespace Go.Proofs.Ytghpacgbkknhbaa.fnExactCoinOutcome
open Go.ChangeShapes Go.WideShapes Go.ChangeAt Go.RowKit
open Go.ChangeMaps (open_string shut_string)
set_option linter.unusedVariables false
/-- What the walk is told of a slice of integers that came in. -/
def IsRow (k : IntKind) (w : World) (a : Option Addr) (len cap : Nat) (zs : List Int) : Prop :=
  (a = none ∧ len = 0 ∧ cap = 0 ∧ zs = []) ∨
  ∃ x, a = some x ∧ len ≤ cap ∧ cap ≤ maxLen ∧ zs.length = cap ∧ (∀ i, i < zs.length → w.cell? (x.add i) = some (.int k (zs.getD i 0))) ∧ ∀ n ∈ zs, (Lit.int k n).wf = true
set_option maxRecDepth 100000 in
theorem contract (H : Type) (enc : TypeId × Value → H) (W : World) (base : Nat) (args : Array Value) (ds gs : List (DataW H)) (before : List MemPlace)
    (hval : ∀ (j : Nat) t v, Try.f15.params[j]? = some t → args[j]? = some v → Value.okWide Try.prog W .any base t v)
    (hW : DataW.Whole enc Try.prog Try.f15.params.toList Rows.fnExactCoinOutcomeSpec.vars false W args.toList ds gs before) (hsh : W.ShapedOpen Try.prog) :
    Calls Try.prog 15 args W fun e W' => ∃ v, e = .returned v ∧ Rows.fnExactCoinOutcomeSpec.post enc Try.prog Try.f15 false true false false W args v W' := by
  have hW' := hW
  obtain ⟨p, q, hA0, hV, rfl, hfz, hnd⟩ := hW
  have hA : DataW.TrodAll enc Try.prog W 0 (fun _ => true) true Try.f15.params.toList args.toList ds p := hA0
  rw [Try.params15] at hA hval
  obtain ⟨v0, vs0, d0, ds0, p0, q0, hargs, rfl, rfl, h0, r0⟩ := trodAll_cons hA
  obtain ⟨v1, vs1, d1, ds1, p1, q1, rfl, rfl, rfl, h1, r1⟩ := trodAll_cons r0
  obtain ⟨v2, vs2, d2, ds2, p2, q2, rfl, rfl, rfl, h2, r2⟩ := trodAll_cons r1
  obtain ⟨v3, vs3, d3, ds3, p3, q3, rfl, rfl, rfl, h3, r3⟩ := trodAll_cons r2
  obtain ⟨rfl, rfl, rfl⟩ := trodAll_nil r3
  obtain rfl : args = #[v0, v1, v2, v3] := by cases args; simp_all
  obtain ⟨rfl, rfl⟩ := trodVars_none hV
  obtain ⟨a0, rfl, rfl, rfl, w0⟩ := open_int Try.underlying3 (hval 0 3 v0 rfl rfl) h0
  obtain ⟨a1, len1, cap1, rfl⟩ := okWide_slice Try.underlying46 (hval 1 46 v1 rfl rfl)
  have k1 := h1
  have lt1 : ∀ x ∈ p1, x.block < W.heap.size := by obtain ⟨m, hm⟩ := k1; exact DataW.trod_lt m _ _ _ hm
  obtain ⟨z1, w1⟩ : ∃ zs, TabIn W a1 len1 cap1 zs := by
    exact open_tab Try.underlying46 Try.underlying24 Try.underlying3 (by kernel_rfl) (by kernel_rfl) h1
  obtain ⟨a2, rfl, rfl, rfl, w2⟩ := open_int Try.underlying3 (hval 2 3 v2 rfl rfl) h2
  obtain ⟨a3, rfl, rfl, rfl⟩ := open_bool Try.underlying4 (hval 3 4 v3 rfl rfl) h3
  clear hA0
  have walk : Calls Try.prog 15 #[.int .i64 a0, .slice a1 len1 cap1, .int .i64 a2, .bool a3] W fun e w' => e = .returned (.bool true) ∧ Below W.heap.size W w' := by
    obtain ⟨rfl, hn1, hr1, hi1⟩ := w1
    exact exCoinOutcome_walk a0 a1 cap1 z1 a2 a3 W hn1 hr1 (fun r h => (hi1 r h).1) _ (outcomeR_len a0 z1 a2 a3) _ (fun hb v w h => coinOutcome_spec a0 v z1 a2 a3 w h hb) (fun hb v w h => coinOutcome_impl a0 v z1 a2 a3 w h hb)
  refine walk.mono fun e W' ⟨he, bel⟩ => ?_
  subst he
  exact ⟨_, rfl, _, _, _, [], _, [], hW', trodAll_mk1 (shut_bool Try.underlying4 _), (trodAll_cons_mk (shut_int Try.underlying3 w0) (trodAll_cons_mk (Below.trod laidOut (by kernel_rfl) (of_decide_eq_true (by kernel_rfl)) k1 bel lt1) (trodAll_cons_mk (shut_int Try.underlying3 w2) (trodAll_cons_mk (shut_bool Try.underlying4 a3) trodAll_mk0)))), rfl, bel.frame _, fun h => by cases h⟩
set_option maxRecDepth 100000 in
theorem lifted (os : Os) (started : os.Started) (H : Type) (enc : TypeId × Value → H) :
    ReturnsInHanded {} Try.checked os 15 .any (Rows.fnExactCoinOutcomeSpec.pre6 enc Try.prog Try.f15 Rows.fnExactCoinOutcomeRow.domain false) (Rows.fnExactCoinOutcomeSpec.post enc Try.prog Try.f15 false true false false) := by
  refine returnsInHanded_of_change_shaped (C := Try.checked) own started (by kernel_rfl) Try.func15
    (ChangeSpec.witness6 (enc := enc) (C := Try.checked) false ⟨#[], #[.int .i64 0, .slice none 0 0, .int .i64 0, .bool false], []⟩ 8 (by kernel_rfl) (by kernel_rfl) (by kernel_rfl) (by kernel_rfl)) ?_
  intro W base args ds gs before hval hW _ _ hsh _
  exact contract H enc W base args ds gs before hval hW hsh
theorem fact1 : Try.checked.prog.funcNamed Rows.fnExactCoinOutcomeRow.func = some 15 := by kernel_rfl
theorem fact2 : Facts1 Try.checked.prog Try.f15 Rows.fnExactCoinOutcomeSpec Rows.fnExactCoinOutcomeRow = true := by kernel_rfl
theorem fact3 : Facts2 Try.checked.prog Try.f15 Rows.fnExactCoinOutcomeSpec Rows.fnExactCoinOutcomeRow = true := by kernel_rfl
theorem fact4 : Facts3 Try.checked.prog Try.f15 Rows.fnExactCoinOutcomeSpec Rows.fnExactCoinOutcomeRow = true := by kernel_rfl
theorem fact5 : (Rows.fnExactCoinOutcomeRow.inPlace == Try.checked.prog.inPlace 15) = true := by kernel_rfl
theorem fact6 : (Rows.fnExactCoinOutcomeRow.unfollowed == Try.checked.prog.unfollowed 15) = true := by kernel_rfl
theorem fact7 : (Rows.fnExactCoinOutcomeRow.recurses == Try.checked.prog.recurses 15) = true := by kernel_rfl
theorem fact8 : (Rows.fnExactCoinOutcomeRow.named == Try.checked.prog.varsNamed 15) = true := by kernel_rfl
theorem joinedAll : joinedFacts Try.checked.prog 15 Try.f15 Rows.fnExactCoinOutcomeSpec Rows.fnExactCoinOutcomeRow = true := joined_parts fact2 fact3 fact4 fact5 fact6 fact7 fact8 laidOut rowed stopsNone knobsNone heard enters finals making
theorem instanceNo : Try.f15.isInstance Try.checked.prog Rows.fnExactCoinOutcomeRow.origin Rows.fnExactCoinOutcomeRow.targs := of_decide_eq_true (by kernel_rfl)
theorem wrapperNo : Try.f15.isWrapper Try.checked.prog Rows.fnExactCoinOutcomeRow.wrapper Rows.fnExactCoinOutcomeRow.mainSum := by unfold Func.isWrapper; first | (rw [if_pos (by decide +kernel)]; kernel_rfl) | (rw [if_neg (by decide +kernel)]; exact ⟨rfl, rfl⟩)
/-- The given statement. -/
theorem proved : Rows.FnExactCoinOutcomeSaid :=
  OpenClaim.holds_of_wide (p := Try.pinned) 15 Try.f15 rfl rfl rfl rfl rfl rfl rfl ⟨rfl, rfl, rfl, rfl, rfl⟩ rfl rfl rfl rfl rfl fact1 Try.func15 joinedAll instanceNo wrapperNo
    (fun os started H enc _ => lifted os started H enc)
end Go.Proofs.Ytghpacgbkknhbaa.fnExactCoinOutcome
