/- For every input: FnExactCountTilts returns true and leaves its arguments as they were. Conditions: none beyond the given row's own. -/
import Derived.Test.YtgjchkcjlmklbaaRows
import Derived.Test.YtgjchkcjlmklbaaBase
import Derived.Test.YtgjchkcjlmklbaaSwE
import Derived.Test.YtgjchkcjlmklbaaWCountTilts
import Derived.WalkKit
import Derived.ProofKit
import Derived.OpenShut
import Derived.ShutString
import Derived.ChangeOld
import Derived.Below
import Derived.HandedShaped
namespace Go.Proofs.Ytgjchkcjlmklbaa.fnExactCountTilts
open Go.ChangeShapes Go.WideShapes Go.ChangeAt Go.RowKit
open Go.ChangeMaps (open_string shut_string)
set_option linter.unusedVariables false
/-- What the walk is told of a slice of integers that came in. -/
def IsRow (k : IntKind) (w : World) (a : Option Addr) (len cap : Nat) (zs : List Int) : Prop :=
  (a = none ∧ len = 0 ∧ cap = 0 ∧ zs = []) ∨
  ∃ x, a = some x ∧ len ≤ cap ∧ cap ≤ maxLen ∧ zs.length = cap ∧ (∀ i, i < zs.length → w.cell? (x.add i) = some (.int k (zs.getD i 0))) ∧ ∀ n ∈ zs, (Lit.int k n).wf = true
set_option maxRecDepth 100000 in
theorem contract (H : Type) (enc : TypeId × Value → H) (W : World) (base : Nat) (args : Array Value) (ds gs : List (DataW H)) (before : List MemPlace)
    (hval : ∀ (j : Nat) t v, Try.f8.params[j]? = some t → args[j]? = some v → Value.okWide Try.prog W .any base t v)
    (hW : DataW.Whole enc Try.prog Try.f8.params.toList Rows.fnExactCountTiltsSpec.vars false W args.toList ds gs before) (hsh : W.ShapedOpen Try.prog) :
    Calls Try.prog 8 args W fun e W' => ∃ v, e = .returned v ∧ Rows.fnExactCountTiltsSpec.post enc Try.prog Try.f8 false true false false W args v W' := by
  have hW' := hW
  obtain ⟨p, q, hA0, hV, rfl, hfz, hnd⟩ := hW
  have hA : DataW.TrodAll enc Try.prog W 0 (fun _ => true) true Try.f8.params.toList args.toList ds p := hA0
  rw [Try.params8] at hA hval
  obtain ⟨v0, vs0, d0, ds0, p0, q0, hargs, rfl, rfl, h0, r0⟩ := trodAll_cons hA
  obtain ⟨v1, vs1, d1, ds1, p1, q1, rfl, rfl, rfl, h1, r1⟩ := trodAll_cons r0
  obtain ⟨v2, vs2, d2, ds2, p2, q2, rfl, rfl, rfl, h2, r2⟩ := trodAll_cons r1
  obtain ⟨rfl, rfl, rfl⟩ := trodAll_nil r2
  obtain rfl : args = #[v0, v1, v2] := by cases args; simp_all
  obtain ⟨rfl, rfl⟩ := trodVars_none hV
  obtain ⟨a0, len0, cap0, rfl⟩ := okWide_slice Try.underlying22 (hval 0 22 v0 rfl rfl)
  have k0 := h0
  have lt0 : ∀ x ∈ p0, x.block < W.heap.size := by obtain ⟨m, hm⟩ := k0; exact DataW.trod_lt m _ _ _ hm
  obtain ⟨z0, w0⟩ : ∃ zs, IsRow .i64 W a0 len0 cap0 zs := by
    obtain ⟨fuel, hf⟩ := h0
    rcases open_ints Try.underlying22 Try.underlying3 (by kernel_rfl) hf with ⟨hcs, _⟩ | ⟨x, l, c, zs, hcs, _, hl, hm, hz, _, hcell, hwz⟩
    · simp [Value.cells] at hcs
      obtain ⟨rfl, rfl, rfl⟩ := hcs
      exact ⟨[], .inl ⟨rfl, rfl, rfl, rfl⟩⟩
    · simp [Value.cells] at hcs
      obtain ⟨rfl, rfl, rfl⟩ := hcs
      exact ⟨zs, .inr ⟨_, rfl, hl, hm, by simpa using hz, hcell, hwz⟩⟩
  obtain ⟨a1, len1, cap1, rfl⟩ := okWide_slice Try.underlying22 (hval 1 22 v1 rfl rfl)
  have k1 := h1
  have lt1 : ∀ x ∈ p1, x.block < W.heap.size := by obtain ⟨m, hm⟩ := k1; exact DataW.trod_lt m _ _ _ hm
  obtain ⟨z1, w1⟩ : ∃ zs, IsRow .i64 W a1 len1 cap1 zs := by
    obtain ⟨fuel, hf⟩ := h1
    rcases open_ints Try.underlying22 Try.underlying3 (by kernel_rfl) hf with ⟨hcs, _⟩ | ⟨x, l, c, zs, hcs, _, hl, hm, hz, _, hcell, hwz⟩
    · simp [Value.cells] at hcs
      obtain ⟨rfl, rfl, rfl⟩ := hcs
      exact ⟨[], .inl ⟨rfl, rfl, rfl, rfl⟩⟩
    · simp [Value.cells] at hcs
      obtain ⟨rfl, rfl, rfl⟩ := hcs
      exact ⟨zs, .inr ⟨_, rfl, hl, hm, by simpa using hz, hcell, hwz⟩⟩
  obtain ⟨a2, rfl, rfl, rfl, w2⟩ := open_int Try.underlying3 (hval 2 3 v2 rfl rfl) h2
  clear hA0
  have walk : Calls Try.prog 8 #[.slice a0 len0 cap0, .slice a1 len1 cap1, .int .i64 a2] W fun e w' => e = .returned (.bool true) ∧ Below W.heap.size W w' := by
    obtain ⟨xs0, rfl, hn0, hr0, _⟩ := ints_row (show IntsIn W a0 len0 cap0 z0 from w0)
    obtain ⟨xs1, rfl, hn1, hr1, _⟩ := ints_row (show IntsIn W a1 len1 cap1 z1 from w1)
    exact exCountTilts_walk a0 cap0 xs0 a1 cap1 xs1 a2 W hn0 hr0 hn1 hr1 (ctN xs0 xs1 a2) (ctB xs0 xs1 a2) (fun hb ho u v w h k => specCount_any u v xs0 xs1 a2 w h k (by omega) (by omega)) (fun hb ho u v w h k => countI_any u v xs0 xs1 a2 w h k (by omega) (by omega))
  refine walk.mono fun e W' ⟨he, bel⟩ => ?_
  subst he
  exact ⟨_, rfl, _, _, _, [], _, [], hW', trodAll_mk1 (shut_bool Try.underlying4 _), (trodAll_cons_mk (Below.trod laidOut (by kernel_rfl) (of_decide_eq_true (by kernel_rfl)) k0 bel lt0) (trodAll_cons_mk (Below.trod laidOut (by kernel_rfl) (of_decide_eq_true (by kernel_rfl)) k1 bel lt1) (trodAll_cons_mk (shut_int Try.underlying3 w2) trodAll_mk0))), rfl, bel.frame _, fun h => by cases h⟩
set_option maxRecDepth 100000 in
theorem lifted (os : Os) (started : os.Started) (H : Type) (enc : TypeId × Value → H) :
    ReturnsInHanded {} Try.checked os 8 .any (Rows.fnExactCountTiltsSpec.pre6 enc Try.prog Try.f8 Rows.fnExactCountTiltsRow.domain false) (Rows.fnExactCountTiltsSpec.post enc Try.prog Try.f8 false true false false) := by
  refine returnsInHanded_of_change_shaped (C := Try.checked) own started (by kernel_rfl) Try.func8
    (ChangeSpec.witness6 (enc := enc) (C := Try.checked) false ⟨#[], #[.slice none 0 0, .slice none 0 0, .int .i64 0], []⟩ 8 (by kernel_rfl) (by kernel_rfl) (by kernel_rfl) (by kernel_rfl)) ?_
  intro W base args ds gs before hval hW _ _ hsh _
  exact contract H enc W base args ds gs before hval hW hsh
theorem fact1 : Try.checked.prog.funcNamed Rows.fnExactCountTiltsRow.func = some 8 := by kernel_rfl
theorem fact2 : Facts1 Try.checked.prog Try.f8 Rows.fnExactCountTiltsSpec Rows.fnExactCountTiltsRow = true := by kernel_rfl
theorem fact3 : Facts2 Try.checked.prog Try.f8 Rows.fnExactCountTiltsSpec Rows.fnExactCountTiltsRow = true := by kernel_rfl
theorem fact4 : Facts3 Try.checked.prog Try.f8 Rows.fnExactCountTiltsSpec Rows.fnExactCountTiltsRow = true := by kernel_rfl
theorem fact5 : (Rows.fnExactCountTiltsRow.inPlace == Try.checked.prog.inPlace 8) = true := by kernel_rfl
theorem fact6 : (Rows.fnExactCountTiltsRow.unfollowed == Try.checked.prog.unfollowed 8) = true := by kernel_rfl
theorem fact7 : (Rows.fnExactCountTiltsRow.recurses == Try.checked.prog.recurses 8) = true := by kernel_rfl
theorem fact8 : (Rows.fnExactCountTiltsRow.named == Try.checked.prog.varsNamed 8) = true := by kernel_rfl
theorem joinedAll : joinedFacts Try.checked.prog 8 Try.f8 Rows.fnExactCountTiltsSpec Rows.fnExactCountTiltsRow = true := joined_parts fact2 fact3 fact4 fact5 fact6 fact7 fact8 laidOut rowed stopsNone knobsNone heard enters finals making
theorem instanceNo : Try.f8.isInstance Try.checked.prog Rows.fnExactCountTiltsRow.origin Rows.fnExactCountTiltsRow.targs := of_decide_eq_true (by kernel_rfl)
theorem wrapperNo : Try.f8.isWrapper Try.checked.prog Rows.fnExactCountTiltsRow.wrapper Rows.fnExactCountTiltsRow.mainSum := by unfold Func.isWrapper; first | (rw [if_pos (by decide +kernel)]; kernel_rfl) | (rw [if_neg (by decide +kernel)]; exact ⟨rfl, rfl⟩)
/-- The given statement. -/
theorem proved : Rows.FnExactCountTiltsSaid :=
  OpenClaim.holds_of_wide (p := Try.pinned) 8 Try.f8 rfl rfl rfl rfl rfl rfl rfl ⟨rfl, rfl, rfl, rfl, rfl⟩ rfl rfl rfl rfl rfl fact1 Try.func8 joinedAll instanceNo wrapperNo
    (fun os started H enc _ => lifted os started H enc)
end Go.Proofs.Ytgjchkcjlmklbaa.fnExactCountTilts
