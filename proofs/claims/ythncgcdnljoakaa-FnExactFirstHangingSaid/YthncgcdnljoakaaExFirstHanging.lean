/- For every input: FnExactFirstHanging returns true and leaves its arguments as they were. Conditions: none beyond the given row's own. -/
import Derived.Test.YthncgcdnljoakaaRows
import Derived.Test.YthncgcdnljoakaaBase
import Derived.Test.YthncgcdnljoakaaG30
import Derived.Test.YthncgcdnljoakaaG34
import Derived.Test.YthncgcdnljoakaaG35
import Derived.WalkKit
import Derived.ProofKit
import Derived.OpenShut
import Derived.ShutString
import Derived.ChangeOld
import Derived.Below
import Derived.HandedShaped
namespace Go.Proofs.Ythncgcdnljoakaa.fnExactFirstHanging
open Go.ChangeShapes Go.WideShapes Go.ChangeAt Go.RowKit
open Go.ChangeMaps (open_string shut_string)
set_option linter.unusedVariables false
/-- What the walk is told of a slice of integers that came in. -/
def IsRow (k : IntKind) (w : World) (a : Option Addr) (len cap : Nat) (zs : List Int) : Prop :=
  (a = none ∧ len = 0 ∧ cap = 0 ∧ zs = []) ∨
  ∃ x, a = some x ∧ len ≤ cap ∧ cap ≤ maxLen ∧ zs.length = cap ∧ (∀ i, i < zs.length → w.cell? (x.add i) = some (.int k (zs.getD i 0))) ∧ ∀ n ∈ zs, (Lit.int k n).wf = true
set_option maxRecDepth 100000 in
theorem contract (H : Type) (enc : TypeId × Value → H) (W : World) (base : Nat) (args : Array Value) (ds gs : List (DataW H)) (before : List MemPlace)
    (hval : ∀ (j : Nat) t v, Try.f17.params[j]? = some t → args[j]? = some v → Value.okWide Try.prog W .any base t v)
    (hW : DataW.Whole enc Try.prog Try.f17.params.toList Rows.fnExactFirstHangingSpec.vars false W args.toList ds gs before) (hsh : W.ShapedOpen Try.prog) :
    Calls Try.prog 17 args W fun e W' => ∃ v, e = .returned v ∧ Rows.fnExactFirstHangingSpec.post enc Try.prog Try.f17 false true false false W args v W' := by
  have hW' := hW
  obtain ⟨p, q, hA0, hV, rfl, hfz, hnd⟩ := hW
  have hA : DataW.TrodAll enc Try.prog W 0 (fun _ => true) true Try.f17.params.toList args.toList ds p := hA0
  rw [Try.params17] at hA hval
  obtain ⟨v0, vs0, d0, ds0, p0, q0, hargs, rfl, rfl, h0, r0⟩ := trodAll_cons hA
  obtain ⟨v1, vs1, d1, ds1, p1, q1, rfl, rfl, rfl, h1, r1⟩ := trodAll_cons r0
  obtain ⟨rfl, rfl, rfl⟩ := trodAll_nil r1
  obtain rfl : args = #[v0, v1] := by cases args; simp_all
  obtain ⟨rfl, rfl⟩ := trodVars_none hV
  have k0 := h0
  have lt0 : ∀ x ∈ p0, x.block < W.heap.size := by obtain ⟨m, hm⟩ := k0; exact DataW.trod_lt m _ _ _ hm
  obtain ⟨z0, w0⟩ : ∃ p, MobIn W v0 p := by
    exact open_mobile (e1 := 134) (e2 := 134) (i := 3) Try.underlying59 (by kernel_rfl) (by kernel_rfl) Try.underlying57 Try.underlying57 Try.underlying134 Try.underlying134 Try.underlying3 (by kernel_rfl) (by kernel_rfl) (by kernel_rfl) (hval 0 59 v0 rfl rfl) h0
  obtain ⟨a1, len1, cap1, rfl⟩ := okWide_slice Try.underlying38 (hval 1 38 v1 rfl rfl)
  have k1 := h1
  have lt1 : ∀ x ∈ p1, x.block < W.heap.size := by obtain ⟨m, hm⟩ := k1; exact DataW.trod_lt m _ _ _ hm
  obtain ⟨z1, w1⟩ : ∃ zs, IsRow .i64 W a1 len1 cap1 zs := by
    obtain ⟨fuel, hf⟩ := h1
    rcases open_ints Try.underlying38 Try.underlying3 (by kernel_rfl) hf with ⟨hcs, _⟩ | ⟨x, l, c, zs, hcs, _, hl, hm, hz, _, hcell, hwz⟩
    · simp [Value.cells] at hcs
      obtain ⟨rfl, rfl, rfl⟩ := hcs
      exact ⟨[], .inl ⟨rfl, rfl, rfl, rfl⟩⟩
    · simp [Value.cells] at hcs
      obtain ⟨rfl, rfl, rfl⟩ := hcs
      exact ⟨zs, .inr ⟨_, rfl, hl, hm, by simpa using hz, hcell, hwz⟩⟩
  clear hA0
  have walk : Calls Try.prog 17 #[v0, .slice a1 len1 cap1] W fun e w' => e = .returned (.bool true) ∧ Below W.heap.size W w' := by
    obtain ⟨la, lb, ca, cb, rfl, hn0, hm0, hbm, hr1, hr2⟩ := w0
    obtain ⟨xs1, rfl, hn1, hx1, hwf⟩ := ints_row (show IntsIn W a1 len1 cap1 z1 from w1)
    exact exFirstHanging_walk z0 la lb ca cb a1 cap1 xs1 W hbm hn0 hm0 ⟨_, _, rfl, hr1, hr2⟩ hn1 hx1 _ (fhYs_len z0 xs1) _ (fun hs hb hl v vx w h hx => specFh_any v vx z0 xs1 w h hs hb hx (by omega)) (fun hs hb hl v vx w h hx => fh_impl v vx z0 xs1 w h hs hb hx (wf_bnd hwf))
  refine walk.mono fun e W' ⟨he, bel⟩ => ?_
  subst he
  exact ⟨_, rfl, _, _, _, [], _, [], hW', trodAll_mk1 (shut_bool Try.underlying4 _), (trodAll_cons_mk (Below.trod laidOut (by kernel_rfl) (of_decide_eq_true (by kernel_rfl)) k0 bel lt0) (trodAll_cons_mk (Below.trod laidOut (by kernel_rfl) (of_decide_eq_true (by kernel_rfl)) k1 bel lt1) trodAll_mk0)), rfl, bel.frame _, fun h => by cases h⟩
set_option maxRecDepth 100000 in
theorem lifted (os : Os) (started : os.Started) (H : Type) (enc : TypeId × Value → H) :
    ReturnsInHanded {} Try.checked os 17 .any (Rows.fnExactFirstHangingSpec.pre6 enc Try.prog Try.f17 Rows.fnExactFirstHangingRow.domain false) (Rows.fnExactFirstHangingSpec.post enc Try.prog Try.f17 false true false false) := by
  refine returnsInHanded_of_change_shaped (C := Try.checked) own started (by kernel_rfl) Try.func17
    (ChangeSpec.witness6 (enc := enc) (C := Try.checked) false ⟨#[], #[.agg #[.slice none 0 0, .slice none 0 0], .slice none 0 0], []⟩ 8 (by kernel_rfl) (by kernel_rfl) (by kernel_rfl) (by kernel_rfl)) ?_
  intro W base args ds gs before hval hW _ _ hsh _
  exact contract H enc W base args ds gs before hval hW hsh
theorem fact1 : Try.checked.prog.funcNamed Rows.fnExactFirstHangingRow.func = some 17 := by kernel_rfl
theorem fact2 : Facts1 Try.checked.prog Try.f17 Rows.fnExactFirstHangingSpec Rows.fnExactFirstHangingRow = true := by kernel_rfl
theorem fact3 : Facts2 Try.checked.prog Try.f17 Rows.fnExactFirstHangingSpec Rows.fnExactFirstHangingRow = true := by kernel_rfl
theorem fact4 : Facts3 Try.checked.prog Try.f17 Rows.fnExactFirstHangingSpec Rows.fnExactFirstHangingRow = true := by kernel_rfl
theorem fact5 : (Rows.fnExactFirstHangingRow.inPlace == Try.checked.prog.inPlace 17) = true := by kernel_rfl
theorem fact6 : (Rows.fnExactFirstHangingRow.unfollowed == Try.checked.prog.unfollowed 17) = true := by kernel_rfl
theorem fact7 : (Rows.fnExactFirstHangingRow.recurses == Try.checked.prog.recurses 17) = true := by kernel_rfl
theorem fact8 : (Rows.fnExactFirstHangingRow.named == Try.checked.prog.varsNamed 17) = true := by kernel_rfl
theorem joinedAll : joinedFacts Try.checked.prog 17 Try.f17 Rows.fnExactFirstHangingSpec Rows.fnExactFirstHangingRow = true := joined_parts fact2 fact3 fact4 fact5 fact6 fact7 fact8 laidOut rowed stopsNone knobsNone heard enters finals making
theorem instanceNo : Try.f17.isInstance Try.checked.prog Rows.fnExactFirstHangingRow.origin Rows.fnExactFirstHangingRow.targs := of_decide_eq_true (by kernel_rfl)
theorem wrapperNo : Try.f17.isWrapper Try.checked.prog Rows.fnExactFirstHangingRow.wrapper Rows.fnExactFirstHangingRow.mainSum := by unfold Func.isWrapper; first | (rw [if_pos (by decide +kernel)]; kernel_rfl) | (rw [if_neg (by decide +kernel)]; exact ⟨rfl, rfl⟩)
/-- The given statement. -/
theorem proved : Rows.FnExactFirstHangingSaid :=
  OpenClaim.holds_of_wide (p := Try.pinned) 17 Try.f17 rfl rfl rfl rfl rfl rfl rfl ⟨rfl, rfl, rfl, rfl, rfl⟩ rfl rfl rfl rfl rfl fact1 Try.func17 joinedAll instanceNo wrapperNo
    (fun os started H enc _ => lifted os started H enc)
end Go.Proofs.Ythncgcdnljoakaa.fnExactFirstHanging
