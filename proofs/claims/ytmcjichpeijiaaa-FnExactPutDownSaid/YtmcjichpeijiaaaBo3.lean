/- The program's search: neighbors of a cell, and sets of cells in a map. -/
import Derived.Test.YtmcjichpeijiaaaBoS
import Derived.Test.YtmcjichpeijiaaaBo1
import Derived.Test.YtmcjichpeijiaaaBase
import Derived.DeepKeys4
import Derived.Maps.OwnSet
import Derived.Maps.AppendAt
namespace Go.Proofs.Ytmcjichpeijiaaa
open Go.RowKit Go.Maps
set_option maxHeartbeats 800000 in
theorem neighborsOf_any (p q u v : Int) (w : World) (p0 : 0 ≤ p) (p1 : p ≤ 9223372036854775807) (q0 : 0 ≤ q) (q1 : q ≤ 9223372036854775807) (hu : IntKind.i64.wrap (p + 1) = u) (hv : IntKind.i64.wrap (q + 1) = v) :
    Calls Try.prog 139 #[.agg #[.int .i64 p, .int .i64 q]] w fun e w' => e = .returned (.agg #[.int .i64 (p - 1), .int .i64 q, .int .i64 p, .int .i64 (q - 1), .int .i64 p, .int .i64 v, .int .i64 u, .int .i64 q]) ∧ Below w.heap.size w w' := by
  go_enter Try.func139, Try.ntmps139
  go_wp2
  exact bodyPost_ret (v := .agg #[.int .i64 (p - 1), .int .i64 q, .int .i64 p, .int .i64 (q - 1), .int .i64 p, .int .i64 v, .int .i64 u, .int .i64 q]) (by simp [results, Try.results139, go_sem]) rfl ⟨rfl, alloc_two _ _ _⟩
theorem run_makeMapN (n : Int) (w : World) : (Instr.makeMap 125 (some (.int .i64 n))).run Try.prog w = .ok (.map (some w.heap.size)) (w.alloc (.map #[] 0)) := by
  unfold Instr.makeMap
  simp [run_underlying Try.underlying125, go_sem]
theorem rowA2 : (29 : TypeId) < Try.prog.types.size := of_decide_eq_true (by kernel_rfl)
theorem wideA2 : (match Try.prog.underlying 29 with | some (.array _ _) | some (.struct _) => true | _ => false) = true := by rw [Try.underlying29]
set_option maxRecDepth 100000 in
theorem lawA2W : WideMaps.KeyLaw Try.prog 29 := deep_law_laid laidOut (m := 2) (by omega) rowA2 (by kernel_rfl) wideA2
theorem lawA2 : Keyed Try.prog 29 := Keyed.of_law lawA2W
theorem keyTA2 : Try.prog.keyType 29 = true := by kernel_rfl
theorem cellsA2 : Try.prog.cellsOf 29 = 2 := by kernel_rfl
theorem cellsInt : Try.prog.cellsOf 3 = 1 := by kernel_rfl
theorem typesN : ∃ n, Try.prog.types.size = n + 1 := ⟨Try.prog.types.size - 1, by kernel_rfl⟩
def kC (c : Int × Int) : Lit := .string (keyBytes [.int .i64 c.1, .int .i64 c.2])
/-- Both numbers of a cell are of the machine. -/
def WfC (c : Int × Int) : Prop := (-9223372036854775808 ≤ c.1 ∧ c.1 ≤ 9223372036854775807) ∧ -9223372036854775808 ≤ c.2 ∧ c.2 ≤ 9223372036854775807
theorem keyC (c : Int × Int) (h : WfC c) : keyOf Try.prog 29 (.agg #[.int .i64 c.1, .int .i64 c.2]) = some (kC c) := by
  have wf1 : (Lit.int .i64 c.1).wf = true := WalkArith.wf_i64 (by have := h.1; omega)
  have wf2 : (Lit.int .i64 c.2).wf = true := WalkArith.wf_i64 (by have := h.2; omega)
  obtain ⟨n, hn⟩ := typesN
  unfold keyOf
  rw [Try.underlying29]
  simp only [keyTA2, Value.formed, Try.underlying29, cellsA2, hn]
  simp [Program.keyLits, Try.underlying29, Try.underlying3, cellsA2, cellsInt, List.range, List.range.loop, wf1, wf2, Value.cells, kC]
theorem kC_inj {c d : Int × Int} (hc : WfC c) (hd : WfC d) (h : kC c = kC d) : c = d := by
  have := lawA2W.inj (keyC c hc) (h ▸ keyC d hd)
  simp at this
  exact cell_ext this.1 this.2
theorem boolElem_inv {H : Type} {P : Program} {e : TypeId} (he : P.underlying e = some .bool) {v : Value} {z : DataW H × List MemPlace} (h : plainElem P e v = some z) : ∃ b, v = .bool b ∧ z = (.lit (.bool b), []) := by
  unfold plainElem at h
  rw [he] at h
  cases v <;> simp at h
  exact ⟨_, rfl, h.symm⟩
theorem zeroBool (w : World) : (zeroValue 4).run Try.prog w = .ok (.bool false) w := by kernel_rfl
/-- The map in block b holds just the cells of a set. -/
structure SetM (w : World) (b n : Nat) (S : Int × Int → Prop) : Prop where
  ex : ∃ D : DataW Unit, w.ownsMap Try.prog 29 (plainElem Try.prog 4) b n D ∧ ∀ c, WfC c → ∃ r, D.atKey (kC c) (.lit (.bool false)) = .lit (.bool r) ∧ (r = true ↔ S c)
theorem SetM.start (w : World) : SetM (w.alloc (.map #[] 0)) w.heap.size 0 (fun _ => False) :=
  ⟨.map [], World.ownsMap_made _ _ _ _, fun c _ => ⟨false, rfl, by simp⟩⟩
theorem SetM.kept {w w' : World} {b n : Nat} {S : Int × Int → Prop} (h : SetM w b n S) {row : Option Nat} (hg : w.grownBy w' row) (hne : some b ≠ row) : SetM w' b n S := by
  obtain ⟨D, h1, h2⟩ := h.ex
  exact ⟨D, h1.kept hg hne, h2⟩
theorem SetM.lo {w w' : World} {b n : Nat} {S : Int × Int → Prop} (h : SetM w b n S) (l : Below w.heap.size w w') : SetM w' b n S := by
  obtain ⟨D, ⟨es, clock, hb, r⟩, h2⟩ := h.ex
  exact ⟨D, ⟨es, clock, (l.block b (Array.getElem?_eq_some_iff.1 hb).1).trans hb, r⟩, h2⟩
theorem SetM.lt {w : World} {b n : Nat} {S : Int × Int → Prop} (h : SetM w b n S) : b < w.heap.size := by
  obtain ⟨D, h1, _⟩ := h.ex
  exact h1.lt
theorem kC_lit (c : Int × Int) : WideAt.IsKeyLit (kC c) := by first | exact trivial | exact ⟨_, rfl⟩ | simp [WideAt.IsKeyLit, kC]
theorem put_set {D : DataW Unit} {S : Int × Int → Prop} (hm : IsMap D) (h : ∀ c, WfC c → ∃ r, D.atKey (kC c) (.lit (.bool false)) = .lit (.bool r) ∧ (r = true ↔ S c)) (d : Int × Int) (hd : WfC d) :
    ∀ c, WfC c → ∃ r, (D.put (kC d) (.lit (.bool true))).atKey (kC c) (.lit (.bool false)) = .lit (.bool r) ∧ (r = true ↔ S c ∨ c = d) := by
  intro c hc
  by_cases e : c = d
  · subst e
    exact ⟨true, atKey_put_same hm (kC_lit c) _ _, by simp⟩
  · obtain ⟨r, h1, h2⟩ := h c hc
    refine ⟨r, ?_, by rw [h2]; simp [e]⟩
    rw [atKey_put_other (fun hh => e (kC_inj hc hd hh))]
    exact h1
theorem del_set {D : DataW Unit} {S : Int × Int → Prop} (h : ∀ c, WfC c → ∃ r, D.atKey (kC c) (.lit (.bool false)) = .lit (.bool r) ∧ (r = true ↔ S c)) (d : Int × Int) (hd : WfC d) :
    ∀ c, WfC c → ∃ r, (D.del (kC d)).atKey (kC c) (.lit (.bool false)) = .lit (.bool r) ∧ (r = true ↔ S c ∧ c ≠ d) := by
  intro c hc
  by_cases e : c = d
  · subst e
    exact ⟨false, atKey_del_same _, by simp⟩
  · obtain ⟨r, h1, h2⟩ := h c hc
    refine ⟨r, ?_, by rw [h2]; simp [e]⟩
    rw [atKey_del_other (fun hh => e (kC_inj hc hd hh))]
    exact h1
/-- A look at the set. -/
theorem SetM.look {w : World} {b n : Nat} {S : Int × Int → Prop} (h : SetM w b n S) (c : Int × Int) (hc : WfC c) :
    ∃ r, (Instr.lookup 125 (.map (some b)) (.agg #[.int .i64 c.1, .int .i64 c.2]) false).run Try.prog w = .ok (.bool r) w ∧ (r = true ↔ S c) := by
  obtain ⟨D, h1, h2⟩ := h.ex
  obtain ⟨r, e1, e2⟩ := h2 c hc
  obtain ⟨vv, ps, hlook, hRv⟩ := h1.lookup lawA2 Try.underlying125 (zeroBool w) (plainElem_bool Try.underlying4 false) (keyC c hc)
  obtain ⟨bb, rfl, hbb⟩ := boolElem_inv Try.underlying4 hRv
  rw [e1] at hbb
  simp only [Prod.mk.injEq] at hbb
  have := hbb.1
  cases this
  exact ⟨r, hlook, e2⟩
/-- The program's search goes by wrapped numbers; among cells of not less than 0 it finds the same. -/
def wrC (d : Int × Int) : Int × Int := (IntKind.i64.wrap d.1, IntKind.i64.wrap d.2)
def NnC (c : Int × Int) : Prop := (0 ≤ c.1 ∧ c.1 ≤ 9223372036854775807) ∧ 0 ≤ c.2 ∧ c.2 ≤ 9223372036854775807
theorem NnC.wf {c : Int × Int} (h : NnC c) : WfC c := by unfold NnC at h; unfold WfC; omega
theorem wrC_wf (d : Int × Int) : WfC (wrC d) := by
  unfold WfC wrC
  simp only [IntKind.wrap_i64]
  omega
theorem wrC_mem {xs : List (Int × Int)} (hx : ∀ c ∈ xs, NnC c) {c : Int × Int} (hc : NnC c) {j : Nat} (hj : j < 4) : (wrC ((nb4 c).getD j (0, 0)) ∈ xs ↔ (nb4 c).getD j (0, 0) ∈ xs) ∧ ((nb4 c).getD j (0, 0) ∈ xs → wrC ((nb4 c).getD j (0, 0)) = (nb4 c).getD j (0, 0)) := by
  obtain ⟨p, q⟩ := c
  unfold NnC at hc
  simp only at hc
  have hin : ∀ d : Int × Int, NnC d → wrC d = d := fun d hd => by
    unfold NnC at hd; unfold wrC
    exact cell_ext (by simp only [IntKind.wrap_i64]; omega) (by simp only [IntKind.wrap_i64]; omega)
  refine ⟨⟨fun h => ?_, fun h => by rw [hin _ (hx _ h)]; exact h⟩, fun h => hin _ (hx _ h)⟩
  have hn := hx _ h
  have : wrC ((nb4 (p, q)).getD j (0, 0)) = (nb4 (p, q)).getD j (0, 0) := by
    match j, hj with
    | 0, _ | 1, _ | 2, _ | 3, _ =>
      unfold NnC wrC nb4 at hn
      unfold wrC nb4
      simp only [IntKind.wrap_i64, List.getD_cons_zero, List.getD_cons_succ] at hn ⊢
      exact cell_ext (by simp only; omega) (by simp only; omega)
  rwa [this] at h
end Go.Proofs.Ytmcjichpeijiaaa
