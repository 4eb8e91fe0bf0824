/- The program's search: neighbors of a cell, and sets of cells in a map. Rows of cells in memory of a call's own; the program's search: whether cells hang together. -/
import Derived.Test.YtmcjichpeijiaaaBoP
import Derived.Test.YtmcjichpeijiaaaBo1
import Derived.Test.YtmcjichpeijiaaaBase
import Derived.DeepKeys4
import Derived.Maps.OwnSet
import Derived.Maps.AppendAt
import Derived.Test.YtmcjichpeijiaaaLoadOwn
namespace Go.Proofs.Ytmcjichpeijiaaa
open Go.RowKit Go.Maps
set_option maxHeartbeats 800000 in
theorem neighborsOf_any (p q u v : Int) (w : World) (p0 : 0 ≤ p) (p1 : p ≤ 9223372036854775807) (q0 : 0 ≤ q) (q1 : q ≤ 9223372036854775807) (hu : IntKind.i64.wrap (p + 1) = u) (hv : IntKind.i64.wrap (q + 1) = v) :
    Calls Try.prog 139 #[.agg #[.int .i64 p, .int .i64 q]] w fun e w' => e = .returned (.agg #[.int .i64 (p - 1), .int .i64 q, .int .i64 p, .int .i64 (q - 1), .int .i64 p, .int .i64 v, .int .i64 u, .int .i64 q]) ∧ Below w.heap.size w w' := by
  go_enter Try.func139, Try.ntmps139
  go_wp2
  exact bodyPost_ret (v := .agg #[.int .i64 (p - 1), .int .i64 q, .int .i64 p, .int .i64 (q - 1), .int .i64 p, .int .i64 v, .int .i64 u, .int .i64 q]) (by simp [results, Try.results139, go_sem]) rfl ⟨rfl, alloc_two _ _ _⟩
theorem run_makeMapN (n : Int) (w : World) : (Instr.makeMap 125 (some (.int .i64 n))).run Try.prog w = .ok (.map (some w.heap.size)) (w.alloc (.map #[] 0)) := by
  unfold Instr.makeMap
  simp [run_underlying Try.underlying125, go_sem]
theorem rowA2 : (29 : TypeId) < Try.prog.types.size := of_decide_eq_true (by kernel_rfl)
theorem wideA2 : (match Try.prog.underlying 29 with | some (.array _ _) | some (.struct _) => true | _ => false) = true := by rw [Try.underlying29]
set_option maxRecDepth 100000 in
theorem lawA2W : WideMaps.KeyLaw Try.prog 29 := deep_law_laid laidOut (m := 2) (by omega) rowA2 (by kernel_rfl) wideA2
theorem lawA2 : Keyed Try.prog 29 := Keyed.of_law lawA2W
theorem keyTA2 : Try.prog.keyType 29 = true := by kernel_rfl
theorem cellsA2 : Try.prog.cellsOf 29 = 2 := by kernel_rfl
theorem cellsInt : Try.prog.cellsOf 3 = 1 := by kernel_rfl
theorem typesN : ∃ n, Try.prog.types.size = n + 1 := ⟨Try.prog.types.size - 1, by kernel_rfl⟩
def kC (c : Int × Int) : Lit := .string (keyBytes [.int .i64 c.1, .int .i64 c.2])
/-- Both numbers of a cell are of the machine. -/
def WfC (c : Int × Int) : Prop := (-9223372036854775808 ≤ c.1 ∧ c.1 ≤ 9223372036854775807) ∧ -9223372036854775808 ≤ c.2 ∧ c.2 ≤ 9223372036854775807
theorem keyC (c : Int × Int) (h : WfC c) : keyOf Try.prog 29 (.agg #[.int .i64 c.1, .int .i64 c.2]) = some (kC c) := by
  have wf1 : (Lit.int .i64 c.1).wf = true := WalkArith.wf_i64 (by have := h.1; omega)
  have wf2 : (Lit.int .i64 c.2).wf = true := WalkArith.wf_i64 (by have := h.2; omega)
  obtain ⟨n, hn⟩ := typesN
  unfold keyOf
  rw [Try.underlying29]
  simp only [keyTA2, Value.formed, Try.underlying29, cellsA2, hn]
  simp [Program.keyLits, Try.underlying29, Try.underlying3, cellsA2, cellsInt, List.range, List.range.loop, wf1, wf2, Value.cells, kC]
theorem kC_inj {c d : Int × Int} (hc : WfC c) (hd : WfC d) (h : kC c = kC d) : c = d := by
  have := lawA2W.inj (keyC c hc) (h ▸ keyC d hd)
  simp at this
  exact cell_ext this.1 this.2
theorem boolElem_inv {H : Type} {P : Program} {e : TypeId} (he : P.underlying e = some .bool) {v : Value} {z : DataW H × List MemPlace} (h : plainElem P e v = some z) : ∃ b, v = .bool b ∧ z = (.lit (.bool b), []) := by
  unfold plainElem at h
  rw [he] at h
  cases v <;> simp at h
  exact ⟨_, rfl, h.symm⟩
theorem zeroBool (w : World) : (zeroValue 4).run Try.prog w = .ok (.bool false) w := by kernel_rfl
/-- The map in block b holds just the cells of a set. -/
structure SetM (w : World) (b n : Nat) (S : Int × Int → Prop) : Prop where
  ex : ∃ D : DataW Unit, w.ownsMap Try.prog 29 (plainElem Try.prog 4) b n D ∧ ∀ c, WfC c → ∃ r, D.atKey (kC c) (.lit (.bool false)) = .lit (.bool r) ∧ (r = true ↔ S c)
theorem SetM.start (w : World) : SetM (w.alloc (.map #[] 0)) w.heap.size 0 (fun _ => False) :=
  ⟨.map [], World.ownsMap_made _ _ _ _, fun c _ => ⟨false, rfl, by simp⟩⟩
theorem SetM.kept {w w' : World} {b n : Nat} {S : Int × Int → Prop} (h : SetM w b n S) {row : Option Nat} (hg : w.grownBy w' row) (hne : some b ≠ row) : SetM w' b n S := by
  obtain ⟨D, h1, h2⟩ := h.ex
  exact ⟨D, h1.kept hg hne, h2⟩
theorem SetM.lo {w w' : World} {b n : Nat} {S : Int × Int → Prop} (h : SetM w b n S) (l : Below w.heap.size w w') : SetM w' b n S := by
  obtain ⟨D, ⟨es, clock, hb, r⟩, h2⟩ := h.ex
  exact ⟨D, ⟨es, clock, (l.block b (Array.getElem?_eq_some_iff.1 hb).1).trans hb, r⟩, h2⟩
theorem SetM.lt {w : World} {b n : Nat} {S : Int × Int → Prop} (h : SetM w b n S) : b < w.heap.size := by
  obtain ⟨D, h1, _⟩ := h.ex
  exact h1.lt
theorem kC_lit (c : Int × Int) : WideAt.IsKeyLit (kC c) := by first | exact trivial | exact ⟨_, rfl⟩ | simp [WideAt.IsKeyLit, kC]
theorem put_set {D : DataW Unit} {S : Int × Int → Prop} (hm : IsMap D) (h : ∀ c, WfC c → ∃ r, D.atKey (kC c) (.lit (.bool false)) = .lit (.bool r) ∧ (r = true ↔ S c)) (d : Int × Int) (hd : WfC d) :
    ∀ c, WfC c → ∃ r, (D.put (kC d) (.lit (.bool true))).atKey (kC c) (.lit (.bool false)) = .lit (.bool r) ∧ (r = true ↔ S c ∨ c = d) := by
  intro c hc
  by_cases e : c = d
  · subst e
    exact ⟨true, atKey_put_same hm (kC_lit c) _ _, by simp⟩
  · obtain ⟨r, h1, h2⟩ := h c hc
    refine ⟨r, ?_, by rw [h2]; simp [e]⟩
    rw [atKey_put_other (fun hh => e (kC_inj hc hd hh))]
    exact h1
theorem del_set {D : DataW Unit} {S : Int × Int → Prop} (h : ∀ c, WfC c → ∃ r, D.atKey (kC c) (.lit (.bool false)) = .lit (.bool r) ∧ (r = true ↔ S c)) (d : Int × Int) (hd : WfC d) :
    ∀ c, WfC c → ∃ r, (D.del (kC d)).atKey (kC c) (.lit (.bool false)) = .lit (.bool r) ∧ (r = true ↔ S c ∧ c ≠ d) := by
  intro c hc
  by_cases e : c = d
  · subst e
    exact ⟨false, atKey_del_same _, by simp⟩
  · obtain ⟨r, h1, h2⟩ := h c hc
    refine ⟨r, ?_, by rw [h2]; simp [e]⟩
    rw [atKey_del_other (fun hh => e (kC_inj hc hd hh))]
    exact h1
/-- A look at the set. -/
theorem SetM.look {w : World} {b n : Nat} {S : Int × Int → Prop} (h : SetM w b n S) (c : Int × Int) (hc : WfC c) :
    ∃ r, (Instr.lookup 125 (.map (some b)) (.agg #[.int .i64 c.1, .int .i64 c.2]) false).run Try.prog w = .ok (.bool r) w ∧ (r = true ↔ S c) := by
  obtain ⟨D, h1, h2⟩ := h.ex
  obtain ⟨r, e1, e2⟩ := h2 c hc
  obtain ⟨vv, ps, hlook, hRv⟩ := h1.lookup lawA2 Try.underlying125 (zeroBool w) (plainElem_bool Try.underlying4 false) (keyC c hc)
  obtain ⟨bb, rfl, hbb⟩ := boolElem_inv Try.underlying4 hRv
  rw [e1] at hbb
  simp only [Prod.mk.injEq] at hbb
  have := hbb.1
  cases this
  exact ⟨r, hlook, e2⟩
/-- The program's search goes by wrapped numbers; among cells of not less than 0 it finds the same. -/
def wrC (d : Int × Int) : Int × Int := (IntKind.i64.wrap d.1, IntKind.i64.wrap d.2)
def NnC (c : Int × Int) : Prop := (0 ≤ c.1 ∧ c.1 ≤ 9223372036854775807) ∧ 0 ≤ c.2 ∧ c.2 ≤ 9223372036854775807
theorem NnC.wf {c : Int × Int} (h : NnC c) : WfC c := by unfold NnC at h; unfold WfC; omega
theorem wrC_wf (d : Int × Int) : WfC (wrC d) := by
  unfold WfC wrC
  simp only [IntKind.wrap_i64]
  omega
theorem wrC_mem {xs : List (Int × Int)} (hx : ∀ c ∈ xs, NnC c) {c : Int × Int} (hc : NnC c) {j : Nat} (hj : j < 4) : (wrC ((nb4 c).getD j (0, 0)) ∈ xs ↔ (nb4 c).getD j (0, 0) ∈ xs) ∧ ((nb4 c).getD j (0, 0) ∈ xs → wrC ((nb4 c).getD j (0, 0)) = (nb4 c).getD j (0, 0)) := by
  obtain ⟨p, q⟩ := c
  unfold NnC at hc
  simp only at hc
  have hin : ∀ d : Int × Int, NnC d → wrC d = d := fun d hd => by
    unfold NnC at hd; unfold wrC
    exact cell_ext (by simp only [IntKind.wrap_i64]; omega) (by simp only [IntKind.wrap_i64]; omega)
  refine ⟨⟨fun h => ?_, fun h => by rw [hin _ (hx _ h)]; exact h⟩, fun h => hin _ (hx _ h)⟩
  have hn := hx _ h
  have : wrC ((nb4 (p, q)).getD j (0, 0)) = (nb4 (p, q)).getD j (0, 0) := by
    match j, hj with
    | 0, _ | 1, _ | 2, _ | 3, _ =>
      unfold NnC wrC nb4 at hn
      unfold wrC nb4
      simp only [IntKind.wrap_i64, List.getD_cons_zero, List.getD_cons_succ] at hn ⊢
      exact cell_ext (by simp only; omega) (by simp only; omega)
  rwa [this] at h
end Go.Proofs.Ytmcjichpeijiaaa
namespace Go.Proofs.Ytmcjichpeijiaaa
open Go.RowKit Go.Maps
/-- The slice value v is a row of cells in memory of the call's own. -/
def OwnC (w : World) (B : Nat) (v : Value) (xs : List (Int × Int)) : Prop := w.ownsRow B 29 2 v xs.length (cellsF xs)
theorem ownsRow_grown {w w' : World} {B : Nat} {e : TypeId} {s : Nat} {v : Value} {n : Nat} {xs : List Value} {row : Option Nat} (h : w.ownsRow B e s v n xs) (hg : w.grownBy w' row) (hne : ∀ q, row = some q → q < B) : w'.ownsRow B e s v n xs := by
  refine ⟨h.1, ?_⟩
  rcases h.2 with h | ⟨g, cap, cur, e, hb, hh, r⟩
  · exact .inl h
  · subst e
    exact .inr ⟨g, cap, cur, rfl, hb, (hg.block g (Array.getElem?_eq_some_iff.1 hh).1 (fun e => by have := hne g e.symm; omega)).trans hh, r⟩
theorem ownsRow_below {w w' : World} {B : Nat} {e : TypeId} {s : Nat} {v : Value} {n : Nat} {xs : List Value} (h : w.ownsRow B e s v n xs) (o : Below w.heap.size w w') : w'.ownsRow B e s v n xs := by
  refine ⟨h.1, ?_⟩
  rcases h.2 with h2 | ⟨g, cap, cur, hv, hg, hb, r⟩
  · exact .inl h2
  · refine .inr ⟨g, cap, cur, hv, hg, ?_, r⟩
    rw [o.block g (Array.getElem?_eq_some_iff.1 hb).1]; exact hb
theorem ownC_row {w : World} {B : Nat} {v : Value} {xs : List (Int × Int)} (h : OwnC w B v xs) : LoadRow w v xs := by
  have h' := h
  unfold OwnC at h'
  rcases h'.2 with ⟨rfl, h0⟩ | ⟨g, cap, cur, rfl, _, hb, _⟩
  · have : xs = [] := List.length_eq_zero_iff.1 h0
    subst this
    exact ⟨none, 0, rfl, .inl rfl⟩
  · refine ⟨_, cap, rfl, .inr ⟨g, 0, rfl, (Array.getElem?_eq_some_iff.1 hb).1, fun j hj => ?_⟩⟩
    have hc := cellsF_at xs j hj
    rw [Nat.zero_add, h'.cellAt (j * 2) (by omega), h'.cellAt (j * 2 + 1) (by omega)]
    exact hc
theorem ownC_mine {w : World} {B : Nat} {v : Value} {xs : List (Int × Int)} (h : OwnC w B v xs) : MineL w B w.heap.size v xs := by
  unfold OwnC at h
  have h' := h
  rcases h.2 with ⟨rfl, h0⟩ | ⟨g, cap, cur, rfl, hb, hg, _⟩
  · exact .inl ⟨List.length_eq_zero_iff.1 h0, none, 0, rfl⟩
  · exact .inr ⟨g, cap, rfl, hb, (Array.getElem?_eq_some_iff.1 hg).1, Nat.le_refl _, fun j hj => by
      have hc := cellsF_at xs j hj
      rw [h'.cellAt (j * 2) (by omega), h'.cellAt (j * 2 + 1) (by omega)]
      exact hc, fun j => h'.frozenAt j⟩
theorem ownC_snoc {w : World} {B k : Nat} {v : Value} {ys : List (Int × Int)} {p q : Int} (h : w.ownsRow B 29 2 v (k + 1) (cellsF ys ++ [.int .i64 p, .int .i64 q])) (hk : ys.length = k) : OwnC w B v (ys ++ [(p, q)]) := by
  unfold OwnC
  rw [List.length_append, hk, cellsF_app]
  exact h
theorem ownC_app {w : World} {B k l : Nat} {v : Value} {xs ys : List (Int × Int)} (h : w.ownsRow B 29 2 v (k + l) (cellsF xs ++ cellsF ys)) (hk : xs.length = k) (hl : ys.length = l) : OwnC w B v (xs ++ ys) := by
  unfold OwnC
  rw [List.length_append, hk, hl, cellsF_app]
  exact h
theorem ownC_base {w : World} {B B' : Nat} {v : Value} {xs : List (Int × Int)} (h : OwnC w B v xs) (hb : B' ≤ B) : OwnC w B' v xs := by
  unfold OwnC at *
  refine ⟨h.1, ?_⟩
  rcases h.2 with h | ⟨g, cap, cur, e, hg, r⟩
  · exact .inl h
  · exact .inr ⟨g, cap, cur, e, Nat.le_trans hb hg, r⟩
theorem ownC_lit0 (w : World) (B : Nat) (hB : B ≤ w.heap.size) : OwnC (w.alloc (.cells #[] 29)) B (.slice (some ⟨w.heap.size, 0, none⟩) 0 0) [] := World.ownsRow_lit w #[] 0 hB (by decide) rfl
theorem ownC_lit1 (w : World) (p q : Int) (B : Nat) (hB : B ≤ w.heap.size) : OwnC (w.alloc (.cells #[.int .i64 p, .int .i64 q] 29)) B (.slice (some ⟨w.heap.size, 0, none⟩) 1 1) [(p, q)] := World.ownsRow_lit w #[.int .i64 p, .int .i64 q] 1 hB (by decide) rfl
theorem ownC_nil (w : World) (B : Nat) : OwnC w B (.slice none 0 0) [] := World.ownsRow_nil _ _ _ _
theorem ownC_form {w : World} {B : Nat} {v : Value} {xs : List (Int × Int)} (h : OwnC w B v xs) (h0 : 0 < xs.length) : ∃ g c, v = .slice (some ⟨g, 0, none⟩) xs.length c ∧ B ≤ g ∧ g < w.heap.size ∧ (∀ j, j < xs.length → w.cell? ⟨g, j * 2, none⟩ = some (.int .i64 (xs.getD j (0, 0)).1) ∧ w.cell? ⟨g, j * 2 + 1, none⟩ = some (.int .i64 (xs.getD j (0, 0)).2)) ∧ ∀ j, w.frozen? ⟨g, j, none⟩ = false := by
  have h' := h
  unfold OwnC at h'
  obtain ⟨g, cap, rfl, hb, hl⟩ := h'.form (by omega)
  exact ⟨g, cap, rfl, hb, hl, fun j hj => by
    have hc := cellsF_at xs j hj
    rw [h'.cellAt (j * 2) (by omega), h'.cellAt (j * 2 + 1) (by omega)]
    exact hc, fun j => h'.frozenAt j⟩
theorem index_four (p q u v : Int) (j : Nat) (hj : j < 4) (d : Int × Int) (hd : (if j = 0 then (p - 1, q) else if j = 1 then (p, q - 1) else if j = 2 then (p, v) else (u, q)) = d) (w : World) :
    (Instr.index 126 (.agg #[.int .i64 (p - 1), .int .i64 q, .int .i64 p, .int .i64 (q - 1), .int .i64 p, .int .i64 v, .int .i64 u, .int .i64 q]) (.int .i64 (j : Int))).run Try.prog w = .ok (.agg #[.int .i64 d.1, .int .i64 d.2]) w := by
  subst hd
  rcases (show j = 0 ∨ j = 1 ∨ j = 2 ∨ j = 3 by omega) with rfl | rfl | rfl | rfl
  all_goals kernel_rfl
theorem nb_wrap {p q : Int} (h : NnC (p, q)) {j : Nat} (hj : j < 4) : (if j = 0 then (p - 1, q) else if j = 1 then (p, q - 1) else if j = 2 then (p, IntKind.i64.wrap (q + 1)) else (IntKind.i64.wrap (p + 1), q)) = wrC ((nb4 (p, q)).getD j (0, 0)) := by
  unfold NnC at h
  simp only at h
  have wp : IntKind.i64.wrap p = p := by rw [IntKind.wrap_i64]; omega
  have wq : IntKind.i64.wrap q = q := by rw [IntKind.wrap_i64]; omega
  have wp1 : IntKind.i64.wrap (p - 1) = p - 1 := by rw [IntKind.wrap_i64]; omega
  have wq1 : IntKind.i64.wrap (q - 1) = q - 1 := by rw [IntKind.wrap_i64]; omega
  rcases (show j = 0 ∨ j = 1 ∨ j = 2 ∨ j = 3 by omega) with rfl | rfl | rfl | rfl
  · simp [nb4, wrC, wp1, wq]
  · simp [nb4, wrC, wp, wq1]
  · simp [nb4, wrC, wp]
  · simp [nb4, wrC, wq]
theorem grown_cell {w w' : World} {row : Option Nat} (hg : w.grownBy w' row) {b : Nat} (hb : b < w.heap.size) (hne : some b ≠ row) (j : Nat) : w'.cell? ⟨b, j, none⟩ = w.cell? ⟨b, j, none⟩ := World.cell?_of_block (hg.block b hb hne)
theorem set_swap {w : World} {b n : Nat} {S T : Int × Int → Prop} (h : SetM w b n S) (he : ∀ c, S c ↔ T c) : SetM w b n T := by
  obtain ⟨D, h1, h2⟩ := h.ex
  exact ⟨D, h1, fun c hc => by obtain ⟨r, e1, e2⟩ := h2 c hc; exact ⟨r, e1, e2.trans (he c)⟩⟩
set_option maxRecDepth 100000 in
set_option maxHeartbeats 6400000 in
theorem hangTogether_any (v : Value) (xs : List (Int × Int)) (w : World) (hr : LoadRow w v xs) (h0 : 0 < xs.length) (hs : ∀ c ∈ xs, NnC c) (hn : xs.length ≤ 1000) :
    Calls Try.prog 82 #[v] w fun e w' => e = .returned (.bool (hangB2 xs)) ∧ Below w.heap.size w w' := by
  have hmm := fun w => run_makeMapN (xs.length : Int) w
  obtain ⟨i0, hi, hz0, hz1, hz2⟩ := info_parts infoA2
  have HE := Lib.hid (fun (R : List (Int × Int)) (h : BfsM xs R R.length 0) => h.said h0)
  generalize hangB2 xs = r at *
  have HS := Lib.hid hs
  have HB0 := Lib.hid (BfsM.start h0)
  obtain ⟨a, c, rfl, hr⟩ := hr
  rcases hr with h | ⟨g, off, rfl, hg, hc⟩
  · subst h; simp at h0
  have HC := Lib.hid hc
  have HG := Lib.hid hg
  clear hc hs hg
  go_enter Try.func82, Try.ntmps82
  go_wp2
  go_loopw [15] (fun x wr => ∃ k : Nat, k ≤ xs.length ∧ x = .int .i64 k ∧ Hid (SetM wr w.heap.size k (fun c => c ∈ xs.take k)) ∧ Hid (Below w.heap.size w wr)) (fun x _ => xs.length - (intOf x).toNat)
  case atStart => exact ⟨0, Nat.zero_le _, rfl, Lib.hid (set_swap (SetM.start w) (fun c => by simp)), Lib.hid (below_new _ _)⟩
  case round =>
    obtain ⟨k, hk, rfl, HM, HL⟩ := hrel
    clear hmm
    by_cases hlt : k < xs.length
    · have hlt' : (k : Int) < (xs.length : Int) := by omega
      obtain ⟨c1, c2⟩ := HC.out k hlt
      rw [← HL.out.cell (p := ⟨g, off + k * 2, none⟩) HG.out] at c1
      rw [← HL.out.cell (p := ⟨g, off + k * 2 + 1, none⟩) HG.out] at c2
      have hx := HS.out _ (mem_getD hlt)
      have HT := Lib.hid (take_snocC xs k hlt)
      obtain ⟨D, hD1, hD2⟩ := HM.out.ex
      generalize xs.getD k (0, 0) = x at c1 c2 hx HT
      have hkey := keyC x hx.wf
      have HP := Lib.hid (put_set hD1.isMap hD2 x hx.wf)
      have hMr := hD1.lt
      obtain ⟨x1, x2⟩ := x
      simp only at c1 c2 hkey
      have LB := Lib.hid (HL.out.alloc HL.out.size (.cells #[.int .i64 x1, .int .i64 x2] 29))
      have HDA := Lib.hid (hD1.alloc (.cells #[.int .i64 x1, .int .i64 x2] 29))
      clear hD1 hD2 HM hx
      go_wp2_with (at_mapUpdate; refine wpList_mapUpdate_own _ rfl _ _ _ 125 rfl 29 4 lawA2 Try.underlying125 _ w.heap.size k _ rfl HDA.out (by unfold maxLen; omega) _ _ _ rfl rfl hkey _ [] (plainElem_bool Try.underlying4 true) ?_; intro w4 hown4 hgrow4)
      have HN := Lib.hid (show SetM w4 w.heap.size (k + 1) (fun c => c ∈ xs.take (k + 1)) from ⟨_, hown4, fun c hc => by
        obtain ⟨r, e1, e2⟩ := HP.out c hc
        refine ⟨r, e1, ?_⟩
        rw [e2, HT.out, List.mem_append, List.mem_singleton]⟩)
      have LN := Lib.hid (show Below w.heap.size w w4 from LB.out.grown hgrow4 LB.out.size (fun j hj => by cases hj; exact Nat.le_refl _))
      clear hown4 hgrow4 HP HDA LB
      go_wp2
      go_roundw
      case rel => exact ⟨k + 1, by omega, by go_num, HN, LN⟩
      case measure => simp [intOf]; omega
    · obtain rfl : k = xs.length := by omega
      have hge : ¬ (xs.length : Int) < (xs.length : Int) := by omega
      rw [List.take_length] at HM
      obtain ⟨c1, c2⟩ := HC.out 0 h0
      rw [Nat.zero_mul, Nat.add_zero] at c1 c2
      rw [← HL.out.cell (p := ⟨g, off, none⟩) HG.out] at c1
      rw [← HL.out.cell (p := ⟨g, off + 1, none⟩) HG.out] at c2
      have hx := HS.out _ (mem_getD h0)
      obtain ⟨D, hD1, hD2⟩ := HM.out.ex
      obtain ⟨x, hxe⟩ : ∃ x, xs.getD 0 (0, 0) = x := ⟨_, rfl⟩
      rw [hxe] at c1 c2 hx HB0
      have HXE := Lib.hid hxe
      clear hxe
      have hkey := keyC x hx.wf
      have HP := Lib.hid (del_set hD2 x hx.wf)
      have hMr := hD1.lt
      obtain ⟨x1, x2⟩ := x
      simp only at c1 c2 hkey
      obtain ⟨WA, hWA⟩ : ∃ X, wr.alloc (.cells #[.int .i64 x1, .int .i64 x2] 29) = X := ⟨_, rfl⟩
      have LA := Lib.hid (show Below w.heap.size w WA by rw [← hWA]; exact HL.out.alloc HL.out.size _)
      have c1' : WA.cell? ⟨g, off, none⟩ = some (.int .i64 x1) := by rw [← hWA, (below_new wr _).cell (p := ⟨g, off, none⟩) (Nat.lt_of_lt_of_le HG.out HL.out.size)]; exact c1
      have c2' : WA.cell? ⟨g, off + 1, none⟩ = some (.int .i64 x2) := by rw [← hWA, (below_new wr _).cell (p := ⟨g, off + 1, none⟩) (Nat.lt_of_lt_of_le HG.out HL.out.size)]; exact c2
      have HDA := Lib.hid (show WA.ownsMap _ _ _ w.heap.size _ D by rw [← hWA]; exact hD1.alloc (.cells #[.int .i64 x1, .int .i64 x2] 29))
      have OA := Lib.hid (show OwnC WA (w.heap.size + 1) (.slice (some ⟨wr.heap.size, 0, none⟩) 1 1) [(x1, x2)] by rw [← hWA]; exact ownC_lit1 wr x1 x2 (w.heap.size + 1) (by omega))
      have h0' : (0 : Int) < (xs.length : Int) := by omega
      clear hD1 hD2 HM
      go_wp2_with (at_delete; refine wpList_delete_own _ rfl _ _ 125 29 rfl 4 lawA2 Try.underlying125 _ w.heap.size xs.length D rfl HDA.out _ _ rfl hkey ?_; intro w5 hown5 hturn5)
      clear hWA c1 c2 c1' c2'
      have SN := Lib.hid (show SetM w5 w.heap.size xs.length (fun c => c ∈ xs ∧ c ∉ [(x1, x2)]) from ⟨_, hown5, fun c hc => by
        obtain ⟨r, e1, e2⟩ := HP.out c hc
        refine ⟨r, e1, ?_⟩
        rw [e2, List.mem_singleton]⟩)
      have O5 := Lib.hid (show OwnC w5 (w.heap.size + 1) (.slice (some ⟨wr.heap.size, 0, none⟩) 1 1) [(x1, x2)] from ownsRow_grown OA.out hturn5.grown (fun q hq => by cases hq; omega))
      have L5 := Lib.hid (show Below w.heap.size w w5 from LA.out.grown hturn5.grown LA.out.size (fun j hj => by cases hj; exact Nat.le_refl _))
      clear hown5 hturn5 HP HDA OA LA hMr hkey hx
      go_wp2
      go_loopw [6, 7] (fun v x wr => ∃ (R : List (Int × Int)) (n : Nat), x = .int .i64 n ∧ n ≤ R.length ∧ Hid (OwnC wr (w.heap.size + 1) v R) ∧ Hid (SetM wr w.heap.size xs.length (fun c => c ∈ xs ∧ c ∉ R)) ∧ Hid (BfsM xs R n 0) ∧ Hid (Below w.heap.size w wr)) (fun _ x _ => xs.length + 1 - (intOf x).toNat)
      case atStart => exact ⟨[(x1, x2)], 0, rfl, Nat.zero_le _, O5, SN, HB0, L5⟩
      case round =>
        clear O5 SN HB0 L5 HL
        obtain ⟨R, n, rfl, hnl, HO, HM, HB, HL⟩ := hrel
        have hRx := HB.out.len
        obtain ⟨gg, cap, hv, hgg, hgs, hcl, hfz⟩ := ownC_form HO.out (List.length_pos_of_mem HB.out.head)
        subst hv
        by_cases hnlt : n < R.length
        · have hnlt' : (n : Int) < (R.length : Int) := by omega
          obtain ⟨c1, c2⟩ := hcl n hnlt
          have hN := HS.out _ (HB.out.sub _ (mem_getD hnlt))
          obtain ⟨x, hxe⟩ : ∃ x, R.getD n (0, 0) = x := ⟨_, rfl⟩
          rw [hxe] at c1 c2 hN
          have HRN := Lib.hid hxe
          clear hcl hfz hxe
          obtain ⟨p, q⟩ := x
          have HW4 := Lib.hid (fun j (hj : j < 4) => wrC_mem HS.out hN hj)
          have HIX := Lib.hid (fun j (hj : j < 4) w => index_four p q _ _ j hj _ (nb_wrap hN hj) w)
          obtain ⟨⟨n1, n2⟩, n3, n4⟩ := hN
          simp only at c1 c2 n1 n2 n3 n4
          have CN := Lib.hid (fun w => neighborsOf_any p q _ _ w n1 n2 n3 n4 rfl rfl)
          generalize IntKind.i64.wrap (p + 1) = u at *
          generalize IntKind.i64.wrap (q + 1) = v at *
          go_wp2_with fail
          refine (CN.out _).mono ?_
          rintro e w1 ⟨rfl, l1⟩
          have O1 := Lib.hid (show OwnC w1 (w.heap.size + 1) (.slice (some ⟨gg, 0, none⟩) R.length cap) R from ownsRow_below HO.out l1)
          have M1 := Lib.hid (HM.out.lo l1)
          have L1 := Lib.hid (lo_on HL.out l1)
          clear l1 HO HM HL c1 c2 n1 n2 n3 n4 hgs hgg
          go_wp2
          go_loopw [6, 41] (fun v x wr => ∃ (R : List (Int × Int)) (j : Nat), x = .int .i64 j ∧ j ≤ 4 ∧ n < R.length ∧ Hid (R.getD n (0, 0) = (p, q)) ∧ Hid (OwnC wr (w.heap.size + 1) v R) ∧ Hid (SetM wr w.heap.size xs.length (fun c => c ∈ xs ∧ c ∉ R)) ∧ Hid (BfsM xs R n j) ∧ Hid (Below w.heap.size w wr)) (fun _ x _ => 4 - (intOf x).toNat)
          case atStart => exact ⟨R, 0, rfl, Nat.zero_le _, hnlt, HRN, O1, M1, HB, L1⟩
          case round =>
            clear O1 M1 HB L1 HRN hnlt hnlt' hnl hRx
            obtain ⟨R, j, rfl, hj4, hnlt, HRN, HO, HM, HB, HL⟩ := hrel
            by_cases hj : j < 4
            · have hj' : (j : Int) < 4 := by omega
              have hRx := HB.out.len
              obtain ⟨gg, cap, hv, hgg, hgs, hcl, hfz⟩ := ownC_form HO.out (by omega)
              subst hv
              have hix := HIX.out j hj wr
              have hw4 := HW4.out j hj
              have hRn := HRN.out
              have HBs := Lib.hid (fun h => HB.out.skip (i := j) h)
              have HBa := Lib.hid (fun hx hm => HB.out.add (i := j) hj hnlt hx hm)
              rw [hRn] at HBs HBa
              generalize (nb4 (p, q)).getD j (0, 0) = d at hix hw4 HBs HBa
              have hdw := wrC_wf d
              obtain ⟨y, hy⟩ : ∃ y, wrC d = y := ⟨_, rfl⟩
              rw [hy] at hix hw4 hdw
              obtain ⟨WB, hWB⟩ : ∃ X, wr.alloc (.cells #[.int .i64 y.1, .int .i64 y.2] 29) = X := ⟨_, rfl⟩
              have MB := Lib.hid (show SetM WB w.heap.size xs.length (fun c => c ∈ xs ∧ c ∉ R) by rw [← hWB]; exact HM.out.lo (below_new _ _))
              have OB := Lib.hid (show OwnC WB (w.heap.size + 1) (.slice (some ⟨gg, 0, none⟩) R.length cap) R by rw [← hWB]; exact ownsRow_below HO.out (below_new _ _))
              have LB := Lib.hid (show Below w.heap.size w WB by rw [← hWB]; exact HL.out.alloc HL.out.size _)
              have b1 : WB.cell? ⟨wr.heap.size, 0, none⟩ = some (.int .i64 y.1) := by rw [← hWB, World.cell?_alloc_at _ _ _ _ rfl]; rfl
              have b2 : WB.cell? ⟨wr.heap.size, 1, none⟩ = some (.int .i64 y.2) := by rw [← hWB, World.cell?_alloc_at _ _ _ _ rfl]; rfl
              have hbs : wr.heap.size < WB.heap.size := by rw [← hWB]; simp
              obtain ⟨rr, hlook, hiff⟩ := MB.out.look y hdw
              have hMr := HM.out.lt
              have hkey := keyC y hdw
              clear hcl hfz hgs hRn HM HO HL
              cases rr with
              | false =>
                have HBn := Lib.hid (HBs.out fun hx => Classical.byContradiction fun hm => by
                  have e := hw4.2 hx
                  have := hiff.2 ⟨by rw [e]; exact hx, by rw [e]; exact hm⟩
                  cases this)
                clear hw4 hiff HBs HBa hdw hkey
                obtain ⟨y1, y2⟩ := y
                simp only at hix hWB b1 b2 hlook
                have HY := Lib.hid hy
                clear hy
                go_wp2
                clear hWB
                go_roundw
                case rel => exact ⟨R, j + 1, by go_num, by omega, hnlt, HRN, OB, MB, HBn, LB⟩
                case measure => simp [intOf]; omega
              | true =>
                have hmem := hiff.1 rfl
                have hyd : y = d := by
                  have := hw4.1.1 hmem.1
                  exact hw4.2 this
                rw [← hyd] at HBa
                have HBn := Lib.hid (HBa.out hmem.1 hmem.2)
                obtain ⟨D, hD1, hD2⟩ := MB.out.ex
                have HDA := Lib.hid hD1
                have HP := Lib.hid (del_set hD2 y hdw)
                clear hw4 hiff HBs HBa hdw hmem hyd hD1 hD2 MB
                obtain ⟨y1, y2⟩ := y
                simp only at hix hWB b1 b2 hlook hkey
                have HY := Lib.hid hy
                clear hy
                have hsz := LB.out.size
                go_wp2_with (first
                  | (at_delete; refine wpList_delete_own _ rfl _ _ 125 29 rfl 4 lawA2 Try.underlying125 _ w.heap.size xs.length D rfl HDA.out _ _ rfl hkey ?_; intro w5 hown5 hturn5; have hg5 := hturn5.grown; have b15 := (grown_cell hg5 hbs (fun h => by have := Option.some.inj h; omega) 0).trans b1; have b25 := (grown_cell hg5 hbs (fun h => by have := Option.some.inj h; omega) 1).trans b2; have hown := ownsRow_grown OB.out hg5 (fun q hq => by have := Option.some.inj hq; omega); have hs5 := hg5.size; clear hWB)
                  | (at_builtin; refine wpList_append_own _ rfl _ _ 22 rfl (w.heap.size + 1) 29 i0 (.agg #[.int .i64 0, .int .i64 0]) 2 16 Try.underlying22 hi hz0 hz1 hz2 rfl (by decide) _ _ _ rfl (hown.alloc _) ⟨w5.heap.size, 0, none⟩ 1 1 (cellsF [(y1, y2)]) rfl rfl (two_new w5 y1 y2 29) (cellsF_one [(y1, y2)]) (by unfold maxLen; omega) (by omega) (by simp; omega) ?_; intro v' w3 hown' hgrow3 hnil3))
                have L5 := Lib.hid (show Below w.heap.size w w5 from LB.out.grown hg5 LB.out.size (fun j hj => by cases hj; exact Nat.le_refl _))
                have S5 := Lib.hid (show SetM w5 w.heap.size xs.length (fun c => c ∈ xs ∧ c ∉ R ++ [(y1, y2)]) from ⟨_, hown5, fun c hc => by
                  obtain ⟨r, e1, e2⟩ := HP.out c hc
                  refine ⟨r, e1, ?_⟩
                  rw [e2, List.mem_append, List.mem_singleton, and_assoc, not_or]⟩)
                have O3 := Lib.hid (show OwnC w3 (w.heap.size + 1) v' (R ++ [(y1, y2)]) from ownC_snoc hown' rfl)
                have S3 := Lib.hid ((S5.out.lo (below_new _ _)).kept hgrow3 (fun h => by have := (hown.lt _ h.symm).1; omega))
                have L3 := Lib.hid (show Below w.heap.size w w3 from (L5.out.alloc L5.out.size _).grown hgrow3 (by simp; omega) (fun j hj => by have := (hown.lt j hj).1; omega))
                have hnl3 : n < (R ++ [(y1, y2)]).length := by rw [List.length_append]; omega
                have HRN3 := Lib.hid (show (R ++ [(y1, y2)]).getD n (0, 0) = (p, q) by rw [cell_app hnlt]; exact HRN.out)
                clear hown hown' hgrow3 hnil3 hg5 hturn5 hown5 b15 b25 S5 L5
                go_wp2
                go_roundw
                case rel => exact ⟨R ++ [(y1, y2)], j + 1, by go_num, by omega, hnl3, HRN3, O3, S3, HBn, L3⟩
                case measure => simp [intOf]; omega
            · obtain rfl : j = 4 := by omega
              have hRx := HB.out.len
              have HBn := Lib.hid HB.out.next
              go_wp2
              go_roundw
              case rel => exact ⟨R, n + 1, by go_num, by omega, HO, HM, HBn, HL⟩
              case measure => simp [intOf]; omega
        · obtain rfl : n = R.length := by omega
          have hge : ¬ (R.length : Int) < (R.length : Int) := by omega
          have HF := Lib.hid (HE.out R HB.out)
          clear hcl
          go_wp2
          go_ret
          exact ⟨by rw [← HF.out]; exact congrArg (fun b => Ending.returned (Value.bool b)) (by rw [Bool.eq_iff_iff]; simp; omega), HL.out⟩
end Go.Proofs.Ytmcjichpeijiaaa
