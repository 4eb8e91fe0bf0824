/- Coins by their outcomes, in a map that the call makes. -/
import Derived.Test.YtgdgiecajflmaabGroups
import Derived.Test.YtgdgiecajflmaabCoin3
import Derived.Test.YtgdgiecajflmaabBase
import Derived.Test.YtgdgiecajflmaabRows1
import Derived.DeepKeys4
import Derived.Maps.AppendAt
namespace Go.Proofs.Ytgdgiecajflmaab
open Go.RowKit Go.Maps
theorem rowCode : (73 : TypeId) < Try.prog.types.size := of_decide_eq_true (by kernel_rfl)
theorem wideCode : (match Try.prog.underlying 73 with | some (.array _ _) | some (.struct _) => true | _ => false) = true := by rw [Try.underlying73]
set_option maxRecDepth 100000 in
theorem lawCode : WideMaps.KeyLaw Try.prog 73 := deep_law_laid laidOut (m := 2) (by omega) rowCode (by kernel_rfl) wideCode
theorem keyTCode : Try.prog.keyType 73 = true := by kernel_rfl
theorem cellsCode : Try.prog.cellsOf 73 = 5 := by kernel_rfl
theorem cellsInt : Try.prog.cellsOf 3 = 1 := by kernel_rfl
theorem typesN : ∃ n, Try.prog.types.size = n + 1 := ⟨Try.prog.types.size - 1, by kernel_rfl⟩
def codeV (f : Nat → Int) : Value := .agg #[.int .i64 (f 0), .int .i64 (f 1), .int .i64 (f 2), .int .i64 (f 3), .int .i64 (f 4)]
def litsF (f : Nat → Int) : List Lit := [.int .i64 (f 0), .int .i64 (f 1), .int .i64 (f 2), .int .i64 (f 3), .int .i64 (f 4)]
def klF (f : Nat → Int) : Lit := .string (keyBytes (litsF f))
theorem keyCode (f : Nat → Int) (hf : ∀ j, -1 ≤ f j ∧ f j ≤ 1) : keyOf Try.prog 73 (codeV f) = some (klF f) := by
  have wf : ∀ j, (Lit.int .i64 (f j)).wf = true := fun j => WalkArith.wf_i64 (by have := hf j; omega)
  obtain ⟨n, hn⟩ := typesN
  unfold keyOf
  rw [Try.underlying73]
  simp only [keyTCode, codeV, Value.formed, Try.underlying73, cellsCode, hn]
  simp [Program.keyLits, Try.underlying73, Try.underlying3, cellsCode, cellsInt, List.range, List.range.loop, wf, Value.cells, klF, litsF]
theorem klF_inj {f g : Nat → Int} (hf : ∀ j, -1 ≤ f j ∧ f j ≤ 1) (hg : ∀ j, -1 ≤ g j ∧ g j ≤ 1) (h : klF f = klF g) : ∀ j, j < 5 → f j = g j := by
  have := lawCode.inj (keyCode f hf) (h ▸ keyCode g hg)
  unfold codeV at this
  simp at this
  obtain ⟨a0, a1, a2, a3, a4⟩ := this
  intro j hj
  match j, hj with
  | 0, _ => exact a0
  | 1, _ => exact a1
  | 2, _ => exact a2
  | 3, _ => exact a3
  | 4, _ => exact a4
theorem zeroPairs (u : World) : (zeroValue 54).run Try.prog u = .ok (.slice none 0 0) u := by kernel_rfl
theorem ownsRow_grown {w w' : World} {B : Nat} {e : TypeId} {s : Nat} {v : Value} {n : Nat} {xs : List Value} {row : Option Nat} (h : w.ownsRow B e s v n xs) (hg : w.grownBy w' row) (hne : ∀ g, v.ownBlock = some g → row ≠ some g) : w'.ownsRow B e s v n xs := by
  refine ⟨h.1, ?_⟩
  rcases h.2 with h | ⟨g, cap, cur, e, hb, hh, r⟩
  · exact .inl h
  · subst e
    exact .inr ⟨g, cap, cur, rfl, hb, (hg.block g (Array.getElem?_eq_some_iff.1 hh).1 (fun e => hne g rfl e.symm)).trans hh, r⟩
/-- The keys that have come, without repeats, are so many. -/
noncomputable def cntL : List Lit → Nat
  | [] => 0
  | l :: r => if propB (l ∈ r) = true then cntL r else cntL r + 1
noncomputable def selF (K : Int × Int → Lit) (l : Lit) (ps : List (Int × Int)) : List (Int × Int) := ps.filter (fun p => propB (K p = l))
/-- The map reads as the coins ps (the last one first) by the keys that K tells. -/
structure CoinsM (w : World) (b n : Nat) (K : Int × Int → Lit) (ps : List (Int × Int)) : Prop where
  ex : ∃ (D : DataW Value) (V : Lit → Value), w.ownsMap Try.prog 73 heldV b n D ∧ Maps.size D = cntL (ps.map K) ∧ (∀ l, Maps.has D l = true ↔ l ∈ ps.map K) ∧ (∀ l, D.atKey l (.held (.slice none 0 0)) = .held (V l)) ∧
    (∀ l, w.ownsRow (b + 1) 66 2 (V l) (selF K l ps).length (cellsF (selF K l ps).reverse)) ∧
    ∀ l l' g, l ≠ l' → (V l).ownBlock = some g → (V l').ownBlock ≠ some g
theorem CoinsM.start (w : World) (K : Int × Int → Lit) : CoinsM (w.alloc (.map #[] 0)) w.heap.size 0 K [] :=
  ⟨.map [], fun _ => .slice none 0 0, World.ownsMap_made _ _ _ _, rfl, fun l => by simp [Maps.has_eq], fun l => rfl, fun l => World.ownsRow_nil _ _ _ _, fun l l' g _ h => by cases h⟩
theorem CoinsM.lo {w w' : World} {b n : Nat} {K : Int × Int → Lit} {ps : List (Int × Int)} (h : CoinsM w b n K ps) (l : Below w.heap.size w w') : CoinsM w' b n K ps := by
  obtain ⟨D, V, h1, h2, h3, h4, h5, h6⟩ := h.ex
  refine ⟨D, V, ?_, h2, h3, h4, fun k => ?_, h6⟩
  · obtain ⟨es, clock, hb, F, hs, hD⟩ := h1
    exact ⟨es, clock, (l.block b (Array.getElem?_eq_some_iff.1 hb).1).trans hb, F, hs, hD⟩
  · have h := h5 k
    refine ⟨h.1, ?_⟩
    rcases h.2 with h | ⟨g, cap, cur, e, hb, hg, r⟩
    · exact .inl h
    · exact .inr ⟨g, cap, cur, e, hb, (l.block g (Array.getElem?_eq_some_iff.1 hg).1).trans hg, r⟩
theorem sel_same (K : Int × Int → Lit) (p : Int × Int) (ps : List (Int × Int)) : selF K (K p) (p :: ps) = p :: selF K (K p) ps := by simp [selF, propB_yes]
theorem sel_other {K : Int × Int → Lit} {p : Int × Int} {l : Lit} (h : l ≠ K p) (ps : List (Int × Int)) : selF K l (p :: ps) = selF K l ps := by simp [selF, propB_no (show ¬ K p = l from fun e => h e.symm)]
theorem cellsF_snoc1 (xs : List (Int × Int)) (p : Int × Int) : cellsF (xs ++ [p]) = cellsF xs ++ cellsF [p] := cellsF_app xs [p]
/-- One more coin: its key's row is found or made, and stored again behind the append. -/
theorem coins_entry {w : World} {b n : Nat} {K : Int × Int → Lit} {ps : List (Int × Int)} (h : CoinsM w b n K ps) (hn : n < maxLen) (p : Int × Int) (f : Nat → Int) (hf : ∀ j, -1 ≤ f j ∧ f j ≤ 1) (hp : K p = klF f) :
    ∃ (v0 : Value) (st : Nat) (w1 : World), (Instr.mapEntry 95 (.map (some b)) (codeV f)).run Try.prog w = .ok (.tuple #[v0, goInt st]) w1 ∧ w.grownBy w1 (some b) ∧ w1.heap.size = w.heap.size ∧ w1.ownsRow (b + 1) 66 2 v0 (selF K (K p) ps).length (cellsF (selF K (K p) ps).reverse) ∧ b < w.heap.size ∧
      ∀ (w2 : World) (v' : Value), w1.grownBy w2 v0.ownBlock → w2.ownsRow (b + 1) 66 2 v' ((selF K (K p) ps).length + 1) (cellsF (selF K (K p) ps).reverse ++ cellsF [p]) → (v'.ownBlock = v0.ownBlock ∨ v'.ownBlock = some w1.heap.size) →
        ∃ w3, (Instr.entryStore 95 (.map (some b)) (goInt st) v').run Try.prog w2 = .ok () w3 ∧ CoinsM w3 b (n + 1) K (p :: ps) ∧ w2.grownBy w3 (some b) := by
  obtain ⟨D, V, h1, h2, h3, h4, h5, h6⟩ := h.ex
  have hk := keyCode f hf
  rw [← hp] at hk
  have hlt := h1.lt
  have tidy := h1.tidy (Keyed.of_law lawCode)
  have isM := h1.isMap
  have keyLit : WideAt.IsKeyLit (K p) := by rw [hp]; trivial
  obtain ⟨v0, st, w1, hrun, hg1, hs1, hat, hback⟩ := entry_held h1 lawCode Try.underlying95 zeroPairs hn hk
  have hv0 : V (K p) = v0 := by
    have := h4 (K p)
    rw [hat] at this
    cases this
    rfl
  subst hv0
  have hne1 : ∀ l g, (V l).ownBlock = some g → some b ≠ some g := fun l g hg e => by
    have := (h5 l).lt g hg
    cases e
    omega
  refine ⟨_, st, w1, hrun, hg1, hs1, ownsRow_grown (h5 (K p)) hg1 (hne1 (K p)), hlt, fun w2 v' hg2 hown' hloc => ?_⟩
  obtain ⟨w3, hst, hown3, hg3, _⟩ := hback w2 v' _ hg2 (fun e => hne1 (K p) b e.symm rfl)
  have hv'lt := hown'.lt
  have hne2 : ∀ g, v'.ownBlock = some g → some b ≠ some g := fun g hg e => by
    have := hv'lt g hg
    cases e
    omega
  refine ⟨w3, hst, ⟨_, fun l => if propB (l = K p) = true then v' else V l, hown3, ?_, fun l => ?_, fun l => ?_, fun l => ?_, fun l l' g hll hg => ?_⟩, hg3⟩
  · rw [Maps.size_put tidy, List.map_cons, cntL, h2]
    by_cases e : K p ∈ ps.map K
    · rw [if_pos ((h3 _).2 e), if_pos (propB_yes e)]
    · rw [if_neg (fun hh => e ((h3 _).1 hh)), if_neg (by rw [propB_no e]; simp)]
  · by_cases e : l = K p
    · subst e
      simp [Maps.has_put_same isM keyLit]
    · rw [Maps.has_put_other e, h3 l]
      simp [e]
  · by_cases e : l = K p
    · subst e
      simp only [propB_yes, if_true]
      exact Maps.atKey_put_same isM keyLit _ _
    · simp only [propB_no e]
      rw [Maps.atKey_put_other e, h4 l]
      rfl
  · by_cases e : l = K p
    · subst e
      simp only [propB_yes, if_true]
      rw [sel_same, List.reverse_cons, cellsF_snoc1, List.length_cons]
      exact ownsRow_grown hown' hg3 hne2
    · simp only [propB_no e]
      rw [sel_other e]
      refine ownsRow_grown (ownsRow_grown (ownsRow_grown (h5 l) hg1 (hne1 l)) hg2 (fun g hg e2 => h6 l (K p) g e hg e2)) hg3 (hne1 l)
  · have hnew : ∀ l, l ≠ K p → ∀ g, (V l).ownBlock = some g → v'.ownBlock ≠ some g := fun l hl g hg e => by
      rcases hloc with e2 | e2
      · rw [e2] at e; exact h6 l (K p) g hl hg e
      · rw [e2] at e
        cases e
        have := ((h5 l).lt _ hg).2
        omega
    by_cases e : l = K p
    · subst e
      have e' : ¬ l' = K p := fun h => hll h.symm
      simp only [propB_yes, if_true] at hg
      simp only [propB_no e']
      exact fun hh => hnew l' e' g hh hg
    · simp only [propB_no e] at hg
      by_cases e' : l' = K p
      · subst e'
        simp only [propB_yes, if_true]
        exact hnew l e g hg
      · simp only [propB_no e']
        exact h6 l l' g hll hg
end Go.Proofs.Ytgdgiecajflmaab
