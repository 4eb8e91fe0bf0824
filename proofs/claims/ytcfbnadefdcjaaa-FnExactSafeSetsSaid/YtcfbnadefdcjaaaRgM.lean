/- A map from decks to numbers of ways, that the call makes: what is found in it, and what is put into it. -/
import Derived.Test.YtcfbnadefdcjaaaRfQ
import Derived.Test.YtcfbnadefdcjaaaBase
import Derived.Maps.Own
import Derived.Maps.OwnSet
import Derived.Maps.OwnOps
import Derived.Maps.Views
import Derived.DeepKeys4
import Derived.Test.YtcfbnadefdcjaaaRows1
namespace Go.Proofs.Ytcfbnadefdcjaaa
open Go.RowKit Go.Maps Go.ChangeMaps Go.MapKept
/-- An element reads as itself. -/
def heldW (v : Value) : Option (DataW Value × List MemPlace) := some (.held v, [])
theorem rowDeck : (97 : TypeId) < Try.prog.types.size := of_decide_eq_true (by kernel_rfl)
theorem wideDeck : (match Try.prog.underlying 97 with | some (.array _ _) | some (.struct _) => true | _ => false) = true := by rw [Try.underlying97]
set_option maxRecDepth 100000 in
theorem lawDeck : WideMaps.KeyLaw Try.prog 97 := deep_law_laid laidOut (m := 3) (by omega) rowDeck (by kernel_rfl) wideDeck
theorem keyTDeck : Try.prog.keyType 97 = true := by kernel_rfl
theorem cellsDeck : Try.prog.cellsOf 97 = 16 := by kernel_rfl
theorem cellsLoad : Try.prog.cellsOf 84 = 2 := by kernel_rfl
theorem cellsIntD : Try.prog.cellsOf 3 = 1 := by kernel_rfl
theorem typesD : ∃ n, Try.prog.types.size = n + 3 := ⟨Try.prog.types.size - 3, by kernel_rfl⟩
/-- The value of a deck. -/
def at8 (d : List (Int × Int)) (i : Nat) : Int × Int := d.getD i (0, 0)
def deckV (d : List (Int × Int)) : Value := .agg #[.int .i64 (at8 d 0).1, .int .i64 (at8 d 0).2, .int .i64 (at8 d 1).1, .int .i64 (at8 d 1).2, .int .i64 (at8 d 2).1, .int .i64 (at8 d 2).2, .int .i64 (at8 d 3).1, .int .i64 (at8 d 3).2, .int .i64 (at8 d 4).1, .int .i64 (at8 d 4).2, .int .i64 (at8 d 5).1, .int .i64 (at8 d 5).2, .int .i64 (at8 d 6).1, .int .i64 (at8 d 6).2, .int .i64 (at8 d 7).1, .int .i64 (at8 d 7).2]
def litsD (d : List (Int × Int)) : List Lit := [.int .i64 (at8 d 0).1, .int .i64 (at8 d 0).2, .int .i64 (at8 d 1).1, .int .i64 (at8 d 1).2, .int .i64 (at8 d 2).1, .int .i64 (at8 d 2).2, .int .i64 (at8 d 3).1, .int .i64 (at8 d 3).2, .int .i64 (at8 d 4).1, .int .i64 (at8 d 4).2, .int .i64 (at8 d 5).1, .int .i64 (at8 d 5).2, .int .i64 (at8 d 6).1, .int .i64 (at8 d 6).2, .int .i64 (at8 d 7).1, .int .i64 (at8 d 7).2]
def klD (d : List (Int × Int)) : Lit := .string (keyBytes (litsD d))
/-- A deck of eight small loads. -/
structure DeckF (d : List (Int × Int)) : Prop where
  len : d.length = 8
  small : ∀ i, (0 ≤ (at8 d i).1 ∧ (at8 d i).1 ≤ 60) ∧ 0 ≤ (at8 d i).2 ∧ (at8 d i).2 ≤ 99
theorem DeckF.set {g d : List (Int × Int)} (hd : DeckF d) (hg : DeckF g) (i : Nat) (hi : i < 8) : DeckF (d.set i (at8 g i)) := by
  refine ⟨by rw [List.length_set]; exact hd.len, fun j => ?_⟩
  unfold at8
  rw [set_at hd.len i j _ hi]
  split
  · exact hg.small i
  · exact hd.small j
theorem keyDeck {d : List (Int × Int)} (h : DeckF d) : keyOf Try.prog 97 (deckV d) = some (klD d) := by
  have w1 : ∀ j, (Lit.int .i64 (at8 d j).1).wf = true := fun j => WalkArith.wf_i64 (by have := h.small j; omega)
  have w2 : ∀ j, (Lit.int .i64 (at8 d j).2).wf = true := fun j => WalkArith.wf_i64 (by have := h.small j; omega)
  obtain ⟨n, hn⟩ := typesD
  unfold keyOf
  rw [Try.underlying97]
  simp only [keyTDeck, deckV, Value.formed, Try.underlying97, cellsDeck, hn]
  simp [Program.keyLits, Try.underlying97, Try.underlying84, Try.underlying3, cellsDeck, cellsLoad, cellsIntD, List.range, List.range.loop, w1, w2, Value.cells, klD, litsD]
theorem klD_inj {c d : List (Int × Int)} (hc : DeckF c) (hd : DeckF d) (h : klD c = klD d) : c = d := by
  have := lawDeck.inj (keyDeck hc) (h ▸ keyDeck hd)
  unfold deckV at this
  simp at this
  refine ext8 hd.len hc.len (fun i hi => ?_)
  obtain ⟨a0, b0, a1, b1, a2, b2, a3, b3, a4, b4, a5, b5, a6, b6, a7, b7⟩ := this
  match i, hi with
  | 0, _ => exact Prod.ext a0 b0
  | 1, _ => exact Prod.ext a1 b1
  | 2, _ => exact Prod.ext a2 b2
  | 3, _ => exact Prod.ext a3 b3
  | 4, _ => exact Prod.ext a4 b4
  | 5, _ => exact Prod.ext a5 b5
  | 6, _ => exact Prod.ext a6 b6
  | 7, _ => exact Prod.ext a7 b7
set_option maxRecDepth 100000 in
theorem eq_deck {c d : List (Int × Int)} (hc : DeckF c) (hd : DeckF d) (w : World) : (Op.equal 97 (deckV c) (deckV d)).run Try.prog w = .ok (decide (c = d)) w := by
  obtain ⟨r, h1, h2⟩ := run_equal_deep w (m := 3) (by omega) (by kernel_rfl) wideDeck (keyDeck hc) (keyDeck hd)
  rw [h1]
  congr 1
  rw [Bool.eq_iff_iff, h2, decide_eq_true_eq]
  exact ⟨fun h => klD_inj hc hd h, fun h => by rw [h]⟩
theorem rowLoadK : (84 : TypeId) < Try.prog.types.size := of_decide_eq_true (by kernel_rfl)
theorem wideLoadK : (match Try.prog.underlying 84 with | some (.array _ _) | some (.struct _) => true | _ => false) = true := by rw [Try.underlying84]
set_option maxRecDepth 100000 in
theorem lawLoadK : WideMaps.KeyLaw Try.prog 84 := deep_law_laid laidOut (m := 2) (by omega) rowLoadK (by kernel_rfl) wideLoadK
theorem keyTLoadK : Try.prog.keyType 84 = true := by kernel_rfl
theorem keyLoadK {p q : Int} (hp : -1 ≤ p ∧ p ≤ 100) (hq : -1 ≤ q ∧ q ≤ 100) : keyOf Try.prog 84 (.agg #[.int .i64 p, .int .i64 q]) = some (.string (keyBytes [.int .i64 p, .int .i64 q])) := by
  have w1 : (Lit.int .i64 p).wf = true := WalkArith.wf_i64 (by omega)
  have w2 : (Lit.int .i64 q).wf = true := WalkArith.wf_i64 (by omega)
  obtain ⟨n, hn⟩ := typesD
  unfold keyOf
  rw [Try.underlying84]
  simp only [keyTLoadK, Value.formed, Try.underlying84, cellsLoad, hn]
  simp [Program.keyLits, Try.underlying84, Try.underlying3, cellsLoad, cellsIntD, w1, w2, Value.cells]
set_option maxRecDepth 100000 in
theorem eq_load {p q r s : Int} (hp : -1 ≤ p ∧ p ≤ 100) (hq : -1 ≤ q ∧ q ≤ 100) (hr : -1 ≤ r ∧ r ≤ 100) (hs : -1 ≤ s ∧ s ≤ 100) (w : World) : (Op.equal 84 (.agg #[.int .i64 p, .int .i64 q]) (.agg #[.int .i64 r, .int .i64 s])).run Try.prog w = .ok (decide ((p, q) = (r, s))) w := by
  obtain ⟨x, h1, h2⟩ := run_equal_deep w (m := 2) (by omega) (by kernel_rfl) wideLoadK (keyLoadK hp hq) (keyLoadK hr hs)
  rw [h1]
  congr 1
  rw [Bool.eq_iff_iff, h2, decide_eq_true_eq]
  constructor
  · intro h
    have := lawLoadK.inj (keyLoadK hp hq) (h ▸ keyLoadK hr hs)
    simpa using this
  · intro h
    simp only [Prod.mk.injEq] at h
    rw [h.1, h.2]
/-- The map tells, for each deck that it knows, what f says. -/
structure MemM (w : World) (b n : Nat) (f : List (Int × Int) → Int) : Prop where
  ex : ∃ D : DataW Value, w.ownsMap Try.prog 97 heldW b n D ∧ ∀ d, DeckF d → (∀ zd, D.atKey (klD d) zd = zd) ∨ (∀ zd, D.atKey (klD d) zd = .held (.int .i64 (f d)))
theorem MemM.start (w : World) (f : List (Int × Int) → Int) : MemM (w.alloc (.map #[] 0)) w.heap.size 0 f := ⟨.map [], World.ownsMap_made _ _ _ _, fun _ _ => .inl (fun _ => rfl)⟩
theorem MemM.lt {w : World} {b n : Nat} {f : List (Int × Int) → Int} (h : MemM w b n f) : b < w.heap.size := by
  obtain ⟨D, h1, _⟩ := h.ex
  exact h1.lt
theorem MemM.more {w : World} {b n m : Nat} {f : List (Int × Int) → Int} (h : MemM w b n f) (hm : n ≤ m) : MemM w b m f := by
  obtain ⟨D, h1, h2⟩ := h.ex
  exact ⟨D, h1.mono hm, h2⟩
theorem MemM.lo {w w' : World} {b n : Nat} {f : List (Int × Int) → Int} (h : MemM w b n f) (l : Below w.heap.size w w') : MemM w' b n f := by
  obtain ⟨D, ⟨es, clock, hb, F, hs, hD⟩, h2⟩ := h.ex
  exact ⟨D, ⟨es, clock, (l.block b (Array.getElem?_eq_some_iff.1 hb).1).trans hb, F, hs, hD⟩, h2⟩
theorem zeroIntD (u : World) : (zeroValue 3).run Try.prog u = .ok (.int .i64 0) u := by kernel_rfl
/-- What a look-up with ok gives. -/
theorem MemM.look {w : World} {b n : Nat} {f : List (Int × Int) → Int} (h : MemM w b n f) {d : List (Int × Int)} (hd : DeckF d) :
    (Instr.lookup 102 (.map (some b)) (deckV d) true).run Try.prog w = .ok (.tuple #[.int .i64 0, .bool false]) w ∨ (Instr.lookup 102 (.map (some b)) (deckV d) true).run Try.prog w = .ok (.tuple #[.int .i64 (f d), .bool true]) w := by
  obtain ⟨D, ⟨es, clock, hb, F, hs, rfl⟩, h2⟩ := h.ex
  rcases Maps.fit_look true (Keyed.of_law lawDeck) Try.underlying102 (zeroIntD w) hb F (keyDeck hd) with ⟨hrun, _, hat⟩ | ⟨e0, y, _, _, hrun, hRv, hat, _⟩
  · exact .inl hrun
  · refine .inr ?_
    rw [hrun]
    rcases h2 d hd with h3 | h3
    · have e1 := (h3 (.held (.bool true))).symm.trans (hat _)
      have e2 := (h3 (.held (.bool false))).symm.trans (hat _)
      have := e1.trans e2.symm
      cases this
    · have e1 := (h3 (.held (.bool true))).symm.trans (hat _)
      cases hRv
      simp only [DataW.held.injEq] at e1
      rw [← e1]
      rfl
/-- What is put in. -/
theorem MemM.put {w : World} {b n : Nat} {f : List (Int × Int) → Int} (h : MemM w b n f) (hn : n < maxLen) {d : List (Int × Int)} (hd : DeckF d) :
    ∃ w', (Instr.mapUpdate 102 (.map (some b)) (deckV d) (.int .i64 (f d))).run Try.prog w = .ok () w' ∧ MemM w' b (n + 1) f ∧ w.grownBy w' (some b) := by
  obtain ⟨D, h1, h2⟩ := h.ex
  have isM := h1.isMap
  obtain ⟨w', hrun, h3, h4⟩ := h1.update (Keyed.of_law lawDeck) Try.underlying102 hn (val := .int .i64 (f d)) (keyDeck hd) rfl
  refine ⟨w', hrun, ⟨_, h3, fun c hc => ?_⟩, h4⟩
  by_cases e : klD c = klD d
  · have := klD_inj hc hd e
    subst this
    exact .inr (fun zd => atKey_put_same isM (by trivial) _ _)
  · rcases h2 c hc with h5 | h5
    · exact .inl (fun zd => by rw [atKey_put_other e]; exact h5 zd)
    · exact .inr (fun zd => by rw [atKey_put_other e]; exact h5 zd)
end Go.Proofs.Ytcfbnadefdcjaaa
