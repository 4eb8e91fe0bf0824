/- A map of slices keyed by an array, that the call makes: an entry is found or made, and stored into later. No program stands here. -/
import Derived.Maps.Own
import Derived.Maps.OwnSet
import Derived.WideKeyEntry
namespace Go.Proofs.Ytgdgiecajflmaab
open Go.RowKit Go.Maps Go.ChangeMaps Go.MapKept
open Go.WideElems (Fit rg rd entry_then_store)
/-- An element reads as itself. -/
def heldV (v : Value) : Option (DataW Value × List MemPlace) := some (.held v, [])
theorem one_key {l : List MapEntry} (h : l.Pairwise (fun x y => x.key ≠ y.key)) {x y : MapEntry} (hx : x ∈ l) (hy : y ∈ l) (e : x.key = y.key) : x = y := by
  induction h with
  | nil => cases hx
  | cons h1 _ ih =>
    rcases List.mem_cons.1 hx with e1 | mx
    · rcases List.mem_cons.1 hy with e2 | my
      · rw [e1, e2]
      · exact absurd (e1 ▸ e) (h1 _ my)
    · rcases List.mem_cons.1 hy with e2 | my
      · exact absurd (e2 ▸ e).symm (h1 _ mx)
      · exact ih mx my
theorem entry_held {P : Program} {w : World} {t k e : TypeId} {b n : Nat} {D : DataW Value} (h : w.ownsMap P k heldV b n D) (L : WideMaps.KeyLaw P k) (ht : P.underlying t = some (.map k e)) (hz : ∀ u : World, (zeroValue e).run P u = .ok (.slice none 0 0) u) (hn : n < maxLen) {key : Value} {kl : Lit} (hkey : keyOf P k key = some kl) :
    ∃ (v0 : Value) (st : Nat) (w1 : World), (Instr.mapEntry t (.map (some b)) key).run P w = .ok (.tuple #[v0, goInt st]) w1 ∧ w.grownBy w1 (some b) ∧ w1.heap.size = w.heap.size ∧ D.atKey kl (.held (.slice none 0 0)) = .held v0 ∧
      ∀ (w2 : World) (val : Value) (row : Option Nat), w1.grownBy w2 row → some b ≠ row → ∃ w3, (Instr.entryStore t (.map (some b)) (goInt st) val).run P w2 = .ok () w3 ∧ w3.ownsMap P k heldV b (n + 1) (D.put kl (.held val)) ∧ w2.grownBy w3 (some b) ∧ w3.heap.size = w2.heap.size := by
  have h0 := h
  obtain ⟨es, clock, hb, F, hs, rfl⟩ := h
  obtain ⟨v0, st, es1, clock1, hrun, hv, hst⟩ := entry_then_store L ht hz hb F hkey
  have K := Keyed.of_law L
  refine ⟨v0, st, _, hrun, ⟨rfl, rfl, rfl, by simp [setBlock], fun i _ hi => heap_setBlock_other hb _ (fun e => hi (by rw [e]))⟩, by simp [setBlock], ?_, ?_⟩
  · rcases Maps.fit_look false K ht (hz w) hb F hkey with ⟨_, hno, hat⟩ | ⟨e0, y, hm, hk0, _, hRv, hat, _⟩
    · rw [hat]
      rcases hv with ⟨e1, he1, hk1, _⟩ | ⟨_, rfl⟩
      · exact absurd hk1 (hno e1 he1)
      · rfl
    · rw [hat]
      cases hRv
      rcases hv with ⟨e1, he1, hk1, rfl⟩ | ⟨hno, _⟩
      · have := one_key ((stamped_iff es clock).1 F.stamped).2.2 hm he1 (by rw [hk0, hk1])
        rw [this]
      · exact absurd hk0 (hno e0 hm)
  · intro w2 val row hg hne
    have hb1 : (setBlock w b (.map es1 clock1)).heap[b]? = some (.map es1 clock1) := heap_setBlock_same hb _
    have hlt : b < (setBlock w b (.map es1 clock1)).heap.size := (Array.getElem?_eq_some_iff.1 hb1).1
    have hb2 : w2.heap[b]? = some (.map es1 clock1) := (hg.block b hlt hne).trans hb1
    obtain ⟨es', clock', hr1, hr2⟩ := hst w2 val hb2
    refine ⟨_, hr1, ?_, ⟨rfl, rfl, rfl, by simp [setBlock], fun i _ hi => heap_setBlock_other hb2 _ (fun e => hi (by rw [e]))⟩, by simp [setBlock]⟩
    obtain ⟨w', hu, hown, _⟩ := h0.update K ht hn (val := val) hkey rfl
    rw [hr2] at hu
    cases hu
    obtain ⟨es2, clock2, hb3, F3, hs3, hD3⟩ := hown
    rw [heap_setBlock_same hb] at hb3
    cases hb3
    exact ⟨es', clock', heap_setBlock_same hb2 _, F3, hs3, hD3⟩
end Go.Proofs.Ytgdgiecajflmaab
