/- Slices of integers in memory, as the walks take them: read, and in memory of a call's own. No program stands here. -/
import Derived.Test.YtcfbnadefdcjaaaProg
import Derived.Test.YtcfbnadefdcjaaaOnly
import Derived.Lib.Hide
import Derived.Below
import Derived.WalkKit
import Derived.OwnWalk
import Derived.Maps.AppendAt
namespace Go.Proofs.Ytcfbnadefdcjaaa
open Go.RowKit
/-- The slice value v reads as the integers xs. -/
def IntRow (w : World) (v : Value) (xs : List Int) : Prop :=
  ∃ a c, v = .slice a xs.length c ∧ (xs = [] ∨ ∃ g off, a = some ⟨g, off, none⟩ ∧ g < w.heap.size ∧ ∀ j, j < xs.length → w.cell? ⟨g, off + j, none⟩ = some (.int .i64 (xs.getD j 0)))
theorem IntRow.lo {w w' : World} {v : Value} {xs : List Int} (h : IntRow w v xs) (l : Below w.heap.size w w') : IntRow w' v xs := by
  obtain ⟨a, c, rfl, h⟩ := h
  refine ⟨a, c, rfl, ?_⟩
  rcases h with h | ⟨g, off, e, hg, hc⟩
  · exact .inl h
  · exact .inr ⟨g, off, e, Nat.lt_of_lt_of_le hg l.size, fun j hj => by rw [l.cell (p := ⟨g, off + j, none⟩) hg]; exact hc j hj⟩
theorem intRow_nil (w : World) (a : Option Addr) (c : Nat) : IntRow w (.slice a 0 c) [] := ⟨a, c, rfl, .inl rfl⟩
/-- Blocks from B on, below E, may have turned, and new ones may have come: nothing else. -/
structure Part (B E : Nat) (w w' : World) : Prop where
  os : w'.os = w.os
  tape : w'.tape = w.tape
  output : w'.output = w.output
  size : w.heap.size ≤ w'.heap.size
  block : ∀ k, k < w.heap.size → (k < B ∨ E ≤ k) → w'.heap[k]? = w.heap[k]?
theorem Part.refl (B E : Nat) (w : World) : Part B E w w := ⟨rfl, rfl, rfl, Nat.le_refl _, fun _ _ _ => rfl⟩
theorem Part.trans {B E : Nat} {a b c : World} (h : Part B E a b) (k : Part B E b c) : Part B E a c :=
  ⟨k.os.trans h.os, k.tape.trans h.tape, k.output.trans h.output, Nat.le_trans h.size k.size, fun i hi ho => (k.block i (Nat.lt_of_lt_of_le hi h.size) ho).trans (h.block i hi ho)⟩
theorem Part.below {B E : Nat} {a b : World} (h : Part B E a b) (hB : B ≤ a.heap.size) : Below B a b := ⟨h.os, h.tape, h.output, h.size, fun k hk => h.block k (by omega) (.inl hk)⟩
theorem Part.mono {B E B' E' : Nat} {a b : World} (h : Part B E a b) (h1 : B' ≤ B) (h2 : E ≤ E') : Part B' E' a b := ⟨h.os, h.tape, h.output, h.size, fun k hk ho => h.block k hk (by omega)⟩
theorem Only.part {C B E : Nat} {a b : World} (h : Only C a b) (h1 : B ≤ C) (h2 : C < E) : Part B E a b := ⟨h.os, h.tape, h.output, h.size, fun k hk ho => h.block k (by omega) hk⟩
theorem Part.of_lo {B E : Nat} {a b : World} (h : Below a.heap.size a b) : Part B E a b := ⟨h.os, h.tape, h.output, h.size, fun k hk _ => h.block k hk⟩
theorem Part.cell {B E : Nat} {a b : World} (h : Part B E a b) {p : Addr} (hlt : p.block < a.heap.size) (ho : p.block < B ∨ E ≤ p.block) : b.cell? p = a.cell? p := World.cell?_of_block (h.block _ hlt ho)
theorem Part.frozen {B E : Nat} {a b : World} (h : Part B E a b) {p : Addr} (hlt : p.block < a.heap.size) (ho : p.block < B ∨ E ≤ p.block) : b.frozen? p = a.frozen? p := World.frozen?_of_block (h.block _ hlt ho)
/-- The slice value v reads as xs, and lies, where it has elements, in a block of B .. E - 1 that can be written. -/
def MineI (w : World) (B E : Nat) (v : Value) (xs : List Int) : Prop :=
  (xs = [] ∧ ∃ a c, v = .slice a 0 c) ∨ ∃ g c, v = .slice (some ⟨g, 0, none⟩) xs.length c ∧ B ≤ g ∧ g < E ∧ E ≤ w.heap.size ∧ (∀ j, j < xs.length → w.cell? ⟨g, j, none⟩ = some (.int .i64 (xs.getD j 0))) ∧ ∀ j, w.frozen? ⟨g, j, none⟩ = false
theorem MineI.row {w : World} {B E : Nat} {v : Value} {xs : List Int} (h : MineI w B E v xs) : IntRow w v xs := by
  rcases h with ⟨rfl, a, c, rfl⟩ | ⟨g, c, rfl, _, hg, hE, hc, _⟩
  · exact intRow_nil w a c
  · exact ⟨_, _, rfl, .inr ⟨g, 0, rfl, by omega, fun j hj => by rw [Nat.zero_add]; exact hc j hj⟩⟩
theorem MineI.part {w w' : World} {B E B' E' : Nat} {v : Value} {xs : List Int} (h : MineI w B E v xs) (p : Part B' E' w w') (ho : E ≤ B' ∨ E' ≤ B) : MineI w' B E v xs := by
  rcases h with h | ⟨g, c, e, h1, h2, h3, hc, hf⟩
  · exact .inl h
  · have hb : g < B' ∨ E' ≤ g := by omega
    exact .inr ⟨g, c, e, h1, h2, Nat.le_trans h3 p.size, fun j hj => (p.cell (p := ⟨g, j, none⟩) (by simp only; omega) hb).trans (hc j hj), fun j => (p.frozen (p := ⟨g, j, none⟩) (by simp only; omega) hb).trans (hf j)⟩
theorem MineI.lo {w w' : World} {B E : Nat} {v : Value} {xs : List Int} (h : MineI w B E v xs) (l : Below w.heap.size w w') : MineI w' B E v xs :=
  h.part (Part.of_lo (B := E) (E := E) l) (.inl (Nat.le_refl _))
theorem MineI.mono {w : World} {B E B' E' : Nat} {v : Value} {xs : List Int} (h : MineI w B E v xs) (h1 : B' ≤ B) (h2 : E ≤ E') (h3 : E' ≤ w.heap.size) : MineI w B' E' v xs := by
  rcases h with h | ⟨g, c, e, k1, k2, k3, r⟩
  · exact .inl h
  · exact .inr ⟨g, c, e, by omega, by omega, h3, r⟩
theorem mineI_nil (w : World) (B E : Nat) (a : Option Addr) (c : Nat) : MineI w B E (.slice a 0 c) [] := .inl ⟨rfl, a, c, rfl⟩
/-- A list of integers as cells. -/
def icells (xs : List Int) : List Value := xs.map (Value.int .i64)
theorem icells_at (xs : List Int) (j : Nat) (hj : j < xs.length) : (icells xs)[j]? = some (.int .i64 (xs.getD j 0)) := by
  simp [icells, List.getD, List.getElem?_eq_getElem hj]
theorem icells_one (xs : List Int) : ∀ u ∈ icells xs, u.oneCell' = true := by
  intro u h
  simp only [icells, List.mem_map] at h
  obtain ⟨z, _, rfl⟩ := h
  rfl
/-- A row of integers in memory of the call's own. -/
theorem mine_own {w : World} {B : Nat} {e : TypeId} {v : Value} {xs : List Int} (h : w.ownsRow B e 1 v xs.length (icells xs)) : MineI w B w.heap.size v xs := by
  have h' := h
  rcases h.2 with ⟨rfl, h0⟩ | ⟨g, cap, cur, rfl, hb, hg, _⟩
  · exact .inl ⟨List.length_eq_zero_iff.1 h0, none, 0, rfl⟩
  · exact .inr ⟨g, cap, rfl, hb, (Array.getElem?_eq_some_iff.1 hg).1, Nat.le_refl _, fun j hj => by rw [h'.cellAt j (by omega)]; exact icells_at xs j hj, fun j => h'.frozenAt j⟩
/-- What the walk is told of a slice of integers that came in. -/
def IntsIn (w : World) (a : Option Addr) (len cap : Nat) (zs : List Int) : Prop :=
  (a = none ∧ len = 0 ∧ cap = 0 ∧ zs = []) ∨
  ∃ x, a = some x ∧ len ≤ cap ∧ cap ≤ maxLen ∧ zs.length = cap ∧ (∀ i, i < zs.length → w.cell? (x.add i) = some (.int .i64 (zs.getD i 0))) ∧ ∀ n ∈ zs, (Lit.int .i64 n).wf = true
theorem cellI_lt {w : World} {p : Addr} {v : Value} (h : w.cell? p = some v) : p.block < w.heap.size := by
  rcases Nat.lt_or_ge p.block w.heap.size with h' | h'
  · exact h'
  · simp [World.cell?, Array.getElem?_eq_none h'] at h
theorem ints_row {w : World} {a : Option Addr} {len cap : Nat} {zs : List Int} (h : IntsIn w a len cap zs) : ∃ xs : List Int, xs.length = len ∧ len ≤ maxLen ∧ IntRow w (.slice a len cap) xs ∧ ∀ n ∈ xs, (Lit.int .i64 n).wf = true := by
  rcases h with ⟨rfl, rfl, rfl, rfl⟩ | ⟨⟨b, off, spot⟩, rfl, hl, hm, hz, hc, hw⟩
  · exact ⟨[], rfl, Nat.zero_le _, intRow_nil _ _ _, fun n h => by cases h⟩
  · have hxl : (zs.take len).length = len := by rw [List.length_take]; omega
    refine ⟨zs.take len, hxl, by omega, ⟨_, cap, by rw [hxl], ?_⟩, fun n hn => hw n (List.mem_of_mem_take hn)⟩
    by_cases h0 : len = 0
    · subst h0; exact .inl (by simp)
    · have hc0 := hc 0 (by omega)
      have hs : spot = none := by simpa [Addr.add] using World.cell?_spot hc0
      subst hs
      rw [Go.WideShapes.add_plain] at hc0
      refine .inr ⟨b, off, rfl, cellI_lt hc0, fun j hj => ?_⟩
      have h1 := hc j (by omega)
      rw [Go.WideShapes.add_plain] at h1
      rw [h1]
      have : (zs.take len).getD j 0 = zs.getD j 0 := by simp [List.getD, show j < len by omega]
      rw [this]
/-- The marks are in the row, which lies in a block of B .. E - 1: n of them, from m on. -/
def HeldI (w : World) (B E : Nat) (v : Value) (n m : Nat) : Prop := (n = 0 ∧ ∃ a c, v = .slice a 0 c) ∨ ∃ g c, v = .slice (some ⟨g, 0, none⟩) n c ∧ B ≤ g ∧ g < E ∧ E ≤ w.heap.size ∧ ∀ j, j < n → w.cell? ⟨g, j, none⟩ = some (.int .i64 (m + j : Nat))
theorem HeldI.part {w w' : World} {v : Value} {n m B E B' E' : Nat} (h : HeldI w B E v n m) (p : Part B' E' w w') (ho : E ≤ B' ∨ E' ≤ B) : HeldI w' B E v n m := by
  rcases h with h | ⟨g, c, e, h1, h2, h3, hm⟩
  · exact .inl h
  · exact .inr ⟨g, c, e, h1, h2, Nat.le_trans h3 p.size, fun j hj => by rw [p.cell (p := ⟨g, j, none⟩) (by simp only; omega) (by simp only; omega)]; exact hm j hj⟩
theorem HeldI.lo {w w' : World} {v : Value} {n m B E : Nat} (h : HeldI w B E v n m) (l : Below w.heap.size w w') : HeldI w' B E v n m :=
  h.part (Part.of_lo (B := E) (E := E) l) (.inl (Nat.le_refl _))
end Go.Proofs.Ytcfbnadefdcjaaa
