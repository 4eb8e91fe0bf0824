/- Worlds in which one block alone has turned. -/
import Derived.WalkKit
import Derived.WalkSmall
namespace Go.Proofs.Ytcfbnadefdcjaaa
open Go.RowKit
/-- Nothing that was there turns but block C. -/
structure Only (C : Nat) (w w' : World) : Prop where
  os : w'.os = w.os
  tape : w'.tape = w.tape
  output : w'.output = w.output
  size : w.heap.size ≤ w'.heap.size
  block : ∀ k, k ≠ C → k < w.heap.size → w'.heap[k]? = w.heap[k]?
theorem Only.refl (C : Nat) (w : World) : Only C w w := ⟨rfl, rfl, rfl, Nat.le_refl _, fun _ _ _ => rfl⟩
theorem Only.trans {C : Nat} {a b c : World} (h : Only C a b) (k : Only C b c) : Only C a c :=
  ⟨k.os.trans h.os, k.tape.trans h.tape, k.output.trans h.output, Nat.le_trans h.size k.size, fun i hi hlt => (k.block i hi (Nat.lt_of_lt_of_le hlt h.size)).trans (h.block i hi hlt)⟩
theorem Only.below {C : Nat} {a b : World} (h : Only C a b) (hC : C ≤ a.heap.size) : Below C a b := ⟨h.os, h.tape, h.output, h.size, fun k hk => h.block k (by omega) (by omega)⟩
theorem Only.cell {C : Nat} {a b : World} (h : Only C a b) {p : Addr} (hp : p.block ≠ C) (hlt : p.block < a.heap.size) : b.cell? p = a.cell? p := World.cell?_of_block (h.block _ hp hlt)
theorem Only.drewN {C : Nat} {a b : World} (h : Only C a b) (n : Nat) : Only C a (b.drewN n) := ⟨h.os, h.tape, h.output, h.size, h.block⟩
theorem Only.of_lo {C : Nat} {a b : World} (h : Below a.heap.size a b) : Only C a b := ⟨h.os, h.tape, h.output, h.size, fun k _ hk => h.block k hk⟩
theorem only_set (w : World) (C j : Nat) (x : Value) : Only C w (w.setCell ⟨C, j, none⟩ x) := by
  have b := (Below.refl C w).setCell (p := ⟨C, j, none⟩) (Nat.le_refl _) x
  exact ⟨b.os, b.tape, b.output, b.size, fun k hk _ => Below.heap_setCell _ _ _ _ hk⟩
end Go.Proofs.Ytcfbnadefdcjaaa
