/- What the model hands on, and its copies of lists. -/
import Derived.Test.YthihamjgfemacaaPile10
import Derived.Deep.AppendLies
namespace Go.Proofs.Ythihamjgfemacaa
open Go.RowKit
def RowS (w : World) (u : Value) (xs : List Int) : Prop :=
  ∃ g off c, u = .slice (some ⟨g, off, none⟩) xs.length c ∧ g < w.heap.size ∧ ∀ j, j < xs.length → w.cell? ⟨g, off + j, none⟩ = some (.int .i64 (xs.getD j 0))
theorem RowS.row {w : World} {u : Value} {xs : List Int} (h : RowS w u xs) : IntRow w u xs := by
  obtain ⟨g, off, c, e, h1, h2⟩ := h
  exact ⟨_, c, e, .inr ⟨g, off, rfl, h1, h2⟩⟩
theorem RowS.lo {w w' : World} {u : Value} {xs : List Int} (h : RowS w u xs) (l : Below w.heap.size w w') : RowS w' u xs := by
  obtain ⟨g, off, c, e, h1, h2⟩ := h
  exact ⟨g, off, c, e, Nat.lt_of_lt_of_le h1 l.size, fun j hj => by rw [l.cell (p := ⟨g, off + j, none⟩) h1]; exact h2 j hj⟩
theorem icells_len (xs : List Int) : (icells xs).length = xs.length := by simp [icells]
theorem icells_get (xs : List Int) (j : Nat) (u : Value) (h : (icells xs)[j]? = some u) : j < xs.length ∧ u = .int .i64 (xs.getD j 0) := by
  have hj : j < xs.length := by
    have := (List.getElem?_eq_some_iff.1 h).1
    simpa [icells] using this
  rw [icells_at _ _ hj] at h
  exact ⟨hj, (Option.some.inj h).symm⟩
set_option maxRecDepth 100000 in
set_option maxHeartbeats 800000 in
theorem l1Own_any (u : Value) (xs : List Int) (w : World) (hr : RowS w u xs) (hn : xs.length ≤ 2000000) :
    Calls Try.prog 134 #[u] w fun e w' => ∃ v', e = .returned v' ∧ OwnI w' w.heap.size v' xs ∧ Below w.heap.size w w' := by
  obtain ⟨g, off, c, rfl, hg, hc⟩ := hr
  obtain ⟨i0, hi, hz0, hz1, hz2⟩ := info_parts infoInt
  have hrow0 := ownI_lit0 w w.heap.size (Nat.le_refl _)
  have HN := Lib.hid (show ∀ j u, (icells xs)[j]? = some u → (w.alloc (.cells #[] 3)).cell? ((⟨g, off, none⟩ : Addr).add j) = some u from fun j u hj => by
    obtain ⟨hl, rfl⟩ := icells_get xs j u hj
    rw [Go.WideShapes.add_plain, World.cell?_of_block (Below.heap_alloc _ _ _ hg)]
    exact hc j hl)
  unfold OwnI icells at hrow0
  clear hc
  go_enter Try.func134, Try.ntmps134
  go_wp2_with (at_builtin; refine wpList_append_own _ rfl _ _ 58 rfl w.heap.size 3 i0 (.int .i64 0) 1 8 Try.underlying58 hi hz0 hz1 hz2 rfl (by decide) _ _ _ rfl hrow0 ⟨g, off, none⟩ xs.length c (icells xs) rfl (by rw [icells_len, Nat.mul_one]) HN.out (icells_one xs) (by unfold maxLen; simp only [List.length_nil]; omega) (by simp only [List.length_nil]; omega) (by simp) ?_; intro v' w3 hown' hgrow3 hnil3)
  have HO := Lib.hid (show OwnI w3 w.heap.size v' xs by
    unfold OwnI
    simpa using hown')
  have HL := Lib.hid (show Below w.heap.size w w3 from ((Below.refl _ _).alloc (Nat.le_refl _) _).grown hgrow3 (by simp) (fun j hj => by cases hj; exact Nat.le_refl _))
  clear hown' hgrow3 hnil3 hrow0
  go_wp2
  go_ret
  exact ⟨v', rfl, HO.out, HL.out⟩
theorem bcell {W w1 : World} (hb : Below W.heap.size W w1) : (∀ b o, b < W.heap.size → w1.cell? ⟨b, o, none⟩ = W.cell? ⟨b, o, none⟩) ∧ (∀ b o, b < W.heap.size → w1.frozen? ⟨b, o, none⟩ = W.frozen? ⟨b, o, none⟩) :=
  ⟨fun b o h => hb.cell (p := ⟨b, o, none⟩) h, fun b o h => hb.frozen (p := ⟨b, o, none⟩) h⟩
/-- A struct of three cells that can be written. -/
def FBox (w : World) (b : Nat) (x y z : Value) : Prop := Box3 w b x y z ∧ ∀ j, w.frozen? ⟨b, j, none⟩ = false
theorem FBox.lo {w w' : World} {b : Nat} {x y z : Value} (h : FBox w b x y z) (l : Below w.heap.size w w') : FBox w' b x y z :=
  ⟨h.1.lo l, fun j => by rw [l.frozen (p := ⟨b, j, none⟩) h.1.1]; exact h.2 j⟩
theorem fbox_new (w : World) (x y z : Value) (t : TypeId) : FBox (w.alloc (.cells #[x, y, z] t)) w.heap.size x y z := ⟨box3_new w x y z t, fun _ => World.frozen?_alloc_at _ _ _ _ rfl⟩
theorem fbox_a (w : World) (x y z : Value) (t : TypeId) : FBox (w.alloc (.cells #[x, y, z] t)).drew w.heap.size x y z := (fbox_new w x y z t).lo (drew_below _)
theorem fbox_b (w : World) (x y z : Value) (t : TypeId) (o : Obj) : FBox ((w.alloc (.cells #[x, y, z] t)).alloc o).drew w.heap.size x y z := ((fbox_new w x y z t).lo ((Below.refl _ _).alloc (Nat.le_refl _) o)).lo (drew_below _)
theorem fbox_c (w : World) (x y z : Value) (t : TypeId) (o : Obj) : FBox ((w.alloc o).alloc (.cells #[x, y, z] t)).drew (w.heap.size + 1) x y z := by
  have := (fbox_new (w.alloc o) x y z t).lo (drew_below _)
  simpa using this
theorem fuse_a {w v : World} {x y z : Value} {t : TypeId} {G : Prop} (l : Below (w.alloc (.cells #[x, y, z] t)).drew.heap.size (w.alloc (.cells #[x, y, z] t)).drew v) (k : v.cell? ⟨w.heap.size, 0, none⟩ = some x → v.cell? ⟨w.heap.size, 1, none⟩ = some y → v.cell? ⟨w.heap.size, 2, none⟩ = some z → v.frozen? ⟨w.heap.size, 0, none⟩ = false → v.frozen? ⟨w.heap.size, 1, none⟩ = false → v.frozen? ⟨w.heap.size, 2, none⟩ = false → (∀ o, (v.alloc o).cell? ⟨w.heap.size, 0, none⟩ = some x) → (∀ o, (v.alloc o).cell? ⟨w.heap.size, 1, none⟩ = some y) → (∀ o, (v.alloc o).cell? ⟨w.heap.size, 2, none⟩ = some z) → (∀ o j, (v.alloc o).frozen? ⟨w.heap.size, j, none⟩ = false) → G) : G := by
  obtain ⟨⟨nb, n0, n1, n2⟩, nf⟩ := (fbox_a w x y z t).lo l
  have q := fun o => (show FBox v _ _ _ _ from ⟨⟨nb, n0, n1, n2⟩, nf⟩).lo ((Below.refl v.heap.size v).alloc (Nat.le_refl _) o)
  exact k n0 n1 n2 (nf 0) (nf 1) (nf 2) (fun o => (q o).1.2.1) (fun o => (q o).1.2.2.1) (fun o => (q o).1.2.2.2) (fun o => (q o).2)
theorem fuse_b {w v : World} {x y z : Value} {t : TypeId} {o : Obj} {G : Prop} (l : Below ((w.alloc (.cells #[x, y, z] t)).alloc o).drew.heap.size ((w.alloc (.cells #[x, y, z] t)).alloc o).drew v) (k : v.cell? ⟨w.heap.size, 0, none⟩ = some x → v.cell? ⟨w.heap.size, 1, none⟩ = some y → v.cell? ⟨w.heap.size, 2, none⟩ = some z → v.frozen? ⟨w.heap.size, 0, none⟩ = false → v.frozen? ⟨w.heap.size, 1, none⟩ = false → v.frozen? ⟨w.heap.size, 2, none⟩ = false → (∀ o, (v.alloc o).cell? ⟨w.heap.size, 0, none⟩ = some x) → (∀ o, (v.alloc o).cell? ⟨w.heap.size, 1, none⟩ = some y) → (∀ o, (v.alloc o).cell? ⟨w.heap.size, 2, none⟩ = some z) → (∀ o j, (v.alloc o).frozen? ⟨w.heap.size, j, none⟩ = false) → G) : G := by
  obtain ⟨⟨nb, n0, n1, n2⟩, nf⟩ := (fbox_b w x y z t o).lo l
  have q := fun o => (show FBox v _ _ _ _ from ⟨⟨nb, n0, n1, n2⟩, nf⟩).lo ((Below.refl v.heap.size v).alloc (Nat.le_refl _) o)
  exact k n0 n1 n2 (nf 0) (nf 1) (nf 2) (fun o => (q o).1.2.1) (fun o => (q o).1.2.2.1) (fun o => (q o).1.2.2.2) (fun o => (q o).2)
theorem fuse_c {w v : World} {x y z : Value} {t : TypeId} {o : Obj} {G : Prop} (l : Below ((w.alloc o).alloc (.cells #[x, y, z] t)).drew.heap.size ((w.alloc o).alloc (.cells #[x, y, z] t)).drew v) (k : v.cell? ⟨w.heap.size + 1, 0, none⟩ = some x → v.cell? ⟨w.heap.size + 1, 1, none⟩ = some y → v.cell? ⟨w.heap.size + 1, 2, none⟩ = some z → v.frozen? ⟨w.heap.size + 1, 0, none⟩ = false → v.frozen? ⟨w.heap.size + 1, 1, none⟩ = false → v.frozen? ⟨w.heap.size + 1, 2, none⟩ = false → (∀ o, (v.alloc o).cell? ⟨w.heap.size + 1, 0, none⟩ = some x) → (∀ o, (v.alloc o).cell? ⟨w.heap.size + 1, 1, none⟩ = some y) → (∀ o, (v.alloc o).cell? ⟨w.heap.size + 1, 2, none⟩ = some z) → (∀ o j, (v.alloc o).frozen? ⟨w.heap.size + 1, j, none⟩ = false) → G) : G := by
  obtain ⟨⟨nb, n0, n1, n2⟩, nf⟩ := (fbox_c w x y z t o).lo l
  have q := fun o => (show FBox v _ _ _ _ from ⟨⟨nb, n0, n1, n2⟩, nf⟩).lo ((Below.refl v.heap.size v).alloc (Nat.le_refl _) o)
  exact k n0 n1 n2 (nf 0) (nf 1) (nf 2) (fun o => (q o).1.2.1) (fun o => (q o).1.2.2.1) (fun o => (q o).1.2.2.2) (fun o => (q o).2)
theorem olds_a {v : World} {b : Nat} {x y : Value} (h : v.cell? ⟨b, 0, none⟩ = some x ∧ v.cell? ⟨b, 2, none⟩ = some y) (hb : b < v.heap.size) :
    (∀ o, (v.alloc o).cell? ⟨b, 0, none⟩ = some x) ∧ (∀ o, (v.alloc o).cell? ⟨b, 2, none⟩ = some y) ∧ (∀ o o', ((v.alloc o).alloc o').cell? ⟨b, 0, none⟩ = some x) ∧ ∀ o o', ((v.alloc o).alloc o').cell? ⟨b, 2, none⟩ = some y := by
  have a : ∀ o j, (v.alloc o).cell? ⟨b, j, none⟩ = v.cell? ⟨b, j, none⟩ := fun o j => World.cell?_of_block (Below.heap_alloc _ _ _ hb)
  have c : ∀ o o' j, ((v.alloc o).alloc o').cell? ⟨b, j, none⟩ = v.cell? ⟨b, j, none⟩ := fun o o' j => (World.cell?_of_block (Below.heap_alloc _ _ _ (by simp; omega))).trans (a o j)
  exact ⟨fun o => (a o 0).trans h.1, fun o => (a o 2).trans h.2, fun o o' => (c o o' 0).trans h.1, fun o o' => (c o o' 2).trans h.2⟩
theorem lo_alloc {B : Nat} {w w' : World} (h : Below B w w') (o : Obj) (hB : B ≤ w'.heap.size := by first | exact Nat.le_refl _ | simp) : Below B w (w'.alloc o) := h.alloc hB o
theorem own_form {w : World} {B : Nat} {u : Value} {xs : List Int} (h : OwnI w B u xs) : ∃ a c, u = .slice a xs.length c := by
  obtain ⟨a, c, e, _⟩ := h.mine.row
  exact ⟨a, c, e⟩
theorem own_form_n {w : World} {B n : Nat} {u : Value} {xs : List Int} (h : OwnI w B u xs) (hn : xs.length = n) : ∃ a c, u = .slice a n c := by
  obtain ⟨a, c, e⟩ := own_form h
  exact ⟨a, c, by rw [e, hn]⟩
end Go.Proofs.Ythihamjgfemacaa
