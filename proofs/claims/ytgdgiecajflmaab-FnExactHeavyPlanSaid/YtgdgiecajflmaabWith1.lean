/- The contract of the program's codeOf. -/
import Derived.Test.YtgdgiecajflmaabTells5
import Derived.Laws.CopyOwn
namespace Go.Proofs.Ytgdgiecajflmaab
open Go.RowKit Go.Maps
def zero5 : List Value := [.int .i64 0, .int .i64 0, .int .i64 0, .int .i64 0, .int .i64 0]
theorem splice_five (xs : List Int) (j : Nat) (hj : j < 5) : (splice zero5 0 (icells xs))[j]? = some (.int .i64 (xs.getD j 0)) := by
  unfold splice
  rw [List.take_zero, List.nil_append, Nat.zero_add]
  by_cases h : j < xs.length
  · rw [List.getElem?_append_left (by rw [icells_len]; exact h)]
    exact icells_at xs j h
  · rw [List.getElem?_append_right (by rw [icells_len]; omega), icells_len, List.getElem?_drop, show xs.length + (j - xs.length) = j by omega]
    have : xs.getD j 0 = 0 := by simp [List.getD, Nat.not_lt.1 h]
    rw [this]
    match j, hj with
    | 0, _ => rfl
    | 1, _ => rfl
    | 2, _ => rfl
    | 3, _ => rfl
    | 4, _ => rfl
theorem splice_len (xs : List Int) (h5 : xs.length ≤ 5) : (splice zero5 0 (icells xs)).length = 5 := by
  rw [length_splice _ _ _ (by rw [icells_len]; simpa [zero5] using h5)]; rfl
theorem infoCodeInt : (Try.prog.info? 3).map (·.size) = some 1 := by kernel_rfl
theorem row_cell {w : World} {g : Nat} {L : List Value} {t : TypeId} (h : w.heap[g]? = some (.cells L.toArray t (0, 0))) (j : Nat) : w.cell? ⟨g, j, none⟩ = L[j]? := by
  simp [World.cell?, h]
set_option maxRecDepth 100000 in
set_option maxHeartbeats 1600000 in
theorem codeOf_any (u : Value) (xs : List Int) (w : World) (hr : IntRow w u xs) (h5 : xs.length ≤ 5) :
    Calls Try.prog 86 #[u] w fun e w' => e = .returned (codeV (fun j => xs.getD j 0)) ∧ Below w.heap.size w w' := by
  obtain ⟨a, c, rfl, hr⟩ := hr
  have hmin : (icells xs).length = Nat.min xs.length 5 := by rw [icells_len]; exact (Nat.min_eq_left h5).symm
  obtain ⟨wA, hA⟩ : ∃ wA, w.alloc (.cells #[.int .i64 0, .int .i64 0, .int .i64 0, .int .i64 0, .int .i64 0] 73) = wA := ⟨_, rfl⟩
  have lA : Below w.heap.size w wA := by rw [← hA]; exact (Below.refl _ _).alloc (Nat.le_refl _) _
  have sA : wA.heap.size = w.heap.size + 1 := by rw [← hA]; simp
  have n0 : ∀ j, j < 5 → wA.cell? ⟨w.heap.size, j, none⟩ = some (.int .i64 0) := fun j hj => by rw [← hA]; exact five_new w _ j hj
  have f0 : ∀ j, wA.frozen? ⟨w.heap.size, j, none⟩ = false := fun j => by rw [← hA]; exact World.frozen?_alloc_at _ _ _ _ rfl
  obtain ⟨wB, hB⟩ : ∃ wB, wA.alloc (.cells #[.int .i64 0, .int .i64 0, .int .i64 0, .int .i64 0, .int .i64 0] 73) = wB := ⟨_, rfl⟩
  have lB : Below wA.heap.size wA wB := by rw [← hB]; exact (Below.refl _ _).alloc (Nat.le_refl _) _
  have gB : wB.heap[wA.heap.size]? = some (.cells zero5.toArray 73 (0, 0)) := by rw [← hB]; exact (MapKept.heap_alloc wA _).1
  have hsrc : 0 < (icells xs).length → (some (⟨wA.heap.size, 0, none⟩ : Addr)) = some ⟨wA.heap.size, 0, none⟩ ∧ ∃ ad, a = some ad ∧ ∀ j v, (icells xs)[j]? = some v → wB.cell? (ad.add j) = some v := by
    intro h
    rcases hr with e | ⟨g, off, e, hg, hc⟩
    · subst e; simp [icells] at h
    · refine ⟨rfl, _, e, fun j v hj => ?_⟩
      obtain ⟨hl, rfl⟩ := icells_get xs j v hj
      rw [Go.WideShapes.add_plain, lB.cell (p := ⟨g, off + j, none⟩) (Nat.lt_of_lt_of_le hg lA.size), lA.cell (p := ⟨g, off + j, none⟩) hg]
      exact hc j hl
  subst hB
  subst hA
  rw [sA] at gB hsrc
  have HS := Lib.hid hsrc
  have HG := Lib.hid gB
  have HM := Lib.hid hmin
  have N0 := Lib.hid n0
  have F0 := Lib.hid f0
  have LA := Lib.hid lA
  have LB := Lib.hid lB
  have SA := Lib.hid sA
  obtain ⟨f, hf⟩ : ∃ f : Nat → Int, (fun j => xs.getD j 0) = f := ⟨_, rfl⟩
  have SP := Lib.hid (fun j (h : j < 5) => show (splice zero5 0 (icells xs))[j]? = some (.int .i64 (f j)) by rw [← hf]; exact splice_five xs j h)
  rw [hf]
  unfold codeV
  clear hf
  clear hsrc gB hmin n0 f0 lA lB hr sA
  go_enter Try.func86, Try.ntmps86
  have SS := Lib.hid (fun (w' : World) (l : Below (w.heap.size + 1) ((w.alloc (.cells #[.int .i64 0, .int .i64 0, .int .i64 0, .int .i64 0, .int .i64 0] 73)).alloc (.cells #[.int .i64 0, .int .i64 0, .int .i64 0, .int .i64 0, .int .i64 0] 73)) w') => show (∀ j, j < 5 → w'.cell? ⟨w.heap.size, j, none⟩ = some (.int .i64 0)) ∧ (∀ j, w'.frozen? ⟨w.heap.size, j, none⟩ = false) ∧ Below w.heap.size w w' from by
    have hsz : w.heap.size < ((w.alloc (.cells #[.int .i64 0, .int .i64 0, .int .i64 0, .int .i64 0, .int .i64 0] 73)).alloc (.cells #[.int .i64 0, .int .i64 0, .int .i64 0, .int .i64 0, .int .i64 0] 73)).heap.size := by simp; omega
    refine ⟨fun j hj => ?_, fun j => ?_, (LA.out.trans (LB.out.mono (by rw [SA.out]; omega))).trans (l.mono (by omega))⟩
    · rw [World.cell?_of_block (l.block w.heap.size (by omega)), LB.out.cell (p := ⟨w.heap.size, j, none⟩) (by rw [SA.out]; simp)]
      exact N0.out j hj
    · rw [World.frozen?_of_block (l.block w.heap.size (by omega)), World.frozen?_of_block (LB.out.block w.heap.size (by rw [SA.out]; omega))]
      exact F0.out j)
  go_wp2_with (first
    | (refine wpList_copy_splice rfl _ _ 30 30 rfl 3 Try.underlying30 infoCodeInt _ _ 5 5 xs.length c rfl rfl (w.heap.size + 1) 0 zero5 73 HG.out (icells xs) HM.out HS.out (by rw [icells_len]; simpa [zero5] using h5) (icells_one xs) (w.heap.size + 1) _ (Below.refl _ _) (Nat.le_refl _) ?_; intro w2 HG2 hB2
       obtain ⟨z, fz, lz⟩ := SS.out w2 hB2
       have RC := Lib.hid (fun j (h : j < 5) => (row_cell HG2.out j).trans (SP.out j h))
       have e0 := RC.out 0 (by omega); have e1 := RC.out 1 (by omega); have e2 := RC.out 2 (by omega); have e3 := RC.out 3 (by omega); have e4 := RC.out 4 (by omega)
       have z0 := z 0 (by omega); have z1 := z 1 (by omega); have z2 := z 2 (by omega); have z3 := z 3 (by omega); have z4 := z 4 (by omega)
       have g0 := fz 0; have g1 := fz 1; have g2 := fz 2; have g3 := fz 3; have g4 := fz 4
       have LZ := Lib.hid lz
       clear z fz lz hB2))
  obtain ⟨s0, s1, s2, s3, s4⟩ := set_five w2 w.heap.size (.int .i64 (f 0)) (.int .i64 (f 1)) (.int .i64 (f 2)) (.int .i64 (f 3)) (.int .i64 (f 4)) ⟨_, z0⟩ ⟨_, z1⟩ ⟨_, z2⟩ ⟨_, z3⟩ ⟨_, z4⟩
  have B5 := ((((LZ.out.setCell (p := ⟨w.heap.size, 0, none⟩) (Nat.le_refl _) (.int .i64 (f 0))).setCell (p := ⟨w.heap.size, 1, none⟩) (Nat.le_refl _) (.int .i64 (f 1))).setCell (p := ⟨w.heap.size, 2, none⟩) (Nat.le_refl _) (.int .i64 (f 2))).setCell (p := ⟨w.heap.size, 3, none⟩) (Nat.le_refl _) (.int .i64 (f 3))).setCell (p := ⟨w.heap.size, 4, none⟩) (Nat.le_refl _) (.int .i64 (f 4))
  exact bodyPost_ret (v := .agg #[.int .i64 (f 0), .int .i64 (f 1), .int .i64 (f 2), .int .i64 (f 3), .int .i64 (f 4)]) (by simp [results, Try.results86, go_sem, s0, s1, s2, s3, s4]) rfl ⟨rfl, B5⟩
end Go.Proofs.Ytgdgiecajflmaab
