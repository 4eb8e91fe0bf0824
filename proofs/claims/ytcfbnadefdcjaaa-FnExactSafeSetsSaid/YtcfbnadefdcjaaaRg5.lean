/- The contracts of slices.IndexFunc and slices.DeleteFunc at loads that are none, and of the row of a deck. -/
import Derived.Test.YtcfbnadefdcjaaaRgM
import Derived.Test.YtcfbnadefdcjaaaRg1
import Derived.Laws.IdiomCopy
import Derived.RegionTactic
namespace Go.Proofs.Ytcfbnadefdcjaaa
open Go.RowKit
theorem idxNone_any (p q : Int) (w : World) : Calls Try.prog 212 #[.agg #[.int .i64 p, .int .i64 q]] w fun e w' => e = .returned (.bool (decide ((p, q) = ((0 : Int), (0 : Int))))) ∧ Below w.heap.size w w' := by
  go_enter Try.func212, Try.ntmps212
  go_wp2
  all_goals go_ret
  all_goals exact ⟨by first | rfl | (simp; done) | (simp; omega) | (congr 2; simp; omega), below_one _ _⟩
def noneB (x : Int × Int) : Bool := decide (x = (0, 0))
set_option maxRecDepth 100000 in
set_option maxHeartbeats 1600000 in
theorem indexNone_any (g off c : Nat) (d : List (Int × Int)) (hd : d.length ≤ 100) (w : World) (hg : g < w.heap.size) (hc : ∀ j, j < d.length → w.cell? ⟨g, off + j * 2, none⟩ = some (.int .i64 (d.getD j (0, 0)).1) ∧ w.cell? ⟨g, off + j * 2 + 1, none⟩ = some (.int .i64 (d.getD j (0, 0)).2)) :
    Calls Try.prog 235 #[.slice (some ⟨g, off, none⟩) d.length c, .func (.func 212) #[] #[]] w fun e w' => (∃ k : Nat, k ≤ d.length ∧ (∀ j, j < k → noneB (d.getD j (0, 0)) = false) ∧ ((k < d.length ∧ noneB (d.getD k (0, 0)) = true ∧ e = .returned (.int .i64 (k : Int))) ∨ (k = d.length ∧ e = .returned (.int .i64 (-1))))) ∧ Below w.heap.size w w' := by
  have HC := Lib.hid hc
  clear hc
  go_enter Try.func235, Try.ntmps235
  go_wp2
  go_loopw [8] (fun i wr => ∃ k : Nat, k ≤ d.length ∧ i = .int .i64 k ∧ Hid (∀ j, j < k → noneB (d.getD j (0, 0)) = false) ∧ Hid (Below w.heap.size w wr)) (fun i _ => d.length - (intOf i).toNat)
  case atStart => exact ⟨0, Nat.zero_le _, rfl, Lib.hid (fun j h => by omega), Lib.hid (Below.refl _ _)⟩
  case round =>
    obtain ⟨k, hk, rfl, HL, HW⟩ := hrel
    by_cases hlt : k < d.length
    · have hlt' : (k : Int) < (d.length : Int) := by omega
      have h1 := (HC.out k hlt).1
      have h2 := (HC.out k hlt).2
      rw [← HW.out.cell (p := ⟨g, off + k * 2, none⟩) hg] at h1
      rw [← HW.out.cell (p := ⟨g, off + k * 2 + 1, none⟩) hg] at h2
      obtain ⟨x, hx⟩ : ∃ x, d.getD k (0, 0) = x := ⟨_, rfl⟩
      rw [hx] at h1 h2
      have HX := Lib.hid hx
      obtain ⟨p, q⟩ := x
      simp only at h1 h2
      have C := Lib.hid (fun w => idxNone_any p q w)
      clear hx
      cases hr : decide ((p, q) = ((0 : Int), (0 : Int))) with
      | true =>
        rw [hr] at C
        have HF := Lib.hid (show noneB (d.getD k (0, 0)) = true by rw [HX.out]; exact hr)
        clear hr
        go_wp2_with (go_at_call 212; refine (C.out _).mono ?_; rintro e w3 ⟨rfl, l3⟩; have LZ := Lib.hid (lo_on HW.out l3))
        go_ret
        exact ⟨⟨k, by omega, HL.out, .inl ⟨hlt, HF.out, rfl⟩⟩, LZ.out⟩
      | false =>
        rw [hr] at C
        have HF := Lib.hid (show ∀ j, j < k + 1 → noneB (d.getD j (0, 0)) = false from fun j hj => by
          by_cases e : j = k
          · rw [e, HX.out]; exact hr
          · exact HL.out j (by omega))
        clear hr
        go_wp2_with (go_at_call 212; refine (C.out _).mono ?_; rintro e w3 ⟨rfl, l3⟩; have LZ := Lib.hid (lo_on HW.out l3))
        go_roundw
        case rel => exact ⟨k + 1, by omega, by go_num, HF, LZ⟩
        case measure => simp [intOf]; omega
    · obtain rfl : k = d.length := by omega
      have hge : ¬ (d.length : Int) < (d.length : Int) := by omega
      go_wp2
      go_ret
      exact ⟨⟨d.length, Nat.le_refl _, HL.out, .inr ⟨rfl, rfl⟩⟩, HW.out⟩
/-- Pairs in a block, at their places. -/
def PairsR (w : World) (g off : Nat) (d : List (Int × Int)) : Prop := ∀ j, j < d.length → w.cell? ⟨g, off + j * 2, none⟩ = some (.int .i64 (d.getD j (0, 0)).1) ∧ w.cell? ⟨g, off + j * 2 + 1, none⟩ = some (.int .i64 (d.getD j (0, 0)).2)
theorem pair_set {w : World} {g off : Nat} {d : List (Int × Int)} (h : PairsR w g off d) (i : Nat) (hi : i < d.length) (x : Int × Int) : PairsR ((w.setCell ⟨g, off + i * 2, none⟩ (.int .i64 x.1)).setCell ⟨g, off + i * 2 + 1, none⟩ (.int .i64 x.2)) g off (d.set i x) := by
  intro j hj
  rw [List.length_set] at hj
  have e : (d.set i x).getD j (0, 0) = if i = j then x else d.getD j (0, 0) := by
    simp only [List.getD, List.getElem?_set]
    by_cases h : i = j
    · subst h; simp [hi]
    · simp [h]
  rw [e]
  have h0 := h j hj
  by_cases he : i = j
  · subst he
    rw [if_pos rfl]
    refine ⟨?_, World.cell?_setCell_same' _ _ _ (by rw [World.cell?_setCell_other _ _ _ _ (by simp)]; rw [h0.2]; rfl)⟩
    rw [World.cell?_setCell_other _ _ _ _ (by simp)]
    exact World.cell?_setCell_same' _ _ _ (by rw [h0.1]; rfl)
  · rw [if_neg he]
    rw [World.cell?_setCell_other _ _ _ _ (by simp <;> omega), World.cell?_setCell_other _ _ _ _ (by simp <;> omega), World.cell?_setCell_other _ _ _ _ (by simp <;> omega), World.cell?_setCell_other _ _ _ _ (by simp <;> omega)]
    exact h0
/-- What is kept of the first j, ahead of what has not been looked at. -/
structure KeptR (d : List (Int × Int)) (i j : Nat) (dk : List (Int × Int)) : Prop where
  len : dk.length = d.length
  lo : i ≤ j
  hi : j ≤ d.length
  kept : dk.take i = (d.take j).filter (fun x => !noneB x)
  rest : ∀ t, j ≤ t → dk.getD t (0, 0) = d.getD t (0, 0)
theorem take_snocP (xs : List (Int × Int)) (k : Nat) (h : k < xs.length) : xs.take (k + 1) = xs.take k ++ [xs.getD k (0, 0)] := by
  rw [List.take_add_one, List.getElem?_eq_getElem h]
  simp [List.getD, h]
theorem filt_yes {x : Int × Int} (h : noneB x = true) : [x].filter (fun x => !noneB x) = [] := by rw [List.filter_cons, h]; rfl
theorem filt_no {x : Int × Int} (h : noneB x = false) : [x].filter (fun x => !noneB x) = [x] := by rw [List.filter_cons, h]; rfl
theorem KeptR.skip {d dk : List (Int × Int)} {i j : Nat} (h : KeptR d i j dk) (hj : j < d.length) (hn : noneB (d.getD j (0, 0)) = true) : KeptR d i (j + 1) dk := by
  refine ⟨h.len, Nat.le_succ_of_le h.lo, hj, ?_, fun t ht => h.rest t (by omega)⟩
  rw [h.kept, take_snocP d j hj, List.filter_append, filt_yes hn, List.append_nil]
theorem KeptR.keep {d dk : List (Int × Int)} {i j : Nat} (h : KeptR d i j dk) (hj : j < d.length) (hn : noneB (d.getD j (0, 0)) = false) : KeptR d (i + 1) (j + 1) (dk.set i (d.getD j (0, 0))) := by
  have hi : i < dk.length := by have := h.lo; rw [h.len]; omega
  refine ⟨by rw [List.length_set]; exact h.len, Nat.succ_le_succ h.lo, hj, ?_, fun t ht => ?_⟩
  · rw [take_snocP _ i (by rw [List.length_set]; exact hi), List.take_set_of_le (Nat.le_refl _), h.kept, take_snocP d j hj, List.filter_append]
    have e : (dk.set i (d.getD j (0, 0))).getD i (0, 0) = d.getD j (0, 0) := by simp [List.getD, hi]
    rw [e, filt_no hn]
  · have := h.lo
    have e : (dk.set i (d.getD j (0, 0))).getD t (0, 0) = dk.getD t (0, 0) := by
      simp only [List.getD, List.getElem?_set]
      rw [if_neg (by omega)]
    rw [e]
    exact h.rest t (by omega)
theorem KeptR.start {d : List (Int × Int)} {k : Nat} (hk : k < d.length) (hn : ∀ j, j < k → noneB (d.getD j (0, 0)) = false) (h : noneB (d.getD k (0, 0)) = true) : KeptR d k (k + 1) d := by
  refine ⟨rfl, Nat.le_succ _, hk, ?_, fun _ _ => rfl⟩
  rw [take_snocP d k hk, List.filter_append]
  have : (d.take k).filter (fun x => !noneB x) = d.take k := by
    rw [List.filter_eq_self]
    intro x hx
    obtain ⟨j, hj, he⟩ := List.getElem_of_mem hx
    rw [List.length_take] at hj
    have := hn j (by omega)
    rw [List.getD, List.getElem?_eq_getElem (by omega), Option.getD_some] at this
    rw [← he, List.getElem_take, this]
    rfl
  rw [this, filt_yes h, List.append_nil]
theorem zero_pair (n : Nat) : (Builtin.zeroCells #[.int .i64 0, .int .i64 0] n).toList = List.replicate (n * 2) (Value.int .i64 0) := by
  unfold Builtin.zeroCells
  rw [List.eq_replicate_iff]
  refine ⟨by simp, fun b hb => ?_⟩
  simp only [Array.toList_map, List.mem_map, Array.toList_range, List.mem_range] at hb
  obtain ⟨i, _, rfl⟩ := hb
  have : i % 2 = 0 ∨ i % 2 = 1 := by omega
  rcases this with h | h <;> simp [h]
theorem clear_pairs (w : World) (ty : TypeId) (b o n c : Nat) (hn : 0 < n) (hc : ∀ j, j < n * 2 → (w.cell? ⟨b, o + j, none⟩).isSome = true) (hf : ∀ j, j < n * 2 → w.frozen? ⟨b, o + j, none⟩ = false) :
    (Builtin.clear_ #[33] ty #[.slice (some ⟨b, o, none⟩) n c]).run Try.prog w = .ok (.tuple #[]) (w.setCells b o (List.replicate (n * 2) (.int .i64 0))) := by
  have hv : (zeroValue 84).run Try.prog w = .ok (.agg #[.int .i64 0, .int .i64 0]) w := by kernel_rfl
  have hst := run_storeCells_cells (P := Try.prog) b o (List.replicate (n * 2) (.int .i64 0)) 0 w (by simpa using hc) (by simpa using hf) (by intro v hv'; rw [List.eq_of_mem_replicate hv']; rfl)
  simp only [Nat.add_zero] at hst
  obtain ⟨m, rfl⟩ : ∃ m, n = m + 1 := ⟨n - 1, by omega⟩
  have hz := zero_pair (m + 1)
  simp [Builtin.clear_, run_underlying Try.underlying33, hv, Value.cells, hz, hst]
end Go.Proofs.Ytcfbnadefdcjaaa
