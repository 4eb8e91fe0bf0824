/- The contracts of the program's decks: their row, and whether they are safe. -/
import Derived.Test.YtcfbnadefdcjaaaRg6
namespace Go.Proofs.Ytcfbnadefdcjaaa
open Go.RowKit
/-- A deck of eight places: nothing, or a load, at each. -/
structure DeckG (d : List (Int × Int)) : Prop where
  len : d.length = 8
  each : ∀ i, at8 d i = (0, 0) ∨ loadB (at8 d i) = true
theorem DeckG.deckF {d : List (Int × Int)} (h : DeckG d) : DeckF d := ⟨h.len, fun i => by
  rcases h.each i with e | e
  · rw [e]; simp
  · have := (loadB_iff _).1 e; omega⟩
theorem DeckG.set {g d : List (Int × Int)} (hd : DeckG d) (hg : DeckG g) (i : Nat) (hi : i < 8) : DeckG (d.set i (at8 g i)) := by
  refine ⟨by rw [List.length_set]; exact hd.len, fun j => ?_⟩
  have e : at8 (d.set i (at8 g i)) j = if i = j then at8 g i else at8 d j := set_at hd.len i j _ hi
  rw [e]
  split
  · exact hg.each i
  · exact hd.each j
theorem deckL_G {row : List (Int × Int)} (hz : RowF row) (c : Nat) : DeckG (deckL row c) := by
  refine ⟨deckL_len _ _, fun i => ?_⟩
  by_cases hi : i < 8
  · unfold at8
    rw [deckL_at _ _ _ hi]
    split
    · rename_i h
      exact .inr ((loadB_iff _).2 (hz.each _ (by rw [List.getD, List.getElem?_eq_getElem h.1, Option.getD_some]; exact List.getElem_mem _)))
    · exact .inl rfl
  · exact .inl (by simp [at8, List.getD, deckL_len, hi])
theorem mom_none (p : Int) (d : List (Int × Int)) : momF p (d.filter (fun x => !noneB x)) = momF p d := by
  rw [← mom_filter p d]
  congr 2
  funext x
  rw [Bool.eq_iff_iff]
  simp [noneB]
theorem rs_none (a b o : Int) (d : List (Int × Int)) : rsA a b o (d.filter (fun x => !noneB x)) = rsA a b o d ∧ rsB a b o (d.filter (fun x => !noneB x)) = rsB a b o d := by
  unfold rsA rsB
  rw [mom_none, mom_none]
  exact ⟨rfl, rfl⟩
theorem DeckG.rowF {d : List (Int × Int)} (h : DeckG d) : RowF (d.filter (fun x => !noneB x)) := by
  refine ⟨Nat.le_trans (List.length_filter_le _ _) (by rw [h.len]; decide), fun x hx => ?_⟩
  rw [List.mem_filter] at hx
  obtain ⟨j, hj, he⟩ := List.getElem_of_mem hx.1
  have e : at8 d j = x := by unfold at8; rw [List.getD, List.getElem?_eq_getElem hj, Option.getD_some, he]
  rcases h.each j with h0 | h0
  · rw [e] at h0
    subst h0
    simp [noneB] at hx
  · rw [e] at h0
    exact (loadB_iff x).1 h0
theorem lit16 (w : World) (t : TypeId) (d : List (Int × Int)) : ∀ j, j < 8 → (w.alloc (.cells #[.int .i64 (at8 d 0).1, .int .i64 (at8 d 0).2, .int .i64 (at8 d 1).1, .int .i64 (at8 d 1).2, .int .i64 (at8 d 2).1, .int .i64 (at8 d 2).2, .int .i64 (at8 d 3).1, .int .i64 (at8 d 3).2, .int .i64 (at8 d 4).1, .int .i64 (at8 d 4).2, .int .i64 (at8 d 5).1, .int .i64 (at8 d 5).2, .int .i64 (at8 d 6).1, .int .i64 (at8 d 6).2, .int .i64 (at8 d 7).1, .int .i64 (at8 d 7).2] t)).cell? ⟨w.heap.size, j * 2, none⟩ = some (.int .i64 (at8 d j).1) ∧ (w.alloc (.cells #[.int .i64 (at8 d 0).1, .int .i64 (at8 d 0).2, .int .i64 (at8 d 1).1, .int .i64 (at8 d 1).2, .int .i64 (at8 d 2).1, .int .i64 (at8 d 2).2, .int .i64 (at8 d 3).1, .int .i64 (at8 d 3).2, .int .i64 (at8 d 4).1, .int .i64 (at8 d 4).2, .int .i64 (at8 d 5).1, .int .i64 (at8 d 5).2, .int .i64 (at8 d 6).1, .int .i64 (at8 d 6).2, .int .i64 (at8 d 7).1, .int .i64 (at8 d 7).2] t)).cell? ⟨w.heap.size, j * 2 + 1, none⟩ = some (.int .i64 (at8 d j).2) := by
  intro j hj
  rw [World.cell?_alloc_at _ _ _ _ rfl, World.cell?_alloc_at _ _ _ _ rfl]
  match j, hj with
  | 0, _ => exact ⟨rfl, rfl⟩
  | 1, _ => exact ⟨rfl, rfl⟩
  | 2, _ => exact ⟨rfl, rfl⟩
  | 3, _ => exact ⟨rfl, rfl⟩
  | 4, _ => exact ⟨rfl, rfl⟩
  | 5, _ => exact ⟨rfl, rfl⟩
  | 6, _ => exact ⟨rfl, rfl⟩
  | 7, _ => exact ⟨rfl, rfl⟩
set_option maxRecDepth 100000 in
set_option maxHeartbeats 3200000 in
theorem rowOf_any (d : List (Int × Int)) (hd : d.length = 8) (w : World) : Calls Try.prog 167 #[deckV d] w fun e w' => ∃ v', e = .returned v' ∧ LoadRow w' v' (d.filter (fun x => !noneB x)) ∧ Below w.heap.size w w' := by
  have DN := Lib.hid (deleteNone_any w.heap.size 8 d (by omega) w.heap.size (w.alloc (.cells #[.int .i64 (at8 d 0).1, .int .i64 (at8 d 0).2, .int .i64 (at8 d 1).1, .int .i64 (at8 d 1).2, .int .i64 (at8 d 2).1, .int .i64 (at8 d 2).2, .int .i64 (at8 d 3).1, .int .i64 (at8 d 3).2, .int .i64 (at8 d 4).1, .int .i64 (at8 d 4).2, .int .i64 (at8 d 5).1, .int .i64 (at8 d 5).2, .int .i64 (at8 d 6).1, .int .i64 (at8 d 6).2, .int .i64 (at8 d 7).1, .int .i64 (at8 d 7).2] 97)) (Nat.le_refl _) (by simp) (by omega) (fun j hj => by rw [hd] at hj; rw [Nat.zero_add]; exact lit16 w _ d j hj) (fun j => World.frozen?_alloc_at _ _ _ _ rfl))
  have HL := Lib.hid (show w.heap.size < (w.alloc (.cells #[.int .i64 (at8 d 0).1, .int .i64 (at8 d 0).2, .int .i64 (at8 d 1).1, .int .i64 (at8 d 1).2, .int .i64 (at8 d 2).1, .int .i64 (at8 d 2).2, .int .i64 (at8 d 3).1, .int .i64 (at8 d 3).2, .int .i64 (at8 d 4).1, .int .i64 (at8 d 4).2, .int .i64 (at8 d 5).1, .int .i64 (at8 d 5).2, .int .i64 (at8 d 6).1, .int .i64 (at8 d 6).2, .int .i64 (at8 d 7).1, .int .i64 (at8 d 7).2] 97)).heap.size by simp)
  rw [hd] at DN
  unfold deckV
  generalize d.filter (fun x => !noneB x) = zs at *
  generalize at8 d = f at *
  clear hd
  go_enter Try.func167, Try.ntmps167
  go_wp2_with fail
  refine DN.out.mono ?_
  rintro e w1 ⟨rfl, hp, l⟩
  have L1 := Lib.hid ((below_one w (.cells #[.int .i64 (f 0).1, .int .i64 (f 0).2, .int .i64 (f 1).1, .int .i64 (f 1).2, .int .i64 (f 2).1, .int .i64 (f 2).2, .int .i64 (f 3).1, .int .i64 (f 3).2, .int .i64 (f 4).1, .int .i64 (f 4).2, .int .i64 (f 5).1, .int .i64 (f 5).2, .int .i64 (f 6).1, .int .i64 (f 6).2, .int .i64 (f 7).1, .int .i64 (f 7).2] 97)).trans l)
  have HG := Lib.hid (show LoadRow w1 (.slice (some ⟨w.heap.size, 0, none⟩) zs.length 8) zs from ⟨_, _, rfl, .inr ⟨w.heap.size, 0, rfl, Nat.lt_of_lt_of_le HL.out l.size, hp⟩⟩)
  clear l hp DN HL
  go_wp2
  go_ret
  exact ⟨_, rfl, HG.out, L1.out⟩
set_option maxRecDepth 100000 in
set_option maxHeartbeats 6400000 in
theorem isSafe_any (a b o : Int) (d : List (Int × Int)) (hd : DeckG d) (hrb : raftB a b o = true) (w : World) : Calls Try.prog 101 #[.agg #[.int .i64 a, .int .i64 b, .int .i64 o], deckV d] w fun e w' => e = .returned (.bool (safeF a b o d)) ∧ Below w.heap.size w w' := by
  have RW := Lib.hid (fun w1 => rowOf_any d hd.len w1)
  have RS := Lib.hid (fun z w1 (h : LoadRow w1 z (d.filter (fun x => !noneB x))) => reservesWith_any a b o z _ w1 h hrb hd.rowF)
  obtain ⟨e1, e2⟩ := rs_none a b o d
  rw [e1, e2] at RS
  unfold safeF
  generalize rsA a b o d = x at *
  generalize rsB a b o d = y at *
  generalize d.filter (fun x => !noneB x) = zs at *
  unfold deckV at *
  generalize at8 d = f at *
  clear e1 e2 hd hrb
  obtain ⟨w0, hW0⟩ : ∃ w0, w.alloc (.cells #[.int .i64 a, .int .i64 b, .int .i64 o] 25) = w0 := ⟨_, rfl⟩
  have BX0 := Lib.hid (show Cel3R w0 w.heap.size (.int .i64 a) (.int .i64 b) (.int .i64 o) from by rw [← hW0]; exact cel3R_new w _ _ _ _)
  have LW0 := Lib.hid (show Below w.heap.size w w0 by rw [← hW0]; exact below_one _ _)
  obtain ⟨w2, hW2⟩ : ∃ w2, w0.alloc (.cells #[.int .i64 (f 0).1, .int .i64 (f 0).2, .int .i64 (f 1).1, .int .i64 (f 1).2, .int .i64 (f 2).1, .int .i64 (f 2).2, .int .i64 (f 3).1, .int .i64 (f 3).2, .int .i64 (f 4).1, .int .i64 (f 4).2, .int .i64 (f 5).1, .int .i64 (f 5).2, .int .i64 (f 6).1, .int .i64 (f 6).2, .int .i64 (f 7).1, .int .i64 (f 7).2] 97) = w2 := ⟨_, rfl⟩
  have LW2 := Lib.hid (show Below w0.heap.size w0 w2 by rw [← hW2]; exact below_one _ _)
  have D16 : w2.cell? ⟨w0.heap.size, 0, none⟩ = some (.int .i64 (f 0).1) ∧ w2.cell? ⟨w0.heap.size, 1, none⟩ = some (.int .i64 (f 0).2) ∧ w2.cell? ⟨w0.heap.size, 2, none⟩ = some (.int .i64 (f 1).1) ∧ w2.cell? ⟨w0.heap.size, 3, none⟩ = some (.int .i64 (f 1).2) ∧ w2.cell? ⟨w0.heap.size, 4, none⟩ = some (.int .i64 (f 2).1) ∧ w2.cell? ⟨w0.heap.size, 5, none⟩ = some (.int .i64 (f 2).2) ∧ w2.cell? ⟨w0.heap.size, 6, none⟩ = some (.int .i64 (f 3).1) ∧ w2.cell? ⟨w0.heap.size, 7, none⟩ = some (.int .i64 (f 3).2) ∧ w2.cell? ⟨w0.heap.size, 8, none⟩ = some (.int .i64 (f 4).1) ∧ w2.cell? ⟨w0.heap.size, 9, none⟩ = some (.int .i64 (f 4).2) ∧ w2.cell? ⟨w0.heap.size, 10, none⟩ = some (.int .i64 (f 5).1) ∧ w2.cell? ⟨w0.heap.size, 11, none⟩ = some (.int .i64 (f 5).2) ∧ w2.cell? ⟨w0.heap.size, 12, none⟩ = some (.int .i64 (f 6).1) ∧ w2.cell? ⟨w0.heap.size, 13, none⟩ = some (.int .i64 (f 6).2) ∧ w2.cell? ⟨w0.heap.size, 14, none⟩ = some (.int .i64 (f 7).1) ∧ w2.cell? ⟨w0.heap.size, 15, none⟩ = some (.int .i64 (f 7).2) := by
    rw [← hW2]
    refine ⟨?_, ?_, ?_, ?_, ?_, ?_, ?_, ?_, ?_, ?_, ?_, ?_, ?_, ?_, ?_, ?_⟩ <;> (rw [World.cell?_alloc_at _ _ _ _ rfl]; rfl)
  obtain ⟨e0, e1, e2, e3, e4, e5, e6, e7, e8, e9, e10, e11, e12, e13, e14, e15⟩ := D16
  have BX := Lib.hid (BX0.out.lo LW2.out)
  have LW := Lib.hid (lo_on LW0.out LW2.out)
  obtain ⟨_, k0, k1, k2⟩ := BX.out
  have BD := Lib.hid (fun (X : World) (l : Below w2.heap.size w2 X) => BX.out.lo l)
  clear BX0 LW0 LW2
  go_enter Try.func101, Try.ntmps101
  go_wp2_with fail
  go_region_law (first
    | (go_simp; go_at_call 167; refine (RW.out _).mono ?_; rintro e w3 ⟨z, rfl, hz3, l3⟩; have L3 := lo_on (lo_drewN LW.out 1) l3; obtain ⟨_, j0, j1, j2⟩ := BD.out w3 (show Below w2.heap.size w2 w3 from lo_on (drw1 w2) l3))
    | (go_simp; go_at_call 96; refine (RS.out z w3 hz3).mono ?_; rintro e w4 ⟨rfl, l4⟩; have L4 := lo_on L3 l4))
  all_goals
    (have HL := Lib.hid L4
     clear L3 L4 l3 l4 hz3 j0 j1 j2 RW RS BD BX LW k0 k1 k2
     go_wp2
     all_goals go_ret
     all_goals exact ⟨by first | rfl | (simp; done) | (simp; omega) | (congr 2; rw [Bool.eq_iff_iff]; simp; omega), HL.out⟩)
end Go.Proofs.Ytcfbnadefdcjaaa
