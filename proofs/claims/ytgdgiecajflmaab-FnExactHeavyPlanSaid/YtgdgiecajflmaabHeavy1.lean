/- The contracts of opposite, l3Leads and l3Turned. -/
import Derived.Test.YtgdgiecajflmaabWith1
import Derived.Test.YtgdgiecajflmaabAll
namespace Go.Proofs.Ytgdgiecajflmaab
open Go.RowKit Go.Maps
set_option maxRecDepth 100000 in
set_option maxHeartbeats 1600000 in
theorem opposite_any (f : Nat → Int) (hf : ∀ j, -1 ≤ f j ∧ f j ≤ 1) (w : World) :
    Calls Try.prog 99 #[codeV f] w fun e w' => e = .returned (codeV (fun j => -(f j))) ∧ Below w.heap.size w w' := by
  have b0 : ∀ j, j < 5 → ((w.alloc (.cells #[.int .i64 (f 0), .int .i64 (f 1), .int .i64 (f 2), .int .i64 (f 3), .int .i64 (f 4)] 73)).alloc (.cells #[.int .i64 0, .int .i64 0, .int .i64 0, .int .i64 0, .int .i64 0] 73)).cell? ⟨w.heap.size, j, none⟩ = some (.int .i64 (f j)) := fun j hj => by
    rw [World.cell?_of_block (Below.heap_alloc _ _ _ (by simp))]; exact lit_five w _ (f 0) (f 1) (f 2) (f 3) (f 4) f rfl rfl rfl rfl rfl j hj
  have b1 : ∀ j, j < 5 → ((w.alloc (.cells #[.int .i64 (f 0), .int .i64 (f 1), .int .i64 (f 2), .int .i64 (f 3), .int .i64 (f 4)] 73)).alloc (.cells #[.int .i64 0, .int .i64 0, .int .i64 0, .int .i64 0, .int .i64 0] 73)).cell? ⟨w.heap.size + 1, j, none⟩ = some (.int .i64 0) := fun j hj => by
    have := five_new (w.alloc (.cells #[.int .i64 (f 0), .int .i64 (f 1), .int .i64 (f 2), .int .i64 (f 3), .int .i64 (f 4)] 73)) 73 j hj
    simpa using this
  have N0 := Lib.hid b0
  have N1 := Lib.hid b1
  have HF := Lib.hid hf
  clear b0 b1 hf
  unfold codeV
  go_enter Try.func99, Try.ntmps99
  go_wp2
  go_loopw [4] (fun i wr => ∃ k : Nat, k ≤ 5 ∧ i = .int .i64 k ∧ Hid (∀ j, j < 5 → wr.cell? ⟨w.heap.size, j, none⟩ = some (.int .i64 (if j < k then -(f j) else f j))) ∧ Hid (∀ j, j < 5 → wr.cell? ⟨w.heap.size + 1, j, none⟩ = some (.int .i64 0)) ∧ Hid (∀ j, wr.frozen? ⟨w.heap.size, j, none⟩ = false ∧ wr.frozen? ⟨w.heap.size + 1, j, none⟩ = false) ∧ Hid (Below w.heap.size w wr) ∧ w.heap.size + 2 ≤ wr.heap.size) (fun i _ => 5 - (intOf i).toNat)
  case atStart =>
    refine ⟨0, Nat.zero_le _, rfl, Lib.hid (fun j hj => by rw [if_neg (by omega)]; exact N0.out j hj), N1, Lib.hid (fun j => ⟨?_, ?_⟩), Lib.hid (((Below.refl _ _).alloc (Nat.le_refl _) _).alloc (by simp) _), by simp⟩
    · rw [World.frozen?_of_block (Below.heap_alloc _ _ _ (by simp))]; exact World.frozen?_alloc_at _ _ _ _ rfl
    · exact World.frozen?_alloc_at _ _ _ _ (by simp)
  case round =>
    obtain ⟨k, hk, rfl, H1, H2, H3, HW, hs2⟩ := hrel
    clear N0 N1
    by_cases hlt : k < 5
    · have hlt' : (k : Int) < 5 := by omega
      have h3 := H1.out k hlt
      rw [if_neg (Nat.lt_irrefl k)] at h3
      have f3 := (H3.out k).1
      obtain ⟨x, hx⟩ : ∃ x, f k = x := ⟨_, rfl⟩
      have hb := HF.out k
      rw [hx] at h3 hb
      have HX := Lib.hid hx
      obtain ⟨x0, x1⟩ := hb
      have TS := Lib.hid (fun u => one_set wr w.heap.size k u h3)
      clear hx
      go_wp2
      go_roundw
      case rel =>
        have ne : ∀ j u, (wr.setCell ⟨w.heap.size, k, none⟩ u).cell? ⟨w.heap.size + 1, j, none⟩ = wr.cell? ⟨w.heap.size + 1, j, none⟩ := fun j u => World.cell?_setCell_other _ _ _ _ (fun hh => by have := congrArg Addr.block hh; simp at this)
        refine ⟨k + 1, by omega, by go_num, Lib.hid (fun j hj => ?_), Lib.hid (fun j hj => by rw [ne]; exact H2.out j hj), Lib.hid (fun j => by rw [World.frozen?_setCell, World.frozen?_setCell]; exact H3.out j), Lib.hid (HW.out.setCell (p := ⟨w.heap.size, k, none⟩) (Nat.le_refl _) _), by simp; omega⟩
        by_cases e : j = k
        · subst e; rw [if_pos (by omega), HX.out]; exact (TS.out _).1
        · rw [(TS.out _).2 _ e, H1.out j hj]
          by_cases hjk : j < k
          · rw [if_pos hjk, if_pos (by omega)]
          · rw [if_neg hjk, if_neg (by omega)]
      case measure => simp [intOf]; omega
    · obtain rfl : k = 5 := by omega
      have d0 := H1.out 0 (by omega)
      have d1 := H1.out 1 (by omega)
      have d2 := H1.out 2 (by omega)
      have d3 := H1.out 3 (by omega)
      have d4 := H1.out 4 (by omega)
      rw [if_pos (by omega)] at d0 d1 d2 d3 d4
      have z0 := H2.out 0 (by omega)
      have z1 := H2.out 1 (by omega)
      have z2 := H2.out 2 (by omega)
      have z3 := H2.out 3 (by omega)
      have z4 := H2.out 4 (by omega)
      have f0 := (H3.out 0).2
      have f1 := (H3.out 1).2
      have f2 := (H3.out 2).2
      have f3 := (H3.out 3).2
      have f4 := (H3.out 4).2
      obtain ⟨g, hg⟩ : ∃ g : Nat → Int, (fun j => -(f j)) = g := ⟨_, rfl⟩
      have HG := Lib.hid hg
      rw [show -(f 0) = g 0 by rw [← hg]] at d0
      rw [show -(f 1) = g 1 by rw [← hg]] at d1
      rw [show -(f 2) = g 2 by rw [← hg]] at d2
      rw [show -(f 3) = g 3 by rw [← hg]] at d3
      rw [show -(f 4) = g 4 by rw [← hg]] at d4
      clear hg
      go_wp2
      obtain ⟨s0, s1, s2, s3, s4⟩ := set_five wr (w.heap.size + 1) (.int .i64 (g 0)) (.int .i64 (g 1)) (.int .i64 (g 2)) (.int .i64 (g 3)) (.int .i64 (g 4)) ⟨_, z0⟩ ⟨_, z1⟩ ⟨_, z2⟩ ⟨_, z3⟩ ⟨_, z4⟩
      have B5 := ((((HW.out.setCell (p := ⟨w.heap.size + 1, 0, none⟩) (by simp) (.int .i64 (g 0))).setCell (p := ⟨w.heap.size + 1, 1, none⟩) (by simp) (.int .i64 (g 1))).setCell (p := ⟨w.heap.size + 1, 2, none⟩) (by simp) (.int .i64 (g 2))).setCell (p := ⟨w.heap.size + 1, 3, none⟩) (by simp) (.int .i64 (g 3))).setCell (p := ⟨w.heap.size + 1, 4, none⟩) (by simp) (.int .i64 (g 4))
      exact bodyPost_ret (v := .agg #[.int .i64 (g 0), .int .i64 (g 1), .int .i64 (g 2), .int .i64 (g 3), .int .i64 (g 4)]) (by simp [results, Try.results99, go_sem, s0, s1, s2, s3, s4]) rfl ⟨by rw [← HG.out], B5⟩
end Go.Proofs.Ytgdgiecajflmaab
