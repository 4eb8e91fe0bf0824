/- The program's StepPulls. -/
import Derived.Test.YtpklccpkgefniaaCs1
import Derived.Test.YtpklccpkgefniaaCg4
namespace Go.Proofs.Ytpklccpkgefniaa
open Go.RowKit
theorem make_pairs (n : Nat) (hn : n ≤ 2000000) (u : World) :
    (Instr.makeSlice 58 (.int .i64 (n : Int)) (.int .i64 (n : Int))).run Try.prog u = .ok (.slice (some ⟨u.heap.size, 0, none⟩) n n) (u.alloc (.cells (madeCells #[.int .i64 0, .int .i64 0] (n * 2)) 28)) := by
  obtain ⟨i0, hi, hz0, hz1, hz2⟩ := info_parts infoPair
  have h := run_make (P := Try.prog) u 58 28 i0 (.agg #[.int .i64 0, .int .i64 0]) Try.underlying58 hi hz0 .i64 .i64 (n : Int) (n : Int) (by omega) (Int.le_refl _) (by rw [hz2]; omega) (by omega)
  simpa [hz1, Value.cells] using h
theorem ask_take {xs : List StageV} {n : Int} (h : askB xs n = true) (k : Nat) : askB (xs.take k) n = true := by
  have hx := (askB_iff xs n).1 h
  exact (askB_iff _ n).2 ⟨⟨allB_take hx.1.1 k, by rw [List.length_take]; omega⟩, hx.2⟩
theorem step_at (xs : List StageV) (n : Int) (m k : Nat) (h : k < m) : (stepF xs n m).getD k (0, 0) = divF (chF (xs.take k)) n := by
  simp [stepF, List.getD, h]
set_option maxRecDepth 100000 in
set_option maxHeartbeats 1600000 in
theorem implStepPulls_any (v : Value) (xs : List StageV) (n : Int) (w : World) (hr : StgRow w v xs) (hn : xs.length ≤ 1048576) :
    Calls Try.prog 57 #[v, .int .i64 n] w fun e w' => ∃ u, e = .returned (.tuple #[u, .bool (askB xs n)]) ∧ MineL w' w.heap.size w'.heap.size u (spF xs n) ∧ Below w.heap.size w w' := by
  have C := Lib.hid (implPullFor_any v xs n w hr (by omega))
  unfold spF
  generalize pullF xs n = y at *
  obtain ⟨y1, y2⟩ := y
  simp only at C
  cases hb : askB xs n with
  | false =>
    rw [hb] at C
    clear hb hr hn
    simp only [Bool.false_eq_true, if_false]
    go_enter Try.func57, Try.ntmps57
    go_wp2_with fail
    refine C.out.mono ?_
    rintro e w1 ⟨rfl, l⟩
    have L := Lib.hid (lo_on l (below_one w1 (.cells #[.int .i64 y1, .int .i64 y2] 28)))
    clear l C
    go_wp2
    go_ret2
    exact ⟨_, rfl, .inl ⟨rfl, _, _, rfl⟩, L.out⟩
  | true =>
    rw [hb] at C
    have h5 := ((askB_iff xs n).1 hb).1.2
    have G := Lib.hid (fun k (hk : k ≤ xs.length) a c w1 (l : Below w.heap.size w w1) (hv : v = .slice a xs.length c) => implPullFor_any (.slice a k c) (xs.take k) n w1 (by subst hv; exact (hr.lo l).take k hk) (by rw [List.length_take]; omega))
    have GV := Lib.hid (fun k => show pullF (xs.take k) n = divF (chF (xs.take k)) n by unfold pullF; rw [ask_take hb k]; rfl)
    have GB := Lib.hid (fun k => ask_take hb k)
    have SA := Lib.hid (fun k (hk : k < xs.length + 1) => step_at xs n (xs.length + 1) k hk)
    have SL := Lib.hid (step_len xs n (xs.length + 1))
    have HM := make_pairs (xs.length + 1) (by omega)
    rw [show ((xs.length + 1 : Nat) : Int) = (xs.length : Int) + 1 by omega] at HM
    obtain ⟨a, c, rfl, hlc, hrr⟩ := hr
    clear hb hrr
    simp only [if_true]
    go_enter Try.func57, Try.ntmps57
    go_wp2_with fail
    refine C.out.mono ?_
    rintro e w1 ⟨rfl, l⟩
    obtain ⟨W, hW⟩ : ∃ W, w1.alloc (.cells #[.int .i64 y1, .int .i64 y2] 28) = W := ⟨_, rfl⟩
    have L1 := Lib.hid (show Below w.heap.size w W by rw [← hW]; exact lo_on l (below_one _ _))
    clear l C
    go_wp2
    clear hW HM
    go_loopw [24] (fun i wr => ∃ k : Nat, k ≤ xs.length + 1 ∧ i = .int .i64 k ∧ Hid (∀ j, j < k → wr.cell? ⟨W.heap.size, j * 2, none⟩ = some (.int .i64 (divF (chF (xs.take j)) n).1) ∧ wr.cell? ⟨W.heap.size, j * 2 + 1, none⟩ = some (.int .i64 (divF (chF (xs.take j)) n).2)) ∧ Hid (∀ j, k * 2 ≤ j → j < (xs.length + 1) * 2 → wr.cell? ⟨W.heap.size, j, none⟩ = some (.int .i64 0)) ∧ Hid (∀ j, wr.frozen? ⟨W.heap.size, j, none⟩ = false) ∧ Hid (Below w.heap.size w wr) ∧ W.heap.size + 1 ≤ wr.heap.size) (fun i _ => xs.length + 1 - (intOf i).toNat)
    case atStart => exact ⟨0, Nat.zero_le _, rfl, Lib.hid (fun j h => by omega), Lib.hid (fun j _ h => by rw [World.cell?_alloc_at _ _ _ _ rfl]; exact made_zero _ _ h), Lib.hid (fun j => World.frozen?_alloc_at _ _ _ _ rfl), Lib.hid (L1.out.alloc L1.out.size _), by simp⟩
    case round =>
      obtain ⟨k, hk, rfl, H1, H2, H3, HW, hs1⟩ := hrel
      have hWs := L1.out.size
      by_cases hlt : k < xs.length + 1
      · have C := Lib.hid (G.out k (by omega) a c wr HW.out rfl)
        rw [GV.out, GB.out] at C
        have hlt' : (k : Int) < (xs.length : Int) + 1 := by omega
        have hkc : k ≤ c := by omega
        obtain ⟨y, hy⟩ : ∃ y, divF (chF (xs.take k)) n = y := ⟨_, rfl⟩
        rw [hy] at C
        have HY := Lib.hid hy
        obtain ⟨x, z⟩ := y
        simp only at C
        have z1 := H2.out (k * 2) (Nat.le_refl _) (by omega)
        have z2 := H2.out (k * 2 + 1) (by omega) (by omega)
        have f1 := H3.out (k * 2)
        have f2 := H3.out (k * 2 + 1)
        have hn0 : W.heap.size < wr.heap.size := by omega
        clear hy
        go_wp2_with fail
        refine C.out.mono ?_
        rintro e w2 ⟨rfl, hl⟩
        rw [← hl.cell (p := ⟨W.heap.size, k * 2, none⟩) hn0] at z1
        rw [← hl.cell (p := ⟨W.heap.size, k * 2 + 1, none⟩) hn0] at z2
        rw [← hl.frozen (p := ⟨W.heap.size, k * 2, none⟩) hn0] at f1
        rw [← hl.frozen (p := ⟨W.heap.size, k * 2 + 1, none⟩) hn0] at f2
        have HLL := Lib.hid hl
        have hl1 := hl.size
        have TS := Lib.hid (two_set w2 W.heap.size (k * 2) (.int .i64 x) (.int .i64 z) z1 z2)
        clear hl C
        go_wp2
        go_roundw
        case rel =>
          obtain ⟨t1, t2, t3⟩ := TS.out
          refine ⟨k + 1, by omega, by go_num, Lib.hid (fun j hj => ?_), Lib.hid (fun j hj hjn => ?_), Lib.hid (fun j => ?_), Lib.hid ?_, by simp; omega⟩
          · by_cases e : j = k
            · subst e
              rw [HY.out]
              exact ⟨t1, t2⟩
            · rw [t3 _ (by omega) (by omega), t3 _ (by omega) (by omega), HLL.out.cell (p := ⟨W.heap.size, j * 2, none⟩) hn0, HLL.out.cell (p := ⟨W.heap.size, j * 2 + 1, none⟩) hn0]
              exact H1.out j (by omega)
          · rw [t3 _ (by omega) (by omega), HLL.out.cell (p := ⟨W.heap.size, j, none⟩) hn0]
            exact H2.out j (by omega) hjn
          · rw [World.frozen?_setCell, World.frozen?_setCell, HLL.out.frozen (p := ⟨W.heap.size, j, none⟩) hn0]
            exact H3.out j
          · exact ((HW.out.trans (HLL.out.mono HW.out.size)).setCell (p := ⟨W.heap.size, k * 2, none⟩) hWs _).setCell (p := ⟨W.heap.size, k * 2 + 1, none⟩) hWs _
        case measure => simp [intOf]; omega
      · obtain rfl : k = xs.length + 1 := by omega
        have hge : ¬ ((xs.length : Int) + 1) < ((xs.length : Int) + 1) := by omega
        rw [show ((xs.length + 1 : Nat) : Int) = (xs.length : Int) + 1 by omega]
        go_wp2
        go_ret2
        refine ⟨_, rfl, .inr ⟨W.heap.size, xs.length + 1, by rw [SL.out]; rfl, hWs, hs1, Nat.le_refl _, fun j hj => ?_, H3.out⟩, HW.out⟩
        rw [SL.out] at hj
        rw [SA.out j hj]
        exact H1.out j hj
end Go.Proofs.Ytpklccpkgefniaa
