/- The law's copy of a row of loads. -/
import Derived.Test.YtcfbnadefdcjaaaLoadLaw
namespace Go.Proofs.Ytcfbnadefdcjaaa
open Go.RowKit
theorem infoLoad : (Try.prog.info? 84).map (fun i => (i.zero, i.size, i.bytes)) = some (some (.agg #[.int .i64 0, .int .i64 0]), 2, 16) := by kernel_rfl
theorem two_set (w : World) (b o : Nat) (u v : Value) {x y : Value} (h1 : w.cell? ⟨b, o, none⟩ = some x) (h2 : w.cell? ⟨b, o + 1, none⟩ = some y) :
    ((w.setCell ⟨b, o, none⟩ u).setCell ⟨b, o + 1, none⟩ v).cell? ⟨b, o, none⟩ = some u ∧ ((w.setCell ⟨b, o, none⟩ u).setCell ⟨b, o + 1, none⟩ v).cell? ⟨b, o + 1, none⟩ = some v ∧
    ∀ j, j ≠ o → j ≠ o + 1 → ((w.setCell ⟨b, o, none⟩ u).setCell ⟨b, o + 1, none⟩ v).cell? ⟨b, j, none⟩ = w.cell? ⟨b, j, none⟩ := by
  refine ⟨?_, ?_, fun j hj hj2 => ?_⟩
  · rw [World.cell?_setCell_other _ _ _ _ (fun hh => by have := congrArg Addr.off hh; simp at this)]
    exact World.cell?_setCell_same' _ _ _ (by rw [h1]; rfl)
  · refine World.cell?_setCell_same' _ _ _ ?_
    rw [World.cell?_setCell_other _ _ _ _ (fun hh => by have := congrArg Addr.off hh; simp at this), h2]; rfl
  · rw [World.cell?_setCell_other _ _ _ _ (fun hh => hj2 (congrArg Addr.off hh).symm), World.cell?_setCell_other _ _ _ _ (fun hh => hj (congrArg Addr.off hh).symm)]
theorem made_zero (m j : Nat) (h : j < m) : (madeCells #[.int .i64 0, .int .i64 0] m)[j]? = some (.int .i64 0) := by
  unfold madeCells
  have : j % 2 = 0 ∨ j % 2 = 1 := by omega
  rcases this with e | e <;> simp [h, e]
theorem make_loads (n : Nat) (hn : n ≤ 2000000) (u : World) :
    (Instr.makeSlice 33 (.int .i64 (n : Int)) (.int .i64 (n : Int))).run Try.prog u = .ok (.slice (some ⟨u.heap.size, 0, none⟩) n n) (u.alloc (.cells (madeCells #[.int .i64 0, .int .i64 0] (n * 2)) 84)) := by
  obtain ⟨i0, hi, hz0, hz1, hz2⟩ := info_parts infoLoad
  have h := run_make (P := Try.prog) u 33 84 i0 (.agg #[.int .i64 0, .int .i64 0]) Try.underlying33 hi hz0 .i64 .i64 (n : Int) (n : Int) (by omega) (Int.le_refl _) (by rw [hz2]; omega) (by omega)
  simpa [hz1, Value.cells] using h
set_option maxRecDepth 100000 in
set_option maxHeartbeats 800000 in
theorem toLoads_all (a : Option Addr) (c : Nat) (xs : List (Int × Int)) (w : World) (hr : LoadRow w (.slice a xs.length c) xs) (hn : xs.length ≤ 2000000) :
    Calls Try.prog 26 #[.slice a xs.length c] w fun e w' => e = .returned (.slice (some ⟨w.heap.size, 0, none⟩) xs.length xs.length) ∧ LoadRow w' (.slice (some ⟨w.heap.size, 0, none⟩) xs.length xs.length) xs ∧ (∀ j, w'.frozen? ⟨w.heap.size, j, none⟩ = false) ∧ w.heap.size < w'.heap.size ∧ Below w.heap.size w w' := by
  have HM := make_loads xs.length hn
  have HR := Lib.hid hr
  clear hr
  go_enter Try.func26, Try.ntmps26
  go_wp2
  go_loopw [4] (fun i wr => ∃ k : Nat, k ≤ xs.length ∧ i = .int .i64 k ∧ Hid (∀ j, j < k → wr.cell? ⟨w.heap.size, j * 2, none⟩ = some (.int .i64 (xs.getD j (0, 0)).1) ∧ wr.cell? ⟨w.heap.size, j * 2 + 1, none⟩ = some (.int .i64 (xs.getD j (0, 0)).2)) ∧ Hid (∀ j, k * 2 ≤ j → j < xs.length * 2 → wr.cell? ⟨w.heap.size, j, none⟩ = some (.int .i64 0)) ∧ Hid (∀ j, wr.frozen? ⟨w.heap.size, j, none⟩ = false) ∧ Below w.heap.size w wr ∧ w.heap.size + 1 ≤ wr.heap.size) (fun i _ => xs.length - (intOf i).toNat)
  case atStart => exact ⟨0, Nat.zero_le _, rfl, Lib.hid (fun j h => by omega), Lib.hid (fun j _ h => by rw [World.cell?_alloc_at _ _ _ _ rfl]; exact made_zero _ _ h), Lib.hid (fun j => World.frozen?_alloc_at _ _ _ _ rfl), (Below.refl _ _).alloc (Nat.le_refl _) _, by simp⟩
  case round =>
    obtain ⟨k, hk, rfl, H1, H2, H3, hb, hs1⟩ := hrel
    clear HM
    by_cases hlt : k < xs.length
    · obtain ⟨a', c', he, hrr⟩ := HR.out
      cases he
      rcases hrr with h | ⟨g, off, rfl, hg, hc⟩
      · subst h; simp at hlt
      obtain ⟨h1, h2⟩ := hc k hlt
      rw [← hb.cell (p := ⟨g, off + k * 2, none⟩) hg] at h1
      rw [← hb.cell (p := ⟨g, off + k * 2 + 1, none⟩) hg] at h2
      have hlt' : (k : Int) < (xs.length : Int) := by omega
      clear hc
      obtain ⟨x, hx⟩ : ∃ x, xs.getD k (0, 0) = x := ⟨_, rfl⟩
      rw [hx] at h1 h2
      have HX := Lib.hid hx
      clear hx
      obtain ⟨p, q⟩ := x
      simp only at h1 h2
      have z1 := H2.out (k * 2) (Nat.le_refl _) (by omega)
      have z2 := H2.out (k * 2 + 1) (by omega) (by omega)
      have f1 := H3.out (k * 2)
      have f2 := H3.out (k * 2 + 1)
      have hgr : g < wr.heap.size := by omega
      go_wp2_with fail
      refine (toLoad_any p q wr).mono ?_
      rintro e w1 ⟨rfl, hl⟩
      have hn0 : w.heap.size < wr.heap.size := by omega
      have hl1 := hl.size
      rw [← hl.cell (p := ⟨w.heap.size, k * 2, none⟩) hn0] at z1
      rw [← hl.cell (p := ⟨w.heap.size, k * 2 + 1, none⟩) hn0] at z2
      rw [← hl.frozen (p := ⟨w.heap.size, k * 2, none⟩) hn0] at f1
      rw [← hl.frozen (p := ⟨w.heap.size, k * 2 + 1, none⟩) hn0] at f2
      have HLL := Lib.hid hl
      have TS := Lib.hid (two_set w1 w.heap.size (k * 2) (.int .i64 p) (.int .i64 q) z1 z2)
      clear hl h1 h2
      go_wp2
      go_roundw
      case rel =>
        obtain ⟨t1, t2, t3⟩ := TS.out
        refine ⟨k + 1, by omega, by go_num, Lib.hid (fun j hj => ?_), Lib.hid (fun j hj hjn => ?_), Lib.hid (fun j => ?_), ?_, by simp; omega⟩
        · by_cases e : j = k
          · subst e
            rw [HX.out]
            exact ⟨t1, t2⟩
          · rw [t3 _ (by omega) (by omega), t3 _ (by omega) (by omega), HLL.out.cell (p := ⟨w.heap.size, j * 2, none⟩) hn0, HLL.out.cell (p := ⟨w.heap.size, j * 2 + 1, none⟩) hn0]
            exact H1.out j (by omega)
        · rw [t3 _ (by omega) (by omega), HLL.out.cell (p := ⟨w.heap.size, j, none⟩) hn0]
          exact H2.out j (by omega) hjn
        · rw [World.frozen?_setCell, World.frozen?_setCell, HLL.out.frozen (p := ⟨w.heap.size, j, none⟩) hn0]
          exact H3.out j
        · exact ((hb.trans (HLL.out.mono hb.size)).setCell (p := ⟨w.heap.size, k * 2, none⟩) (Nat.le_refl _) _).setCell (p := ⟨w.heap.size, k * 2 + 1, none⟩) (Nat.le_refl _) _
      case measure => simp [intOf]; omega
    · obtain rfl : k = xs.length := by omega
      have hge : ¬ (xs.length : Int) < (xs.length : Int) := by omega
      go_wp2
      go_ret
      exact ⟨rfl, ⟨_, _, rfl, .inr ⟨w.heap.size, 0, rfl, by omega, fun j hj => by rw [Nat.zero_add]; exact H1.out j hj⟩⟩, H3.out, hs1, hb⟩
theorem toLoads_any (a : Option Addr) (c : Nat) (xs : List (Int × Int)) (w : World) (hr : LoadRow w (.slice a xs.length c) xs) (hn : xs.length ≤ 2000000) :
    Calls Try.prog 26 #[.slice a xs.length c] w fun e w' => e = .returned (.slice (some ⟨w.heap.size, 0, none⟩) xs.length xs.length) ∧ LoadRow w' (.slice (some ⟨w.heap.size, 0, none⟩) xs.length xs.length) xs ∧ Below w.heap.size w w' :=
  (toLoads_all a c xs w hr hn).mono fun _ _ ⟨h1, h2, _, _, h3⟩ => ⟨h1, h2, h3⟩
end Go.Proofs.Ytcfbnadefdcjaaa
