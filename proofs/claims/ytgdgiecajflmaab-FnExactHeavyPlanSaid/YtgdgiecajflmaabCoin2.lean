/- The contracts on outcomes. -/
import Derived.Test.YtgdgiecajflmaabCoin1
import Derived.WalkSpells
namespace Go.Proofs.Ytgdgiecajflmaab
open Go.RowKit
/-- What weighing j tells about a false coin of a kind; 0 behind the last one. -/
def cdF (xss : List (List Int)) (coin : Nat) (kind : Int) (j : Nat) : Int := if j < xss.length then kind * (xss.getD j []).getD coin 0 else 0
def outF (xss : List (List Int)) (coin : Nat) (kind : Int) : List Int := (List.range xss.length).map (cdF xss coin kind)
theorem outF_len (xss : List (List Int)) (coin : Nat) (kind : Int) : (outF xss coin kind).length = xss.length := by simp [outF]
theorem outF_at (xss : List (List Int)) (coin : Nat) (kind : Int) (j : Nat) (h : j < xss.length) : (outF xss coin kind).getD j 0 = cdF xss coin kind j := by simp [outF, List.getD, h]
theorem cdF_at {xss : List (List Int)} {coin : Nat} {kind : Int} {j : Nat} (h : j < xss.length) : cdF xss coin kind j = kind * (xss.getD j []).getD coin 0 := if_pos h
theorem infoCode : (Try.prog.info? 73).map (fun i => (i.zero, i.size, i.bytes)) = some (some (.agg #[.int .i64 0, .int .i64 0, .int .i64 0, .int .i64 0, .int .i64 0]), 5, 40) := by kernel_rfl
theorem five_new (w : World) (t : TypeId) (j : Nat) (h : j < 5) : (w.alloc (.cells #[.int .i64 0, .int .i64 0, .int .i64 0, .int .i64 0, .int .i64 0] t)).cell? ⟨w.heap.size, j, none⟩ = some (.int .i64 0) := by
  rw [World.cell?_alloc_at _ _ _ _ rfl]
  have : j = 0 ∨ j = 1 ∨ j = 2 ∨ j = 3 ∨ j = 4 := by omega
  rcases this with rfl | rfl | rfl | rfl | rfl <;> rfl
theorem set_cell_ne (w : World) (b i j : Nat) (u : Value) (h : i ≠ j) : (w.setCell ⟨b, i, none⟩ u).cell? ⟨b, j, none⟩ = w.cell? ⟨b, j, none⟩ := World.cell?_setCell_other _ _ _ _ (fun hh => h (congrArg Addr.off hh))
theorem set_cell_eq {w : World} {b i : Nat} {x : Value} (u : Value) (h : w.cell? ⟨b, i, none⟩ = some x) : (w.setCell ⟨b, i, none⟩ u).cell? ⟨b, i, none⟩ = some u := World.cell?_setCell_same' _ _ _ (by rw [h]; rfl)
theorem set_five (w : World) (b : Nat) (v0 v1 v2 v3 v4 : Value) (h0 : ∃ x, w.cell? ⟨b, 0, none⟩ = some x) (h1 : ∃ x, w.cell? ⟨b, 1, none⟩ = some x) (h2 : ∃ x, w.cell? ⟨b, 2, none⟩ = some x) (h3 : ∃ x, w.cell? ⟨b, 3, none⟩ = some x) (h4 : ∃ x, w.cell? ⟨b, 4, none⟩ = some x) :
    (((((w.setCell ⟨b, 0, none⟩ v0).setCell ⟨b, 1, none⟩ v1).setCell ⟨b, 2, none⟩ v2).setCell ⟨b, 3, none⟩ v3).setCell ⟨b, 4, none⟩ v4).cell? ⟨b, 0, none⟩ = some v0 ∧
    (((((w.setCell ⟨b, 0, none⟩ v0).setCell ⟨b, 1, none⟩ v1).setCell ⟨b, 2, none⟩ v2).setCell ⟨b, 3, none⟩ v3).setCell ⟨b, 4, none⟩ v4).cell? ⟨b, 1, none⟩ = some v1 ∧
    (((((w.setCell ⟨b, 0, none⟩ v0).setCell ⟨b, 1, none⟩ v1).setCell ⟨b, 2, none⟩ v2).setCell ⟨b, 3, none⟩ v3).setCell ⟨b, 4, none⟩ v4).cell? ⟨b, 2, none⟩ = some v2 ∧
    (((((w.setCell ⟨b, 0, none⟩ v0).setCell ⟨b, 1, none⟩ v1).setCell ⟨b, 2, none⟩ v2).setCell ⟨b, 3, none⟩ v3).setCell ⟨b, 4, none⟩ v4).cell? ⟨b, 3, none⟩ = some v3 ∧
    (((((w.setCell ⟨b, 0, none⟩ v0).setCell ⟨b, 1, none⟩ v1).setCell ⟨b, 2, none⟩ v2).setCell ⟨b, 3, none⟩ v3).setCell ⟨b, 4, none⟩ v4).cell? ⟨b, 4, none⟩ = some v4 := by
  obtain ⟨x0, h0⟩ := h0
  obtain ⟨x1, h1⟩ := h1
  obtain ⟨x2, h2⟩ := h2
  obtain ⟨x3, h3⟩ := h3
  obtain ⟨x4, h4⟩ := h4
  refine ⟨?_, ?_, ?_, ?_, ?_⟩
  · rw [set_cell_ne _ _ 4 0 _ (by decide), set_cell_ne _ _ 3 0 _ (by decide), set_cell_ne _ _ 2 0 _ (by decide), set_cell_ne _ _ 1 0 _ (by decide)]; exact set_cell_eq _ h0
  · rw [set_cell_ne _ _ 4 1 _ (by decide), set_cell_ne _ _ 3 1 _ (by decide), set_cell_ne _ _ 2 1 _ (by decide)]; exact set_cell_eq _ (by rw [set_cell_ne _ _ 0 1 _ (by decide)]; exact h1)
  · rw [set_cell_ne _ _ 4 2 _ (by decide), set_cell_ne _ _ 3 2 _ (by decide)]; exact set_cell_eq _ (by rw [set_cell_ne _ _ 1 2 _ (by decide), set_cell_ne _ _ 0 2 _ (by decide)]; exact h2)
  · rw [set_cell_ne _ _ 4 3 _ (by decide)]; exact set_cell_eq _ (by rw [set_cell_ne _ _ 2 3 _ (by decide), set_cell_ne _ _ 1 3 _ (by decide), set_cell_ne _ _ 0 3 _ (by decide)]; exact h3)
  · exact set_cell_eq _ (by rw [set_cell_ne _ _ 3 4 _ (by decide), set_cell_ne _ _ 2 4 _ (by decide), set_cell_ne _ _ 1 4 _ (by decide), set_cell_ne _ _ 0 4 _ (by decide)]; exact h4)
set_option maxRecDepth 100000 in
set_option maxHeartbeats 1600000 in
theorem outcomeOf_any (n : Int) (v : Value) (xss : List (List Int)) (coin : Nat) (kind : Int) (w : World) (hr : TabRow w v xss) (hp : PlanF n xss) (hc : (coin : Int) < n) (hk : kind = 1 ∨ kind = -1) :
    Calls Try.prog 96 #[v, .int .i64 (coin : Int), .int .i64 kind] w fun e w' =>
      e = .returned (.agg #[.int .i64 (cdF xss coin kind 0), .int .i64 (cdF xss coin kind 1), .int .i64 (cdF xss coin kind 2), .int .i64 (cdF xss coin kind 3), .int .i64 (cdF xss coin kind 4)]) ∧ Below w.heap.size w w' := by
  obtain ⟨a, c, rfl, hr⟩ := hr
  have hl5 := hp.short
  have HP := Lib.hid hp
  have HK := Lib.hid hk
  clear hp hk
  have n0 : ∀ j, j < 5 → ((w.alloc (.cells #[.int .i64 0, .int .i64 0, .int .i64 0, .int .i64 0, .int .i64 0] 73)).alloc (.cells #[.int .i64 0, .int .i64 0, .int .i64 0, .int .i64 0, .int .i64 0] 73)).cell? ⟨w.heap.size, j, none⟩ = some (.int .i64 0) := fun j hj => by
    rw [World.cell?_of_block (Below.heap_alloc _ _ _ (by simp))]; exact five_new w _ j hj
  have n1 : ∀ j, j < 5 → ((w.alloc (.cells #[.int .i64 0, .int .i64 0, .int .i64 0, .int .i64 0, .int .i64 0] 73)).alloc (.cells #[.int .i64 0, .int .i64 0, .int .i64 0, .int .i64 0, .int .i64 0] 73)).cell? ⟨w.heap.size + 1, j, none⟩ = some (.int .i64 0) := fun j hj => by
    have := five_new (w.alloc (.cells #[.int .i64 0, .int .i64 0, .int .i64 0, .int .i64 0, .int .i64 0] 73)) 73 j hj
    simpa using this
  have N0 := Lib.hid n0
  have N1 := Lib.hid n1
  clear n0 n1
  go_enter Try.func96, Try.ntmps96
  go_wp2
  go_loopw [12] (fun i wr => ∃ k : Nat, k ≤ xss.length ∧ i = .int .i64 k ∧ Hid (∀ j, j < 5 → wr.cell? ⟨w.heap.size + 1, j, none⟩ = some (.int .i64 (if j < k then cdF xss coin kind j else 0))) ∧ Hid (∀ j, j < 5 → wr.cell? ⟨w.heap.size, j, none⟩ = some (.int .i64 0)) ∧ Hid (∀ j, wr.frozen? ⟨w.heap.size, j, none⟩ = false ∧ wr.frozen? ⟨w.heap.size + 1, j, none⟩ = false) ∧ Hid (Below w.heap.size w wr) ∧ w.heap.size + 2 ≤ wr.heap.size) (fun i _ => xss.length - (intOf i).toNat)
  case atStart =>
    refine ⟨0, Nat.zero_le _, rfl, Lib.hid (fun j hj => by rw [if_neg (by omega)]; exact N1.out j hj), N0, Lib.hid (fun j => ⟨?_, ?_⟩), Lib.hid (((Below.refl _ _).alloc (Nat.le_refl _) _).alloc (by simp) _), by simp⟩
    · rw [World.frozen?_of_block (Below.heap_alloc _ _ _ (by simp))]; exact World.frozen?_alloc_at _ _ _ _ rfl
    · exact World.frozen?_alloc_at _ _ _ _ (by simp)
  case round =>
    obtain ⟨k, hk, rfl, H1, H2, H3, HW, hs2⟩ := hrel
    clear N0 N1
    by_cases hlt : k < xss.length
    · rcases hr with h | ⟨g, off, rfl, hg, hcl⟩
      · subst h; simp at hlt
      obtain ⟨u, h1, hu⟩ := hcl k hlt
      rw [← HW.out.cell (p := ⟨g, off + k, none⟩) hg] at h1
      have hwf := HP.out.each k hlt
      have hu1 := hu.lo HW.out
      obtain ⟨ua, uc, rfl, hur⟩ := hu1
      have hcr : coin < (xss.getD k []).length := by have := hwf.1; omega
      rcases hur with h | ⟨g', off', rfl, hg', hcc⟩
      · rw [h] at hcr; simp at hcr
      have h2 := hcc coin hcr
      have hcr' : (coin : Int) < ((xss.getD k []).length : Int) := by omega
      have hx := hwf.2.1 coin hcr
      have hlt' : (k : Int) < (xss.length : Int) := by omega
      have hk5 : (k : Int) < 5 := by omega
      have h3 := H1.out k (by omega)
      rw [if_neg (Nat.lt_irrefl k)] at h3
      have f3 := (H3.out k).2
      have HC := Lib.hid (cdF_at (coin := coin) (kind := kind) hlt)
      generalize (xss.getD k []).getD coin 0 = x at h2 hx HC
      generalize (xss.getD k []).length = m at h1 hcr'
      obtain ⟨x0, x1⟩ := hx
      have t0 : -1 ≤ kind * x := by rcases HK.out with e | e <;> rw [e] <;> omega
      have t1 : kind * x ≤ 1 := by rcases HK.out with e | e <;> rw [e] <;> omega
      have TS := Lib.hid (fun u => one_set wr (w.heap.size + 1) k u h3)
      clear hcl hcc hwf hu hcr
      go_wp2
      go_roundw
      case rel =>
        have ne : ∀ j u, (wr.setCell ⟨w.heap.size + 1, k, none⟩ u).cell? ⟨w.heap.size, j, none⟩ = wr.cell? ⟨w.heap.size, j, none⟩ := fun j u => World.cell?_setCell_other _ _ _ _ (fun hh => by have := congrArg Addr.block hh; simp at this)
        refine ⟨k + 1, by omega, by go_num, Lib.hid (fun j hj => ?_), Lib.hid (fun j hj => by rw [ne]; exact H2.out j hj), Lib.hid (fun j => by rw [World.frozen?_setCell, World.frozen?_setCell]; exact H3.out j), Lib.hid (HW.out.setCell (p := ⟨w.heap.size + 1, k, none⟩) (by simp) _), by simp; omega⟩
        by_cases e : j = k
        · subst e; rw [if_pos (by omega), HC.out]; exact (TS.out _).1
        · rw [(TS.out _).2 _ e, H1.out j hj]
          by_cases hjk : j < k
          · rw [if_pos hjk, if_pos (by omega)]
          · rw [if_neg hjk, if_neg (by omega)]
      case measure => simp [intOf]; omega
    · obtain rfl : k = xss.length := by omega
      have hge : ¬ (xss.length : Int) < (xss.length : Int) := by omega
      have hcd : ∀ j, (if j < xss.length then cdF xss coin kind j else 0) = cdF xss coin kind j := fun j => by unfold cdF; split <;> rfl
      have d0 := H1.out 0 (by omega)
      have d1 := H1.out 1 (by omega)
      have d2 := H1.out 2 (by omega)
      have d3 := H1.out 3 (by omega)
      have d4 := H1.out 4 (by omega)
      rw [hcd] at d0 d1 d2 d3 d4
      have e0 := H2.out 0 (by omega)
      have e1 := H2.out 1 (by omega)
      have e2 := H2.out 2 (by omega)
      have e3 := H2.out 3 (by omega)
      have e4 := H2.out 4 (by omega)
      have f0 := (H3.out 0).1
      have f1 := (H3.out 1).1
      have f2 := (H3.out 2).1
      have f3 := (H3.out 3).1
      have f4 := (H3.out 4).1
      have SS := Lib.hid (fun v0 v1 v2 v3 v4 => set_five wr w.heap.size v0 v1 v2 v3 v4 ⟨_, e0⟩ ⟨_, e1⟩ ⟨_, e2⟩ ⟨_, e3⟩ ⟨_, e4⟩)
      have BB := Lib.hid (fun v0 v1 v2 v3 v4 => ((((HW.out.setCell (p := ⟨w.heap.size, 0, none⟩) (Nat.le_refl _) v0).setCell (p := ⟨w.heap.size, 1, none⟩) (Nat.le_refl _) v1).setCell (p := ⟨w.heap.size, 2, none⟩) (Nat.le_refl _) v2).setCell (p := ⟨w.heap.size, 3, none⟩) (Nat.le_refl _) v3).setCell (p := ⟨w.heap.size, 4, none⟩) (Nat.le_refl _) v4)
      clear hcd
      go_wp2
      generalize cdF xss coin kind 0 = y0
      generalize cdF xss coin kind 1 = y1
      generalize cdF xss coin kind 2 = y2
      generalize cdF xss coin kind 3 = y3
      generalize cdF xss coin kind 4 = y4
      obtain ⟨s0, s1, s2, s3, s4⟩ := SS.out (.int .i64 y0) (.int .i64 y1) (.int .i64 y2) (.int .i64 y3) (.int .i64 y4)
      have B5 := Lib.hid (BB.out (.int .i64 y0) (.int .i64 y1) (.int .i64 y2) (.int .i64 y3) (.int .i64 y4))
      generalize ((((wr.setCell ⟨w.heap.size, 0, none⟩ (.int .i64 y0)).setCell ⟨w.heap.size, 1, none⟩ (.int .i64 y1)).setCell ⟨w.heap.size, 2, none⟩ (.int .i64 y2)).setCell ⟨w.heap.size, 3, none⟩ (.int .i64 y3)).setCell ⟨w.heap.size, 4, none⟩ (.int .i64 y4) = w5 at *
      exact bodyPost_ret (v := .agg #[.int .i64 y0, .int .i64 y1, .int .i64 y2, .int .i64 y3, .int .i64 y4]) (by simp [results, Try.results96, go_sem, s0, s1, s2, s3, s4]) rfl ⟨rfl, B5.out⟩
end Go.Proofs.Ytgdgiecajflmaab
