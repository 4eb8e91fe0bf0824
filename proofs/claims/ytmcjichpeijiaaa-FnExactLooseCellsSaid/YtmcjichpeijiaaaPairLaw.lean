/- The law's own functions on lists of pairs: the same, marked, and looked at again. -/
import Derived.Test.YtmcjichpeijiaaaLoadOwn
import Derived.Test.YtmcjichpeijiaaaSpec2
import Derived.Deep.RegionHeld3
namespace Go.Proofs.Ytmcjichpeijiaaa
open Go.RowKit
set_option maxHeartbeats 1600000 in
set_option maxHeartbeats 1600000 in
theorem eqPairs_same (va vb : Value) (xs : List (Int × Int)) (w : World) (ha : LoadRow w va xs) (hb : LoadRow w vb xs) (hn : xs.length ≤ 2000000) :
    Calls Try.prog 23 #[va, vb] w fun e w' => e = .returned (.bool true) ∧ Below w.heap.size w w' := by
  obtain ⟨a, c, rfl, ha⟩ := ha
  obtain ⟨a', c', rfl, hb⟩ := hb
  go_enter Try.func23, Try.ntmps23
  go_wp2
  go_loopw [5] (fun i wr => ∃ k : Nat, k ≤ xs.length ∧ i = .int .i64 k ∧ Below w.heap.size w wr) (fun i _ => xs.length - (intOf i).toNat)
  case atStart => exact ⟨0, Nat.zero_le _, rfl, Below.refl _ _⟩
  case round =>
    obtain ⟨k, hk, rfl, hw⟩ := hrel
    by_cases hlt : k < xs.length
    · rcases ha with h | ⟨g, off, rfl, hg, hc⟩
      · subst h; simp at hlt
      rcases hb with h | ⟨g', off', rfl, hg', hc'⟩
      · subst h; simp at hlt
      obtain ⟨h1, h2⟩ := hc k hlt
      obtain ⟨h3, h4⟩ := hc' k hlt
      have hlt' : (k : Int) < (xs.length : Int) := by omega
      clear hc hc'
      generalize xs.getD k (0, 0) = x at h1 h2 h3 h4
      obtain ⟨p, q⟩ := x
      simp only at h1 h2 h3 h4
      have hgr : g < wr.heap.size := Nat.lt_of_lt_of_le hg hw.size
      have hgr' : g' < wr.heap.size := Nat.lt_of_lt_of_le hg' hw.size
      rw [← hw.cell (p := ⟨g, off + k * 2, none⟩) hg] at h1
      rw [← hw.cell (p := ⟨g, off + k * 2 + 1, none⟩) hg] at h2
      rw [← hw.cell (p := ⟨g', off' + k * 2, none⟩) hg'] at h3
      rw [← hw.cell (p := ⟨g', off' + k * 2 + 1, none⟩) hg'] at h4
      go_wp2_with fail
      go_region_held3 (fun w' => w'.cell? ⟨g, off + k * 2, none⟩ = some (.int .i64 p) ∧ w'.cell? ⟨g, off + k * 2 + 1, none⟩ = some (.int .i64 q) ∧ w'.cell? ⟨g', off' + k * 2, none⟩ = some (.int .i64 p) ∧ w'.cell? ⟨g', off' + k * 2 + 1, none⟩ = some (.int .i64 q)) (first | exact ⟨(hl.cell (p := ⟨g, off + k * 2, none⟩) hgr).trans h1, (hl.cell (p := ⟨g, off + k * 2 + 1, none⟩) hgr).trans h2, (hl.cell (p := ⟨g', off' + k * 2, none⟩) hgr').trans h3, (hl.cell (p := ⟨g', off' + k * 2 + 1, none⟩) hgr').trans h4⟩ | go_keep)
        (first | (go_at_call 30; refine (eqA2_same p q _).mono ?_; rintro e w1 ⟨rfl, hl⟩))
      go_wp2
      go_roundw
      case rel => exact ⟨k + 1, by omega, by go_num, (hw.drew).trans (hl.mono hw.size)⟩
      case measure => simp [intOf]; omega
    · have hge : ¬ (k : Int) < (xs.length : Int) := by omega
      go_wp2
      go_ret
      exact ⟨rfl, hw⟩
theorem markP_nil (a : Option Addr) (c m : Nat) (w : World) : Calls Try.prog 26 #[.slice a 0 c, .int .i64 m] w fun e w' => e = .returned (.int .i64 m) ∧ w = w' := by
  go_enter Try.func26, Try.ntmps26
  go_wp2
  refine wp_loop_rounds 1 ?_
  rw [rounds_succ]
  go_wp2
  go_ret
  exact ⟨rfl, rfl⟩
theorem heldP_nil (a : Option Addr) (c m : Nat) (w : World) : Calls Try.prog 27 #[.slice a 0 c, .int .i64 m] w fun e w' => e = .returned (.int .i64 m) ∧ w = w' := by
  go_enter Try.func27, Try.ntmps27
  go_wp2
  refine wp_loop_rounds 1 ?_
  rw [rounds_succ]
  go_wp2
  go_ret
  exact ⟨rfl, rfl⟩
set_option maxHeartbeats 800000 in
/-- Into a row of loads of its own the law writes its marks: nothing that was there turns but this row. -/
theorem markP_any (g n c m : Nat) (w : World) (hn : n ≤ 2000000) (hm : m ≤ 4000000)
    (hc : ∀ j, j < n * 2 → ∃ z, w.cell? ⟨g, j, none⟩ = some (.int .i64 z)) (hf : ∀ j, j < n * 2 → w.frozen? ⟨g, j, none⟩ = false) :
    Calls Try.prog 26 #[.slice (some ⟨g, 0, none⟩) n c, .int .i64 m] w fun e w' => e = .returned (.int .i64 (m + n * 2 : Nat)) ∧ Only g w w' ∧ MarkedL w' g m n := by
  go_enter Try.func26, Try.ntmps26
  go_wp2
  go_loopw [1, 5] (fun x i wr => ∃ k : Nat, k ≤ n ∧ x = .int .i64 (m + k * 2 : Nat) ∧ i = .int .i64 k ∧ Hid (MarkedL wr g m k) ∧ Hid (∀ j, k * 2 ≤ j → j < n * 2 → ∃ z, wr.cell? ⟨g, j, none⟩ = some (.int .i64 z)) ∧ Hid (∀ j, j < n * 2 → wr.frozen? ⟨g, j, none⟩ = false) ∧ Only g w wr) (fun _ i _ => n - (intOf i).toNat)
  case atStart => exact ⟨0, Nat.zero_le _, rfl, rfl, Lib.hid (fun j h => by omega), Lib.hid (fun j _ h => hc j h), Lib.hid hf, Only.refl _ _⟩
  case round =>
    obtain ⟨k, hk, rfl, rfl, H1, H2, H3, ho⟩ := hrel
    by_cases hlt : k < n
    · obtain ⟨t, c1⟩ := H2.out (k * 2) (Nat.le_refl _) (by omega)
      obtain ⟨u, c2⟩ := H2.out (k * 2 + 1) (by omega) (by omega)
      have f1 := H3.out (k * 2) (by omega)
      have f2 := H3.out (k * 2 + 1) (by omega)
      have hlt' : (k : Int) < (n : Int) := by omega
      have TS := Lib.hid (two_set wr g (k * 2) (.int .i64 ((m : Int) + (k : Int) * 2)) (.int .i64 ((m : Int) + (k : Int) * 2 + 1)) c1 c2)
      clear hc hf
      go_wp2
      refine wp_loop_rounds 3 ?_
      rw [rounds_succ]
      go_wp2
      rw [rounds_succ]
      go_wp2
      rw [rounds_succ]
      go_wp2
      go_roundw
      case rel =>
        obtain ⟨t1, t2, t3⟩ := TS.out
        refine ⟨k + 1, by omega, by go_num, by go_num, Lib.hid (fun j hj => ?_), Lib.hid (fun j hj hjn => ?_), Lib.hid (fun j hj => ?_), ho.trans ((only_set _ _ _ _).trans (only_set _ _ _ _))⟩
        · by_cases e : j = k
          · subst e
            rw [t1, t2, show ((m + j * 2 + 1 : Nat) : Int) = (m : Int) + (j : Int) * 2 + 1 by omega, show ((m + j * 2 : Nat) : Int) = (m : Int) + (j : Int) * 2 by omega]
            exact ⟨rfl, rfl⟩
          · rw [t3 _ (by omega) (by omega), t3 _ (by omega) (by omega)]
            exact H1.out j (by omega)
        · rw [t3 _ (by omega) (by omega)]
          exact H2.out j (by omega) hjn
        · rw [World.frozen?_setCell, World.frozen?_setCell]
          exact H3.out j hj
      case measure => simp [intOf]; omega
    · obtain rfl : k = n := by omega
      clear hc hf
      go_wp2
      go_ret
      exact ⟨rfl, ho, H1.out⟩
set_option maxHeartbeats 800000 in
/-- The marks are there again. -/
theorem heldP_any (g n c m : Nat) (w : World) (hn : n ≤ 2000000) (hm : m ≤ 4000000) (hc : MarkedL w g m n) :
    Calls Try.prog 27 #[.slice (some ⟨g, 0, none⟩) n c, .int .i64 m] w fun e w' => e = .returned (.int .i64 (m + n * 2 : Nat)) ∧ w = w' := by
  have HC := Lib.hid hc
  clear hc
  go_enter Try.func27, Try.ntmps27
  go_wp2
  go_loopw [1, 5] (fun x i wr => ∃ k : Nat, k ≤ n ∧ x = .int .i64 (m + k * 2 : Nat) ∧ i = .int .i64 k ∧ wr = w) (fun _ i _ => n - (intOf i).toNat)
  case atStart => exact ⟨0, Nat.zero_le _, rfl, rfl, rfl⟩
  case round =>
    obtain ⟨k, hk, rfl, rfl, rfl⟩ := hrel
    by_cases hlt : k < n
    · obtain ⟨c1, c2⟩ := HC.out k hlt
      have hlt' : (k : Int) < (n : Int) := by omega
      rw [show ((m + k * 2 : Nat) : Int) = (m : Int) + (k : Int) * 2 by omega] at c1
      rw [show ((m + k * 2 + 1 : Nat) : Int) = (m : Int) + (k : Int) * 2 + 1 by omega] at c2
      go_wp2
      refine wp_loop_rounds 3 ?_
      rw [rounds_succ]
      go_wp2
      rw [rounds_succ]
      go_wp2
      rw [rounds_succ]
      go_wp2
      go_roundw
      case rel => exact ⟨k + 1, by omega, by go_num, by go_num, trivial⟩
      case measure => simp [intOf]; omega
    · obtain rfl : k = n := by omega
      go_wp2
      go_ret
      exact ⟨rfl, rfl⟩
theorem markP_mine (B E : Nat) (v : Value) (xs : List (Int × Int)) (m : Nat) (w : World) (h : MineL w B E v xs) (hn : xs.length ≤ 2000000) (hm : m ≤ 4000000) :
    Calls Try.prog 26 #[v, .int .i64 m] w fun e w' => e = .returned (.int .i64 (m + xs.length * 2 : Nat)) ∧ Part B E w w' ∧ HeldL w' B E v xs m := by
  rcases h with ⟨rfl, a, c, rfl⟩ | ⟨g, c, rfl, hB, hE, hs, hc, hf⟩
  · refine (markP_nil a c m w).mono ?_
    rintro e w' ⟨rfl, rfl⟩
    exact ⟨rfl, Part.refl _ _ _, .inl ⟨rfl, a, c, rfl⟩⟩
  · refine (markP_any g xs.length c m w hn hm (fun j hj => ?_) (fun j _ => hf j)).mono ?_
    · obtain ⟨k, rfl | rfl⟩ : ∃ k, j = k * 2 ∨ j = k * 2 + 1 := ⟨j / 2, by omega⟩
      · exact ⟨_, (hc k (by omega)).1⟩
      · exact ⟨_, (hc k (by omega)).2⟩
    · rintro e w' ⟨rfl, ho, hh⟩
      exact ⟨rfl, ho.part hB hE, .inr ⟨g, c, rfl, hB, hE, Nat.le_trans hs ho.size, hh⟩⟩
theorem heldP_held (B E : Nat) (v : Value) (xs : List (Int × Int)) (m : Nat) (w : World) (h : HeldL w B E v xs m) (hn : xs.length ≤ 2000000) (hm : m ≤ 4000000) :
    Calls Try.prog 27 #[v, .int .i64 m] w fun e w' => e = .returned (.int .i64 (m + xs.length * 2 : Nat)) ∧ w = w' := by
  rcases h with ⟨rfl, a, c, rfl⟩ | ⟨g, c, rfl, _, _, _, hc⟩
  · exact heldP_nil a c m w
  · exact heldP_any g xs.length c m w hn hm hc
end Go.Proofs.Ytmcjichpeijiaaa
