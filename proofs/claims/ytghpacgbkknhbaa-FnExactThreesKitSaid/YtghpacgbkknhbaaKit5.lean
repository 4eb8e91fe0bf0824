/- The contracts of the model's kits of powers. -/
import Derived.Test.YtghpacgbkknhbaaKit4
namespace Go.Proofs.Ytghpacgbkknhbaa
open Go.RowKit
set_option maxRecDepth 100000 in
set_option maxHeartbeats 800000 in
theorem l3Powers_any (b : Int) (n : Nat) (hb : b = 2 ∨ b = 3) (h1 : 1 ≤ n) (h2 : n ≤ 6) (w : World) :
    Calls Try.prog 112 #[.int .i64 b, .int .i64 (n : Int)] w fun e w' => ∃ u, e = .returned u ∧ IntRow w' u (powsF b n) ∧ Below w.heap.size w w' := by
  obtain ⟨i0, hi, hz0, hz1, hz2⟩ := info_parts infoInt
  have HB := Lib.hid (fun k hk => pow_small b hb k hk)
  have hrow0 := ownI_lit1 w 1 w.heap.size (Nat.le_refl _)
  clear hb
  go_enter Try.func112, Try.ntmps112
  go_wp2
  go_loopw [5] (fun v wr => ∃ (g k cap : Nat), k + 1 ≤ n ∧ v = .slice (some ⟨g, 0, none⟩) (k + 1) cap ∧ Hid (OwnI wr w.heap.size v (powsF b (k + 1))) ∧ Hid (Below w.heap.size w wr)) (fun v _ => n - lenOf v)
  case atStart => exact ⟨_, 0, _, h1, rfl, Lib.hid hrow0, Lib.hid ((Below.refl _ _).alloc (Nat.le_refl _) _)⟩
  case round =>
    obtain ⟨g, k, cap, hk, rfl, HO, HW⟩ := hrel
    clear hrow0
    by_cases hlt : k + 1 < n
    · have hlt' : ((k + 1 : Nat) : Int) < (n : Int) := by omega
      have hown := HO.out
      unfold OwnI at hown
      rw [powsF_len] at hown
      have hcell := hown.cellAt k (by omega)
      rw [icells_at _ _ (by rw [powsF_len]; omega), powsF_at _ _ _ (by omega)] at hcell
      have hfr := hown.frozenAt k
      have hs := HB.out (k + 1) (by omega)
      have hs0 := HB.out k (by omega)
      rw [powF, Int.mul_comm] at hs
      obtain ⟨y, hy⟩ : ∃ y, powF b k = y := ⟨_, rfl⟩
      rw [hy] at hcell hs hs0
      have HY := Lib.hid hy
      obtain ⟨s0, s1⟩ := hs
      obtain ⟨t0, t1⟩ := hs0
      have hgw := HW.out.size
      have hown2 := hown
      clear hy hown
      go_wp2_with (at_builtin; refine wpList_append_own _ rfl _ _ 24 rfl w.heap.size 3 i0 (.int .i64 0) 1 8 Try.underlying24 hi hz0 hz1 hz2 rfl (by decide) _ _ _ rfl (hown2.alloc _) ⟨wr.heap.size, 0, none⟩ 1 1 [.int .i64 (b * y)] rfl rfl (cell_one_new _ _ _) (fun x hx => by simp at hx; subst hx; rfl) (by unfold maxLen; omega) (by omega) (by simp; omega) ?_; intro v' w3 hown' hgrow3 hnil3)
      have HN := Lib.hid (show OwnI w3 w.heap.size v' (powsF b (k + 1 + 1)) by
        rw [powsF_snoc, powF, HY.out, Int.mul_comm]
        exact ownI_snoc hown' (by rw [powsF_len]))
      have HL := Lib.hid (show Below w.heap.size w w3 from (HW.out.alloc HW.out.size _).grown hgrow3 (by simp; omega) (fun j hj => (hown2.lt j hj).1))
      have hv : ∃ g' cap', v' = .slice (some ⟨g', 0, none⟩) (k + 1 + 1) cap' := by
        rcases hown'.2 with ⟨_, h⟩ | ⟨g', cap', _, e, _⟩
        · omega
        · exact ⟨g', cap', e⟩
      obtain ⟨g', cap', rfl⟩ := hv
      clear hown' hgrow3 hnil3 hown2 hcell hfr
      go_wp2
      go_roundw
      case rel => exact ⟨g', k + 1, cap', by omega, rfl, HN, HL⟩
      case measure => simp [lenOf]; omega
    · obtain rfl : n = k + 1 := by omega
      have hge : ¬ ((k + 1 : Nat) : Int) < ((k + 1 : Nat) : Int) := by omega
      go_wp2
      go_ret
      exact ⟨_, rfl, HO.out.mine.row, HW.out⟩
theorem kitOf_yes (b m k : Int) (h : (decide (1 ≤ k) && decide (k ≤ m)) = true) : kitOf b m k = (powsF b k.toNat, true) := by
  unfold kitOf
  rw [Bool.and_eq_true] at h
  rw [if_pos ⟨of_decide_eq_true h.1, of_decide_eq_true h.2⟩]
theorem kitOf_no (b m k : Int) (h : (decide (1 ≤ k) && decide (k ≤ m)) = false) : kitOf b m k = ([], false) := by
  unfold kitOf
  rw [if_neg (fun hh => by rw [decide_eq_true hh.1, decide_eq_true hh.2] at h; cases h)]
theorem threes_spec (k : Int) (w : World) : Calls Try.prog 35 #[.int .i64 k] w fun e w' => ∃ u, e = .returned (.tuple #[u, .bool (kitOf 3 5 k).2]) ∧ IntRow w' u (kitOf 3 5 k).1 ∧ Below w.heap.size w w' := by
  cases h : (decide (1 ≤ k) && decide (k ≤ 5)) with
  | false =>
    rw [kitOf_no 3 5 k h]
    have D := Lib.hid (l1In_is k 1 5 false h w)
    clear h
    go_enter Try.func35, Try.ntmps35
    go_wp2_with fail
    refine D.out.mono ?_
    rintro e w' ⟨rfl, rfl⟩
    go_wp2
    go_ret2
    exact ⟨_, rfl, intRow_nil _ _ _, (Below.refl _ _).alloc (Nat.le_refl _) _⟩
  | true =>
    rw [kitOf_yes 3 5 k h]
    have D := Lib.hid (l1In_is k 1 5 true h w)
    rw [Bool.and_eq_true] at h
    have h1 := of_decide_eq_true h.1
    have h2 := of_decide_eq_true h.2
    obtain ⟨n, rfl⟩ := Int.eq_ofNat_of_zero_le (show 0 ≤ k by omega)
    have C := Lib.hid (l3Powers_any 3 n (.inr rfl) (by omega) (by omega) w)
    simp only [Int.toNat_natCast]
    generalize powsF 3 n = ys at *
    clear h
    go_enter Try.func35, Try.ntmps35
    go_wp2_with fail
    refine D.out.mono ?_
    rintro e w' ⟨rfl, rfl⟩
    go_wp2_with fail
    refine C.out.mono ?_
    rintro e w' ⟨u, rfl, m, l⟩
    have M := Lib.hid m
    have L := Lib.hid l
    clear m l
    go_wp2
    go_ret2
    exact ⟨u, rfl, M.out, L.out⟩
theorem twos_spec (k : Int) (w : World) : Calls Try.prog 37 #[.int .i64 k] w fun e w' => ∃ u, e = .returned (.tuple #[u, .bool (kitOf 2 6 k).2]) ∧ IntRow w' u (kitOf 2 6 k).1 ∧ Below w.heap.size w w' := by
  cases h : (decide (1 ≤ k) && decide (k ≤ 6)) with
  | false =>
    rw [kitOf_no 2 6 k h]
    have D := Lib.hid (l1In_is k 1 6 false h w)
    clear h
    go_enter Try.func37, Try.ntmps37
    go_wp2_with fail
    refine D.out.mono ?_
    rintro e w' ⟨rfl, rfl⟩
    go_wp2
    go_ret2
    exact ⟨_, rfl, intRow_nil _ _ _, (Below.refl _ _).alloc (Nat.le_refl _) _⟩
  | true =>
    rw [kitOf_yes 2 6 k h]
    have D := Lib.hid (l1In_is k 1 6 true h w)
    rw [Bool.and_eq_true] at h
    have h1 := of_decide_eq_true h.1
    have h2 := of_decide_eq_true h.2
    obtain ⟨n, rfl⟩ := Int.eq_ofNat_of_zero_le (show 0 ≤ k by omega)
    have C := Lib.hid (l3Powers_any 2 n (.inl rfl) (by omega) (by omega) w)
    simp only [Int.toNat_natCast]
    generalize powsF 2 n = ys at *
    clear h
    go_enter Try.func37, Try.ntmps37
    go_wp2_with fail
    refine D.out.mono ?_
    rintro e w' ⟨rfl, rfl⟩
    go_wp2_with fail
    refine C.out.mono ?_
    rintro e w' ⟨u, rfl, m, l⟩
    have M := Lib.hid m
    have L := Lib.hid l
    clear m l
    go_wp2
    go_ret2
    exact ⟨u, rfl, M.out, L.out⟩
end Go.Proofs.Ytghpacgbkknhbaa
