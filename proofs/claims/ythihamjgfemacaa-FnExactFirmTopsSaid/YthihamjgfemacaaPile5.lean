/- The upper part of a brick: the model's sums, the program's slices and its centre. -/
import Derived.Test.YthihamjgfemacaaPile4
import Derived.Test.YthihamjgfemacaaFrac5
namespace Go.Proofs.Ythihamjgfemacaa
open Go.RowKit
theorem upSum_at {p : PileV} (h : PileF p) (i j : Nat) (hj : i + j < p.ls.length) : momP p.wd ((p.ls.drop i).take (j + 1)) ((p.ws.drop i).take (j + 1)) = momP p.wd ((p.ls.drop i).take j) ((p.ws.drop i).take j) + p.ws.getD (i + j) 0 * (2 * p.ls.getD (i + j) 0 + p.wd) ∧ weiP ((p.ws.drop i).take (j + 1)) = weiP ((p.ws.drop i).take j) + p.ws.getD (i + j) 0 := by
  have hs := h.same
  rw [momP_take _ _ _ j (by rw [List.length_drop]; omega) (by rw [List.length_drop, List.length_drop, hs]), weiP_take _ j (by rw [List.length_drop]; omega), getD_dropP, getD_dropP]
  exact ⟨rfl, rfl⟩
theorem upSum_all {p : PileV} (h : PileF p) (i j : Nat) (hj : i + j = p.ls.length) : momP p.wd ((p.ls.drop i).take j) ((p.ws.drop i).take j) = upSum p i ∧ weiP ((p.ws.drop i).take j) = upWei p i := by
  have hs := h.same
  rw [List.take_of_length_le (by rw [List.length_drop]; omega), List.take_of_length_le (by rw [List.length_drop]; omega)]
  exact ⟨rfl, rfl⟩
theorem up_bound {p : PileV} (h : PileF p) (i j : Nat) (hj : i + j ≤ p.ls.length) : (-176000 ≤ momP p.wd ((p.ls.drop i).take j) ((p.ws.drop i).take j) ∧ momP p.wd ((p.ls.drop i).take j) ((p.ws.drop i).take j) ≤ 176000) ∧ 0 ≤ weiP ((p.ws.drop i).take j) ∧ weiP ((p.ws.drop i).take j) ≤ 792 := by
  have h8 := h.short
  have u := h.up i
  have a := momP_bound u j (by rw [List.length_drop]; omega)
  have b := u.wei j (by rw [List.length_drop]; omega)
  refine ⟨⟨?_, ?_⟩, ?_, ?_⟩ <;> omega
set_option maxRecDepth 100000 in
set_option maxHeartbeats 3200000 in
theorem l4Upper_any (v : Value) (p : PileV) (i : Nat) (w : World) (hv : PileRow w v p) (hf : PileF p) (hi : i < p.ls.length) :
    Calls Try.prog 105 #[v, .int .i64 (i : Int)] w fun e w' => e = .returned (.tuple #[.int .i64 (upSum p i), .int .i64 (upWei p i)]) ∧ Below w.heap.size w w' := by
  obtain ⟨g, off, c, g', off', c', rfl, PC⟩ := pile_open hv hf
  have hn8 := hf.short
  have hw1 := hf.w1
  have hw2 := hf.w2
  obtain ⟨W, hW⟩ : ∃ W, w.alloc (.cells #[.int .i64 p.wd, .slice (some ⟨g, off, none⟩) p.ls.length c, .slice (some ⟨g', off', none⟩) p.ls.length c'] 63) = W := ⟨_, rfl⟩
  have LW := Lib.hid (show Below w.heap.size w W by rw [← hW]; exact (Below.refl _ _).alloc (Nat.le_refl _) _)
  have BX := Lib.hid (show Box3 W w.heap.size (.int .i64 p.wd) (.slice (some ⟨g, off, none⟩) p.ls.length c) (.slice (some ⟨g', off', none⟩) p.ls.length c') by rw [← hW]; exact box3_new _ _ _ _ _)
  have PW := Lib.hid (PC.lo LW.out)
  have HF := Lib.hid hf
  obtain ⟨n, hn⟩ : ∃ n, p.ls.length = n := ⟨_, rfl⟩
  have HN := Lib.hid hn
  rw [hn] at hi hn8 hW BX ⊢
  have HB := Lib.hid (fun k (h : i ≤ k ∧ k ≤ n) => up_bound hf i (k - i) (by rw [hn]; omega))
  have HA := Lib.hid (fun k (h : i ≤ k ∧ k < n) => show _ ∧ _ from by
    have := upSum_at hf i (k - i) (by rw [hn]; omega)
    rw [show i + (k - i) = k by omega, show k - i + 1 = k + 1 - i by omega] at this
    exact this)
  have HE := Lib.hid (upSum_all hf i (n - i) (by rw [hn]; omega))
  have HS := Lib.hid (show momP p.wd ((p.ls.drop i).take (i - i)) ((p.ws.drop i).take (i - i)) = 0 ∧ weiP ((p.ws.drop i).take (i - i)) = 0 by simp [momP, weiP])
  obtain ⟨M, hM⟩ : ∃ M : Nat → Int, M = fun k => momP p.wd ((p.ls.drop i).take (k - i)) ((p.ws.drop i).take (k - i)) := ⟨_, rfl⟩
  obtain ⟨V, hV⟩ : ∃ V : Nat → Int, V = fun k => weiP ((p.ws.drop i).take (k - i)) := ⟨_, rfl⟩
  have HB := Lib.hid (show ∀ k, i ≤ k ∧ k ≤ n → (-176000 ≤ M k ∧ M k ≤ 176000) ∧ 0 ≤ V k ∧ V k ≤ 792 by rw [hM, hV]; exact HB.out)
  have HA := Lib.hid (show ∀ k, i ≤ k ∧ k < n → M (k + 1) = M k + p.ws.getD k 0 * (2 * p.ls.getD k 0 + p.wd) ∧ V (k + 1) = V k + p.ws.getD k 0 by rw [hM, hV]; exact HA.out)
  have HE := Lib.hid (show M n = upSum p i ∧ V n = upWei p i by rw [hM, hV]; exact HE.out)
  have HS := Lib.hid (show M i = 0 ∧ V i = 0 by rw [hM, hV]; exact HS.out)
  clear hv hf PC hn hM hV
  obtain ⟨_, u0, u1, u2⟩ := BX.out
  go_enter Try.func105, Try.ntmps105
  go_wp2
  clear hW u0 u1 u2
  go_loopw [6, 7, 8] (fun s t x wr => ∃ k : Nat, i ≤ k ∧ k ≤ n ∧ x = .int .i64 k ∧ s = .int .i64 (M k) ∧ t = .int .i64 (V k) ∧ Hid (Below W.heap.size W wr)) (fun _ _ x _ => n - (intOf x).toNat)
  case atStart => exact ⟨i, Nat.le_refl _, by omega, rfl, by rw [HS.out.1], by rw [HS.out.2], Lib.hid (Below.refl _ _)⟩
  case round =>
    obtain ⟨k, hik, hk, rfl, rfl, rfl, HW⟩ := hrel
    obtain ⟨_, x0, x1, x2⟩ := BX.out.lo HW.out
    obtain ⟨⟨m0, m1⟩, v0, v1⟩ := HB.out k ⟨hik, hk⟩
    by_cases hlt : k < n
    · have hlt' : (k : Int) < (n : Int) := by omega
      have P1 := PW.out.lo HW.out
      have c1 := P1.c1 k (by rw [HN.out]; exact hlt)
      have c2 := P1.c2 k (by rw [HN.out]; exact hlt)
      obtain ⟨⟨a0, a1⟩, b0, b1⟩ := HF.out.each k (by rw [HN.out]; exact hlt)
      obtain ⟨⟨m2, m3⟩, v2, v3⟩ := HB.out (k + 1) ⟨by omega, by omega⟩
      have hA := HA.out k ⟨hik, hlt⟩
      generalize p.ls.getD k 0 = x at c1 a0 a1 hA
      generalize p.ws.getD k 0 = y at c2 b0 b1 hA
      have hp := prod_bound y x p.wd b0 b1 a0 a1 hw1 hw2
      obtain ⟨t, ht⟩ : ∃ t, y * (2 * x + p.wd) = t := ⟨_, rfl⟩
      rw [ht] at hA hp
      obtain ⟨hp0, hp1⟩ := hp
      obtain ⟨A, hMk⟩ : ∃ A, M k = A := ⟨_, rfl⟩
      obtain ⟨B, hVk⟩ : ∃ B, V k = B := ⟨_, rfl⟩
      obtain ⟨A2, hMk2⟩ : ∃ A, M (k + 1) = A := ⟨_, rfl⟩
      obtain ⟨B2, hVk2⟩ : ∃ B, V (k + 1) = B := ⟨_, rfl⟩
      rw [hMk] at m0 m1 hA ⊢
      rw [hVk] at v0 v1 hA ⊢
      rw [hMk2] at m2 m3 hA
      rw [hVk2] at v2 v3 hA
      have HMK := Lib.hid (show M (k + 1) = A + t by rw [hMk2]; exact hA.1)
      have HVK := Lib.hid (show V (k + 1) = B + y by rw [hVk2]; exact hA.2)
      have H1 := Lib.hid (wrap_small (2 * x) (by omega) (by omega))
      have H2 := Lib.hid (wrap_small (2 * x + p.wd) (by omega) (by omega))
      have H3 := Lib.hid (show IntKind.i64.wrap (y * (2 * x + p.wd)) = t by rw [ht]; exact wrap_small _ (by omega) (by omega))
      have H4 := Lib.hid (wrap_small (A + t) (by omega) (by omega))
      clear hA P1 ht hMk hVk hMk2 hVk2
      go_wp2
      have h1 := H1.out
      have h2 := H2.out
      have h3 := H3.out
      have h4 := H4.out
      go_quiet (fail)
      clear h1 h2 h3 h4 H1 H2 H3 H4
      go_wp2
      go_roundw
      case rel => exact ⟨k + 1, by omega, by omega, by go_num, by rw [HMK.out], by rw [HVK.out], Lib.hid (HW.out.trans ((drewN_lo wr nq).mono HW.out.size))⟩
      case measure => simp [intOf]; omega
    · obtain rfl : k = n := by omega
      have hge : ¬ (k : Int) < (k : Int) := by omega
      obtain ⟨e1, e2⟩ := HE.out
      have HE1 := Lib.hid e1
      have HE2 := Lib.hid e2
      clear e1 e2
      go_wp2
      go_ret2
      exact ⟨by rw [← HE1.out, ← HE2.out]; rfl, LW.out.trans (HW.out.mono LW.out.size)⟩
end Go.Proofs.Ythihamjgfemacaa
