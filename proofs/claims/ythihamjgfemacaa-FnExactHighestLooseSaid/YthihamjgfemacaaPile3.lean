/- The contact of a brick: the model's and the program's. -/
import Derived.Test.YthihamjgfemacaaPile2
namespace Go.Proofs.Ythihamjgfemacaa
open Go.RowKit
/-- The numbers of a pile in memory. -/
structure PileC (w : World) (g off g' off' : Nat) (p : PileV) : Prop where
  b1 : g < w.heap.size
  b2 : g' < w.heap.size
  c1 : ∀ j, j < p.ls.length → w.cell? ⟨g, off + j, none⟩ = some (.int .i64 (p.ls.getD j 0))
  c2 : ∀ j, j < p.ls.length → w.cell? ⟨g', off' + j, none⟩ = some (.int .i64 (p.ws.getD j 0))
theorem PileC.lo {w w' : World} {g off g' off' : Nat} {p : PileV} (h : PileC w g off g' off' p) (l : Below w.heap.size w w') : PileC w' g off g' off' p :=
  ⟨Nat.lt_of_lt_of_le h.b1 l.size, Nat.lt_of_lt_of_le h.b2 l.size, fun j hj => by rw [l.cell (p := ⟨g, off + j, none⟩) h.b1]; exact h.c1 j hj, fun j hj => by rw [l.cell (p := ⟨g', off' + j, none⟩) h.b2]; exact h.c2 j hj⟩
theorem pile_open {w : World} {v : Value} {p : PileV} (hv : PileRow w v p) (hf : PileF p) : ∃ g off c g' off' c', v = .agg #[.int .i64 p.wd, .slice (some ⟨g, off, none⟩) p.ls.length c, .slice (some ⟨g', off', none⟩) p.ls.length c'] ∧ PileC w g off g' off' p := by
  obtain ⟨a, b, rfl, ⟨a1, c1, rfl, h1⟩, ⟨b1, d1, rfl, h2⟩⟩ := hv
  have h0 := hf.one
  have hs := hf.same
  rcases h1 with h | ⟨g, off, rfl, hg, hc⟩
  · rw [h] at h0; simp at h0
  rcases h2 with h | ⟨g', off', rfl, hg', hc'⟩
  · rw [h] at hs; simp at hs; omega
  rw [hs] at hc' ⊢
  exact ⟨g, off, c1, g', off', d1, rfl, hg, hg', hc, hc'⟩
theorem drewN_lo (w : World) (n : Nat) : Below w.heap.size w (w.drewN n) := ⟨rfl, rfl, rfl, Nat.le_refl _, fun _ _ => rfl⟩
theorem wrap_small (x : Int) (h : -1000000000 ≤ x) (k : x ≤ 1000000000) : IntKind.i64.wrap x = x := by rw [IntKind.wrap_i64]; omega
theorem l1Most_any (a b : Int) (w : World) : Calls Try.prog 127 #[.int .i64 a, .int .i64 b] w fun e w' => e = .returned (.int .i64 (if b < a then a else b)) ∧ w = w' := by
  by_cases h : b < a
  all_goals go_enter Try.func127, Try.ntmps127
  all_goals go_wp2
  all_goals go_ret
  all_goals exact ⟨rfl, rfl⟩
theorem l1Least_any (a b : Int) (w : World) : Calls Try.prog 137 #[.int .i64 a, .int .i64 b] w fun e w' => e = .returned (.int .i64 (if a < b then a else b)) ∧ w = w' := by
  by_cases h : a < b
  all_goals go_enter Try.func137, Try.ntmps137
  all_goals go_wp2
  all_goals go_ret
  all_goals exact ⟨rfl, rfl⟩
theorem l1Most_is (a b r : Int) (h : (if b < a then a else b) = r) (w : World) : Calls Try.prog 127 #[.int .i64 a, .int .i64 b] w fun e w' => e = .returned (.int .i64 r) ∧ w' = w := by
  subst h; exact (l1Most_any a b w).mono fun _ _ ⟨h, k⟩ => ⟨h, k.symm⟩
theorem l1Least_is (a b r : Int) (h : (if a < b then a else b) = r) (w : World) : Calls Try.prog 137 #[.int .i64 a, .int .i64 b] w fun e w' => e = .returned (.int .i64 r) ∧ w' = w := by
  subst h; exact (l1Least_any a b w).mono fun _ _ ⟨h, k⟩ => ⟨h, k.symm⟩
theorem low_succ (p : PileV) (m : Nat) : (if p.ls.getD m 0 < p.ls.getD (m + 1) 0 then p.ls.getD (m + 1) 0 else p.ls.getD m 0) = lowF p (m + 1) := by
  unfold lowF; simp
theorem high_succ (p : PileV) (m : Nat) : (if p.ls.getD (m + 1) 0 + p.wd < p.ls.getD m 0 + p.wd then p.ls.getD (m + 1) 0 + p.wd else p.ls.getD m 0 + p.wd) = highF p (m + 1) := by
  unfold highF; simp only [Nat.add_sub_cancel, Nat.succ_ne_zero, if_false]; split <;> split <;> omega
theorem high_zero (p : PileV) : (if p.ls.getD 0 0 + p.wd < 0 then p.ls.getD 0 0 + p.wd else 0) = highF p 0 := by
  unfold highF; rw [if_pos rfl]
set_option maxRecDepth 100000 in
set_option maxHeartbeats 1600000 in
theorem l4Contact_any (v : Value) (p : PileV) (k : Nat) (w : World) (hv : PileRow w v p) (hf : PileF p) (hk : k < p.ls.length) :
    Calls Try.prog 130 #[v, .int .i64 (k : Int)] w fun e w' => e = .returned (.tuple #[.int .i64 (lowF p k), .int .i64 (highF p k)]) ∧ Below w.heap.size w w' := by
  obtain ⟨g, off, c, g', off', c', rfl, PC⟩ := pile_open hv hf
  have hn8 := hf.short
  have hw1 := hf.w1
  have hw2 := hf.w2
  have hx := (hf.each k hk).1
  obtain ⟨n, hn⟩ : ∃ n, p.ls.length = n := ⟨_, rfl⟩
  obtain ⟨W, hW⟩ : ∃ W, w.alloc (.cells #[.int .i64 p.wd, .slice (some ⟨g, off, none⟩) n c, .slice (some ⟨g', off', none⟩) n c'] 63) = W := ⟨_, rfl⟩
  have LW := Lib.hid (show Below w.heap.size w W by rw [← hW]; exact (Below.refl _ _).alloc (Nat.le_refl _) _)
  obtain ⟨bz, x0, x1, x2⟩ := (show Box3 W w.heap.size (.int .i64 p.wd) (.slice (some ⟨g, off, none⟩) n c) (.slice (some ⟨g', off', none⟩) n c') by rw [← hW]; exact box3_new _ _ _ _ _)
  have PW := Lib.hid (PC.lo LW.out)
  have ck := PW.out.c1 k hk
  rw [hn] at hk hn8 ⊢
  have hkn : (k : Int) < (n : Int) := by omega
  cases k with
  | zero =>
    rw [Nat.add_zero] at ck
    change (0 : Int) < (n : Int) at hkn
    change Calls _ _ #[_, .int .i64 0] _ _
    have HL := Lib.hid (show p.ls.getD 0 0 = lowF p 0 by unfold lowF; rw [if_pos rfl])
    have HH := Lib.hid (fun w => l1Least_is (p.ls.getD 0 0 + p.wd) 0 _ (high_zero p) w)
    generalize p.ls.getD 0 0 = x at ck hx HL HH
    generalize lowF p 0 = lo at HL ⊢
    generalize highF p 0 = hi at HH ⊢
    have h1 : IntKind.i64.wrap (x + p.wd) = x + p.wd := wrap_small _ (by omega) (by omega)
    go_enter Try.func130, Try.ntmps130
    go_wp2_with fail
    clear hW
    go_quiet (fail)
    go_wp2_with fail
    refine (HH.out _).mono ?_
    rintro e w' ⟨rfl, rfl⟩
    go_wp2
    go_ret2
    exact ⟨by rw [← HL.out]; rfl, LW.out.trans ((drewN_lo W nq).mono LW.out.size)⟩
  | succ m =>
    have hy := (hf.each m (by omega)).1
    have cm := PW.out.c1 m (by omega)
    have HL := Lib.hid (fun w => l1Most_is (p.ls.getD (m + 1) 0) (p.ls.getD m 0) _ (low_succ p m) w)
    have HH := Lib.hid (fun w => l1Least_is (p.ls.getD (m + 1) 0 + p.wd) (p.ls.getD m 0 + p.wd) _ (high_succ p m) w)
    generalize hxe : p.ls.getD (m + 1) 0 = x at ck hx HL HH
    generalize hye : p.ls.getD m 0 = y at cm hy HL HH
    have HXE := Lib.hid hxe
    have HYE := Lib.hid hye
    clear hxe hye
    generalize lowF p (m + 1) = lo at HL ⊢
    generalize highF p (m + 1) = hi at HH ⊢
    have H1 := Lib.hid (wrap_small (x + p.wd) (by omega) (by omega))
    have H2 := Lib.hid (wrap_small (y + p.wd) (by omega) (by omega))
    have H3 := Lib.hid (wrap_small (m : Int) (by omega) (by omega))
    have H4 := Lib.hid (show IntKind.i64.wrap ((m : Int) + 1 - 1) = (m : Int) by rw [Int.add_sub_cancel]; exact H3.out)
    have hb : ((m : Int) + 1 == 0) = false := by simp; omega
    have hmn : (m : Int) < (n : Int) := by omega
    go_enter Try.func130, Try.ntmps130
    go_wp2_with fail
    clear hW
    have h1 := H1.out
    go_quiet (fail)
    clear h1
    obtain ⟨W2, hW2⟩ : ∃ x, W.drewN nq = x := ⟨_, rfl⟩
    have L2 := Lib.hid (show Below W.heap.size W W2 by rw [← hW2]; exact drewN_lo W nq)
    rw [hW2]
    have PW2 := PW.out.lo L2.out
    have ck2 := PW2.c1 (m + 1) (by omega)
    have cm2 := PW2.c1 m (by omega)
    rw [HXE.out] at ck2
    rw [HYE.out] at cm2
    obtain ⟨_, y0, y1, y2⟩ := (show Box3 W2 w.heap.size (.int .i64 p.wd) (.slice (some ⟨g, off, none⟩) n c) (.slice (some ⟨g', off', none⟩) n c') from Box3.lo ⟨bz, x0, x1, x2⟩ L2.out)
    clear hW2 ck cm x0 x1 x2
    go_wp2_with fail
    have hm0 : (0 : Int) ≤ (m : Int) := by omega
    have h2 := H2.out
    have h3 := H3.out
    have h4 := H4.out
    go_quiet ((first | (go_at_call 127; exact Calls.quiet_of_same (HL.out _)) | (go_at_call 137; exact Calls.quiet_of_same (HH.out _))))
    clear h2 h3 h4
    go_wp2
    go_ret2
    exact ⟨rfl, (LW.out.trans (L2.out.mono LW.out.size)).trans ((drewN_lo W2 _).mono (by have := LW.out.size; have := L2.out.size; omega))⟩
end Go.Proofs.Ythihamjgfemacaa
