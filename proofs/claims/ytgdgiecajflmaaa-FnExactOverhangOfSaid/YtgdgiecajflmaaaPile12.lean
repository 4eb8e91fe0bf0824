/- The overhang: the model's and the program's. -/
import Derived.Test.YtgdgiecajflmaaaPile10
namespace Go.Proofs.Ytgdgiecajflmaaa
open Go.RowKit
/-- The greatest of the first k + 1 numbers. -/
def mxF (xs : List Int) : Nat → Int
  | 0 => xs.getD 0 0
  | k + 1 => if mxF xs k < xs.getD (k + 1) 0 then xs.getD (k + 1) 0 else mxF xs k
/-- The overhang over the first k bricks. -/
def ovF (wd : Int) (xs : List Int) : Nat → Int
  | 0 => 0
  | k + 1 => if xs.getD k 0 + wd < ovF wd xs k then ovF wd xs k else xs.getD k 0 + wd
theorem ov_mx (wd : Int) (xs : List Int) : ∀ k, ovF wd xs (k + 1) = if 0 < mxF xs k + wd then mxF xs k + wd else 0 := by
  intro k
  induction k with
  | zero =>
    rw [ovF, ovF, mxF]
    generalize xs.getD 0 0 = x
    repeat' split
    all_goals omega
  | succ k ih =>
    rw [ovF, ih, mxF]
    generalize mxF xs k = m
    generalize xs.getD (k + 1) 0 = x
    repeat' split
    all_goals omega
theorem ov_bound (wd : Int) (xs : List Int) (n : Nat) (h : ∀ j, j < n → -99 ≤ xs.getD j 0 ∧ xs.getD j 0 ≤ 99) (w1 : 1 ≤ wd) (w2 : wd ≤ 24) : ∀ k, k ≤ n → 0 ≤ ovF wd xs k ∧ ovF wd xs k ≤ 200 := by
  intro k
  induction k with
  | zero => intro _; simp [ovF]
  | succ k ih =>
    intro hk
    have a := ih (by omega)
    have b := h k (by omega)
    rw [ovF]
    split <;> omega
theorem mx_bound (xs : List Int) (n : Nat) (h : ∀ j, j < n → -99 ≤ xs.getD j 0 ∧ xs.getD j 0 ≤ 99) : ∀ k, k < n → -99 ≤ mxF xs k ∧ mxF xs k ≤ 99 := by
  intro k
  induction k with
  | zero => intro hk; exact h 0 hk
  | succ k ih =>
    intro hk
    have a := ih (by omega)
    have b := h (k + 1) hk
    rw [mxF]
    split <;> omega
noncomputable def overV (p : PileV) : Int := if pileB p = true then ovF p.wd p.ls p.ls.length else 0
theorem quiet_at {P : Program} {f : FuncId} {args : Array Value} {w : World} {v : Value} (h : ∀ m, Calls P f args (w.drewN m) fun e w' => e = .returned v ∧ ∃ q, w' = (w.drewN m).drewN q) (n x : Nat) :
    Calls P f args (w.drewN (n + x)) fun e w'' => e = .returned v ∧ ∃ y, w'' = w.drewN (n + y) :=
  (h (n + x)).mono fun _ _ ⟨he, q, hq⟩ => ⟨he, x + q, by rw [hq, World.drewN_drewN, Nat.add_assoc]⟩
set_option maxRecDepth 100000 in
set_option maxHeartbeats 1600000 in
theorem slicesMax_any (g off n c : Nat) (xs : List Int) (w : World) (h1 : 1 ≤ n) (h8 : n ≤ 8) (hc : ∀ j, j < n → w.cell? ⟨g, off + j, none⟩ = some (.int .i64 (xs.getD j 0))) :
    Calls Try.prog 84 #[.slice (some ⟨g, off, none⟩) n c] w fun e w' => e = .returned (.int .i64 (mxF xs (n - 1))) ∧ w' = w := by
  have c0 := hc 0 (by omega)
  rw [Nat.add_zero] at c0
  have HC := Lib.hid hc
  have hn1 : ¬ (n : Int) < 1 := by omega
  have hn0 : (0 : Int) < (n : Int) := by omega
  have H0 := Lib.hid (show xs.getD 0 0 = mxF xs 0 from rfl)
  generalize hx : xs.getD 0 0 = x0 at c0 H0
  clear hc hx
  go_enter Try.func84, Try.ntmps84
  go_wp2
  go_loopw [3, 4] (fun m i wr => ∃ k : Nat, 1 ≤ k ∧ k ≤ n ∧ i = .int .i64 k ∧ m = .int .i64 (mxF xs (k - 1)) ∧ wr = w) (fun _ i _ => n - (intOf i).toNat)
  case atStart => exact ⟨1, Nat.le_refl _, h1, rfl, by rw [H0.out], rfl⟩
  case round =>
    obtain ⟨k, hk1, hk, rfl, rfl, rfl⟩ := hrel
    clear c0 H0
    by_cases hlt : k < n
    · have hlt' : (k : Int) < (n : Int) := by omega
      have ck := HC.out k hlt
      obtain ⟨j, rfl⟩ : ∃ j, k = j + 1 := ⟨k - 1, by omega⟩
      have HS := Lib.hid (show mxF xs (j + 1) = if mxF xs j < xs.getD (j + 1) 0 then xs.getD (j + 1) 0 else mxF xs j from rfl)
      rw [Nat.add_sub_cancel]
      generalize xs.getD (j + 1) 0 = x at ck HS
      generalize mxF xs j = m at HS ⊢
      by_cases hm : m < x
      · have HN := Lib.hid (show mxF xs (j + 1) = x by rw [HS.out, if_pos hm])
        go_wp2
        go_roundw
        case rel => exact ⟨j + 1 + 1, by omega, by omega, by go_num, by rw [Nat.add_sub_cancel, HN.out], trivial⟩
        case measure => simp [intOf]; omega
      · have HN := Lib.hid (show mxF xs (j + 1) = m by rw [HS.out, if_neg hm])
        go_wp2
        go_roundw
        case rel => exact ⟨j + 1 + 1, by omega, by omega, by go_num, by rw [Nat.add_sub_cancel, HN.out], trivial⟩
        case measure => simp [intOf]; omega
    · obtain rfl : k = n := by omega
      have hge : ¬ (k : Int) < (k : Int) := by omega
      go_wp2
      go_ret
      exact ⟨rfl, rfl⟩
set_option maxRecDepth 100000 in
set_option maxHeartbeats 1600000 in
theorem specOver_any (v : Value) (p : PileV) (w : World) (hv : PileRow w v p) (hs : SmallP p) :
    Calls Try.prog 36 #[v] w fun e w' => e = .returned (.tuple #[.int .i64 (overV p), .bool (pileB p)]) ∧ Below w.heap.size w w' := by
  obtain ⟨a, b, c, d, rfl⟩ := hv.form
  obtain ⟨W, hW⟩ : ∃ W, w.alloc (.cells #[.int .i64 p.wd, .slice a p.ls.length c, .slice b p.ws.length d] 27) = W := ⟨_, rfl⟩
  have LW := Lib.hid (show Below w.heap.size w W by rw [← hW]; exact (Below.refl _ _).alloc (Nat.le_refl _) _)
  have BX := Lib.hid (show Box3 W w.heap.size (.int .i64 p.wd) (.slice a p.ls.length c) (.slice b p.ws.length d) by rw [← hW]; exact box3_new _ _ _ _ _)
  have HV := Lib.hid (hv.lo LW.out)
  have D := Lib.hid (l4Pile_any _ p W HV.out hs)
  by_cases hp : pileB p = true
  · have hf := (pileB_iff p).1 hp
    obtain ⟨g, off, c1, g', off', c2, hveq, PC⟩ := pile_open HV.out hf
    obtain ⟨rfl, rfl⟩ : a = some ⟨g, off, none⟩ ∧ c1 = c := by simp at hveq; exact ⟨hveq.1.1, hveq.1.2.symm⟩
    have h8 := hf.short
    have hw1 := hf.w1
    have hw2 := hf.w2
    rw [show overV p = ovF p.wd p.ls p.ls.length by unfold overV; rw [if_pos hp]]
    rw [hp] at D ⊢
    have OB := Lib.hid (ov_bound p.wd p.ls p.ls.length (fun j hj => (hf.each j hj).1) hw1 hw2)
    have HF := Lib.hid hf
    have PCH := Lib.hid PC
    obtain ⟨n, hn⟩ : ∃ n, p.ls.length = n := ⟨_, rfl⟩
    have HN := Lib.hid hn
    rw [hn] at h8 BX D OB hW ⊢
    clear hv hs HV hf hp hveq PC hn
    obtain ⟨_, u0, u1, u2⟩ := BX.out
    go_enter Try.func36, Try.ntmps36
    go_wp2_with fail
    clear hW u0 u1 u2
    refine D.out.mono ?_
    rintro e w1 ⟨rfl, l1⟩
    have BX1 := Lib.hid (BX.out.lo l1)
    have P1 := Lib.hid (PCH.out.lo l1)
    have L1 := Lib.hid (lo_on LW.out l1)
    clear l1 D BX PCH LW
    go_wp2
    go_loopw [4, 5] (fun s x wr => ∃ k : Nat, k ≤ n ∧ x = .int .i64 k ∧ s = .int .i64 (ovF p.wd p.ls k) ∧ Hid (Below w1.heap.size w1 wr)) (fun _ x _ => n - (intOf x).toNat)
    case atStart => exact ⟨0, Nat.zero_le _, rfl, rfl, Lib.hid (Below.refl _ _)⟩
    case round =>
      obtain ⟨k, hk, rfl, rfl, HW⟩ := hrel
      obtain ⟨_, x0, x1, x2⟩ := BX1.out.lo HW.out
      have ob := OB.out k hk
      by_cases hlt : k < n
      · have hlt' : (k : Int) < (n : Int) := by omega
        have ck := (P1.out.lo HW.out).c1 k (by rw [HN.out]; exact hlt)
        have hx := (HF.out.each k (by rw [HN.out]; exact hlt)).1
        have HS := Lib.hid (show ovF p.wd p.ls (k + 1) = if p.ls.getD k 0 + p.wd < ovF p.wd p.ls k then ovF p.wd p.ls k else p.ls.getD k 0 + p.wd from rfl)
        generalize p.ls.getD k 0 = x at ck hx HS
        obtain ⟨m, hm⟩ : ∃ m, ovF p.wd p.ls k = m := ⟨_, rfl⟩
        rw [hm] at ob HS ⊢
        obtain ⟨q, hq⟩ : ∃ q, ovF p.wd p.ls (k + 1) = q := ⟨_, rfl⟩
        rw [hq] at HS
        have HQ := Lib.hid hq
        have LM := Lib.hid (fun w => l1Most_is m (x + p.wd) q HS.out.symm w)
        have H1 := Lib.hid (wrap_small (x + p.wd) (by omega) (by omega))
        clear hm hq
        go_wp2
        have h1 := H1.out
        go_quiet ((go_at_call 83; exact Calls.quiet_of_same (LM.out _)))
        clear h1 H1
        go_wp2
        go_roundw
        case rel => exact ⟨k + 1, by omega, by go_num, by rw [HQ.out], Lib.hid (HW.out.trans ((drewN_lo wr nq).mono HW.out.size))⟩
        case measure => simp [intOf]; omega
      · obtain rfl : k = n := by omega
        have hge : ¬ (k : Int) < (k : Int) := by omega
        go_wp2
        go_ret2
        exact ⟨rfl, lo_on L1.out HW.out⟩
  · have hb0 : pileB p = false := by simpa using hp
    rw [show overV p = 0 by unfold overV; rw [hb0]; rfl]
    rw [hb0] at D ⊢
    clear hv hs HV hp hb0
    obtain ⟨_, u0, u1, u2⟩ := BX.out
    go_enter Try.func36, Try.ntmps36
    go_wp2_with fail
    clear hW u0 u1 u2
    refine D.out.mono ?_
    rintro e w1 ⟨rfl, l1⟩
    have L1 := Lib.hid (lo_on LW.out l1)
    clear l1 D
    go_wp2
    go_ret2
    exact ⟨rfl, L1.out⟩
set_option maxRecDepth 100000 in
set_option maxHeartbeats 1600000 in
theorem over_any (v : Value) (p : PileV) (w : World) (hv : PileRow w v p) (hs : SmallP p) :
    Calls Try.prog 37 #[v] w fun e w' => e = .returned (.tuple #[.int .i64 (overV p), .bool (pileB p)]) ∧ Below w.heap.size w w' := by
  obtain ⟨a, b, c, d, rfl⟩ := hv.form
  obtain ⟨W, hW⟩ : ∃ W, w.alloc (.cells #[.int .i64 p.wd, .slice a p.ls.length c, .slice b p.ws.length d] 27) = W := ⟨_, rfl⟩
  have LW := Lib.hid (show Below w.heap.size w W by rw [← hW]; exact (Below.refl _ _).alloc (Nat.le_refl _) _)
  have BX := Lib.hid (show Box3 W w.heap.size (.int .i64 p.wd) (.slice a p.ls.length c) (.slice b p.ws.length d) by rw [← hW]; exact box3_new _ _ _ _ _)
  have HV := Lib.hid (hv.lo LW.out)
  have D := Lib.hid (isPile_any _ p W HV.out hs)
  by_cases hp : pileB p = true
  · have hf := (pileB_iff p).1 hp
    obtain ⟨g, off, c1, g', off', c2, hveq, PC⟩ := pile_open HV.out hf
    obtain ⟨rfl, rfl⟩ : a = some ⟨g, off, none⟩ ∧ c1 = c := by simp at hveq; exact ⟨hveq.1.1, hveq.1.2.symm⟩
    have h8 := hf.short
    have h1 := hf.one
    have hw1 := hf.w1
    have hw2 := hf.w2
    rw [show overV p = ovF p.wd p.ls p.ls.length by unfold overV; rw [if_pos hp]]
    rw [hp] at D ⊢
    have MB := mx_bound p.ls p.ls.length (fun j hj => (hf.each j hj).1) (p.ls.length - 1) (by omega)
    have OM := Lib.hid (show ovF p.wd p.ls p.ls.length = if 0 < mxF p.ls (p.ls.length - 1) + p.wd then mxF p.ls (p.ls.length - 1) + p.wd else 0 by
      have := ov_mx p.wd p.ls (p.ls.length - 1)
      rw [show p.ls.length - 1 + 1 = p.ls.length by omega] at this
      exact this)
    have SM := Lib.hid (fun w1 (l : Below W.heap.size W w1) => slicesMax_any g off p.ls.length c1 p.ls w1 h1 h8 (PC.lo l).c1)
    generalize mxF p.ls (p.ls.length - 1) = m at *
    generalize ovF p.wd p.ls p.ls.length = o at *
    obtain ⟨m0, m1⟩ := MB
    have H1 := Lib.hid (wrap_small (m + p.wd) (by omega) (by omega))
    have H2 := Lib.hid (show IntKind.i64.wrap (m + p.wd - 0) = m + p.wd by rw [Int.sub_zero]; exact H1.out)
    clear hv hs HV hf hp hveq PC
    obtain ⟨_, u0, u1, u2⟩ := BX.out
    go_enter Try.func37, Try.ntmps37
    go_wp2_with fail
    clear hW u0 u1 u2
    refine D.out.mono ?_
    rintro e w1 ⟨rfl, l1⟩
    obtain ⟨_, x0, x1, x2⟩ := BX.out.lo l1
    have S1 := Lib.hid (SM.out w1.drew (lo_on l1 (drew_below w1)))
    have L1 := Lib.hid (lo_on LW.out l1)
    clear l1 D BX SM LW
    by_cases hpos : m + p.wd < 0
    all_goals first
      | (have HR := Lib.hid (show o = 0 by rw [OM.out, if_neg (by omega)]))
      | (have HR := Lib.hid (show o = m + p.wd by rw [OM.out]; split <;> omega))
    all_goals go_wp2
    all_goals have h1 := H1.out
    all_goals have h2 := H2.out
    all_goals (refine wp_region_still_tail 7 (by kernel_rfl) (by kernel_rfl) ?_; simp only [List.take_succ_cons, List.take_zero, List.drop_succ_cons, List.drop_zero]; change wpStill _ _ w1.drew _ _ _)
    all_goals (repeat still_step)
    all_goals (still_call S1.out)
    all_goals (repeat still_step)
    all_goals (refine wpStill_nil ?_; change wpList _ _ _ _ _ w1.drew)
    all_goals clear h1 h2
    all_goals have LD := Lib.hid (lo_on L1.out (drew_below w1))
    all_goals generalize w1.drew = W3 at *
    all_goals go_wp2
    all_goals go_ret2
    all_goals exact ⟨by rw [HR.out]; rfl, LD.out⟩
  · have hb0 : pileB p = false := by simpa using hp
    rw [show overV p = 0 by unfold overV; rw [hb0]; rfl]
    rw [hb0] at D ⊢
    clear hv hs HV hp hb0
    obtain ⟨_, u0, u1, u2⟩ := BX.out
    go_enter Try.func37, Try.ntmps37
    go_wp2_with fail
    clear hW u0 u1 u2
    refine D.out.mono ?_
    rintro e w1 ⟨rfl, l1⟩
    have L1 := Lib.hid (lo_on LW.out l1)
    clear l1 D
    go_wp2
    go_ret2
    exact ⟨rfl, L1.out⟩
end Go.Proofs.Ytgdgiecajflmaaa
