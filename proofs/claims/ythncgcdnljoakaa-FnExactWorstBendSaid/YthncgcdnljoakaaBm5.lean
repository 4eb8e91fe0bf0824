/- The model's forces at all places of a beam. -/
import Derived.Test.YthncgcdnljoakaaBm4
import Derived.Test.YthncgcdnljoakaaBmQ
import Derived.Test.YthncgcdnljoakaaIntLaw
import Derived.Deep.RegionHeld3
namespace Go.Proofs.Ythncgcdnljoakaa
open Go.RowKit
theorem drw_below (w : World) : Below w.heap.size w w.drew := ⟨rfl, rfl, rfl, Nat.le_refl _, fun _ _ => rfl⟩
theorem drwN_below (w : World) (n : Nat) : Below w.heap.size w (w.drew.drewN n) := ⟨rfl, rfl, rfl, Nat.le_refl _, fun _ _ => rfl⟩
/-- The cells of one block read as a function. -/
def FcC (w : World) (g n : Nat) (f : Nat → Int) : Prop := (∀ j, j < n → w.cell? ⟨g, j, none⟩ = some (.int .i64 (f j))) ∧ ∀ j, w.frozen? ⟨g, j, none⟩ = false
theorem FcC.lo {w w' : World} {g n : Nat} {f : Nat → Int} (h : FcC w g n f) (hg : g < w.heap.size) (l : Below w.heap.size w w') : FcC w' g n f :=
  ⟨fun j hj => by rw [l.cell (p := ⟨g, j, none⟩) hg]; exact h.1 j hj, fun j => by rw [l.frozen (p := ⟨g, j, none⟩) hg]; exact h.2 j⟩
theorem FcC.set {w : World} {g n : Nat} {f f' : Nat → Int} (h : FcC w g n f) (i : Nat) (hi : i < n) (z : Int) (h1 : f' i = z) (h2 : ∀ j, j ≠ i → f' j = f j) : FcC (w.setCell ⟨g, i, none⟩ (.int .i64 z)) g n f' := by
  have ts := one_set w g i (.int .i64 z) (h.1 i hi)
  refine ⟨fun j hj => ?_, fun j => by rw [World.frozen?_setCell]; exact h.2 j⟩
  by_cases e : j = i
  · subst e; rw [ts.1, h1]
  · rw [ts.2 j e, h2 j e]; exact h.1 j hj
theorem FcC.mine {w : World} {B g n : Nat} {f : Nat → Int} (h : FcC w g n f) (hB : B ≤ g) (hg : g < w.heap.size) (c : Nat) : MineI w B w.heap.size (.slice (some ⟨g, 0, none⟩) n c) (rowOf f n) :=
  .inr ⟨g, c, by rw [rowOf_len], hB, hg, Nat.le_refl _, fun j hj => by rw [rowOf_len] at hj; rw [rowOf_at f n j hj]; exact h.1 j hj, h.2⟩
set_option maxRecDepth 100000 in
set_option maxHeartbeats 6400000 in
theorem l6Forces_any (p : BeamV) (L : Nat) (hL : p.l = (L : Int)) (v : Value) (xs : List (Int × Int)) (w : World) (hr : LoadRow w v xs) (hf : OnF p xs) :
    Calls Try.prog 130 #[.agg #[.int .i64 p.l, .int .i64 p.a, .int .i64 p.b], v] w fun e w' => ∃ u, e = .returned u ∧ MineI w' w.heap.size w'.heap.size u (rowOf (fun q : Nat => atL (q : Int) (fsF p xs)) (L + 1)) ∧ Below w.heap.size w w' := by
  have hb := rowF_bounds hf.row
  have h0 := hf.a0; have h1 := hf.ab; have h2 := hf.b1; have h3 := hf.l1
  have hlen := hf.row.short
  have m1 := hb.2.2.2 p.a (by omega) (by omega)
  have m2 := hb.2.2.2 p.b (by omega) (by omega)
  have MB := Lib.hid (fun w1 (l : Below w.heap.size w w1) => l2Moment_q v xs p.b w1 (hr.lo l) hf.row (by omega) (by omega))
  have MA := Lib.hid (fun w1 (l : Below w.heap.size w w1) => l2Moment_q v xs p.a w1 (hr.lo l) hf.row (by omega) (by omega))
  have HZ := Lib.hid (fun q => fsK_zero p xs h1 q)
  have HS := Lib.hid (fun k h q => fsK_at p xs k h q)
  have HE := Lib.hid (fun k q => fsK_bound hf k q)
  have HX := Lib.hid (fun x (hx : x ∈ xs) => show (0 ≤ x.1 ∧ x.1 ≤ p.l) ∧ 1 ≤ x.2 ∧ x.2 ≤ 99 from ⟨⟨(hf.row.each x hx).1.1, hf.on x hx⟩, (hf.row.each x hx).2⟩)
  rw [← fsK_all]
  clear hf hb
  generalize hfk : fsK p xs = F at *
  clear hfk
  generalize momF p.b xs = m at *
  generalize momF p.a xs = n at *
  obtain ⟨l, a, b⟩ := p
  simp only at *
  subst hL
  obtain ⟨A, rfl⟩ := Int.eq_ofNat_of_zero_le h0
  obtain ⟨Bn, rfl⟩ := Int.eq_ofNat_of_zero_le (show 0 ≤ b by omega)
  obtain ⟨av, c, rfl, hr⟩ := hr
  have HM := make_ints (L + 1) (by omega)
  rw [show ((L + 1 : Nat) : Int) = (L : Int) + 1 by omega] at HM
  obtain ⟨W, hW⟩ : ∃ W, w.alloc (.cells #[.int .i64 (L : Int), .int .i64 (A : Int), .int .i64 (Bn : Int)] 25) = W := ⟨_, rfl⟩
  have LW := Lib.hid (show Below w.heap.size w W by rw [← hW]; exact below_new _ _)
  have BX := Lib.hid (show Cel3 W w.heap.size (.int .i64 (L : Int)) (.int .i64 (A : Int)) (.int .i64 (Bn : Int)) by rw [← hW]; exact cel3_new _ _ _ _ _)
  have hws : w.heap.size < W.heap.size := BX.out.1
  obtain ⟨W2, hW2⟩ : ∃ W2, W.alloc (.cells (madeCells #[.int .i64 0] (L + 1)) 3) = W2 := ⟨_, rfl⟩
  have L2 := Lib.hid (show Below W.heap.size W W2 by rw [← hW2]; exact below_new _ _)
  have hs2 : W.heap.size + 1 ≤ W2.heap.size := by rw [← hW2]; simp
  have F2 := Lib.hid (show FcC W2 W.heap.size (L + 1) (fun _ => 0) from ⟨fun j hj => by rw [← hW2, World.cell?_alloc_at _ _ _ _ rfl]; exact made_int _ _ hj, fun j => by rw [← hW2]; exact World.frozen?_alloc_at _ _ _ _ rfl⟩)
  obtain ⟨_, u0, u1, u2⟩ := BX.out
  have hwm : IntKind.i64.wrap (-m) = -m := by rw [IntKind.wrap_i64]; omega
  have hAL : A < L + 1 := by omega
  have hBL : Bn < L + 1 := by omega
  have hAi : (A : Int) < (L : Int) + 1 := by omega
  have hBi : (Bn : Int) < (L : Int) + 1 := by omega
  obtain ⟨_, y0, y1, y2⟩ := BX.out.lo L2.out
  have z1 := F2.out.1 A hAL
  have f1 := F2.out.2 A
  go_enter Try.func130, Try.ntmps130
  go_wp2_with fail
  clear hW2 hW HM u0 u1 u2
  go_region_held3 (fun w' => w'.cell? ⟨w.heap.size, 1, none⟩ = some (.int .i64 (A : Int)) ∧ w'.cell? ⟨w.heap.size, 2, none⟩ = some (.int .i64 (Bn : Int)))
    (first | exact ⟨y1, y2⟩ | exact ⟨(World.cell?_setCell_other _ _ _ _ (fun h => by have := congrArg Addr.block h; simp only at this; omega)).trans y1, (World.cell?_setCell_other _ _ _ _ (fun h => by have := congrArg Addr.block h; simp only at this; omega)).trans y2⟩ | go_keep)
    (first
      | (go_at_call 84; refine (MB.out W2.drew (lo_on (lo_on LW.out L2.out) (drw_below W2))).mono ?_; rintro e5 v5 ⟨rfl, d5, hv5⟩
         have L5 := Lib.hid (show Below W.heap.size W v5 by rw [hv5]; exact lo_on L2.out (drwN_below W2 d5))
         have hs5 : W.heap.size + 1 ≤ v5.heap.size := by rw [hv5]; exact hs2
         have F5 := Lib.hid (show FcC v5 W.heap.size (L + 1) (fun _ => 0) by rw [hv5]; exact F2.out.lo (by omega) (drwN_below W2 d5))
         clear y0 y1 y2 z1 f1
         obtain ⟨_, y0, y1, y2⟩ := BX.out.lo L5.out
         have z1 := F5.out.1 A hAL
         have f1 := F5.out.2 A
         clear hv5))
  obtain ⟨W3, hW3⟩ : ∃ W3, v5.setCell ⟨W.heap.size, A, none⟩ (.int .i64 (-m)) = W3 := ⟨_, rfl⟩
  have L3 := Lib.hid (show Below W.heap.size W W3 by rw [← hW3]; exact L5.out.setCell (p := ⟨W.heap.size, A, none⟩) (Nat.le_refl _) _)
  have hs3 : W.heap.size + 1 ≤ W3.heap.size := by rw [← hW3]; simpa using hs5
  have F3 := Lib.hid (show FcC W3 W.heap.size (L + 1) (fun j => if j = A then -m else 0) by rw [← hW3]; exact F5.out.set A hAL (-m) (by simp) (fun j hj => by simp [hj]))
  rw [hW3]
  clear hW3 y0 y1 y2 z1 f1 L5 hs5 F5 MB hwm hAL hAi L2 hs2 F2
  obtain ⟨_, y0, y1, y2⟩ := BX.out.lo L3.out
  have z1 := F3.out.1 Bn hBL
  have f1 := F3.out.2 Bn
  go_wp2_with fail
  go_region_held3 (fun w' => w'.cell? ⟨w.heap.size, 1, none⟩ = some (.int .i64 (A : Int)) ∧ w'.cell? ⟨w.heap.size, 2, none⟩ = some (.int .i64 (Bn : Int)))
    (first | exact ⟨y1, y2⟩ | exact ⟨(World.cell?_setCell_other _ _ _ _ (fun h => by have := congrArg Addr.block h; simp only at this; omega)).trans y1, (World.cell?_setCell_other _ _ _ _ (fun h => by have := congrArg Addr.block h; simp only at this; omega)).trans y2⟩ | go_keep)
    (first
      | (go_at_call 84; refine (MA.out W3.drew (lo_on (lo_on LW.out L3.out) (drw_below W3))).mono ?_; rintro e6 v6 ⟨rfl, d6, hv6⟩
         have L6 := Lib.hid (show Below W.heap.size W v6 by rw [hv6]; exact lo_on L3.out (drwN_below W3 d6))
         have hs6 : W.heap.size + 1 ≤ v6.heap.size := by rw [hv6]; exact hs3
         have F6 := Lib.hid (show FcC v6 W.heap.size (L + 1) (fun j => if j = A then -m else 0) by rw [hv6]; exact F3.out.lo (by omega) (drwN_below W3 d6))
         clear y0 y1 y2 z1 f1
         obtain ⟨_, y0, y1, y2⟩ := BX.out.lo L6.out
         have z1 := F6.out.1 Bn hBL
         have f1 := F6.out.2 Bn
         clear hv6))
  obtain ⟨W4, hW4⟩ : ∃ W4, v6.setCell ⟨W.heap.size, Bn, none⟩ (.int .i64 n) = W4 := ⟨_, rfl⟩
  have L4 := Lib.hid (show Below W.heap.size W W4 by rw [← hW4]; exact L6.out.setCell (p := ⟨W.heap.size, Bn, none⟩) (Nat.le_refl _) _)
  have hs4 : W.heap.size + 1 ≤ W4.heap.size := by rw [← hW4]; simpa using hs6
  have F4 := Lib.hid (show FcC W4 W.heap.size (L + 1) (fun j => atL (j : Int) (F 0)) by
    rw [← hW4]
    refine F6.out.set Bn hBL n ?_ (fun j hj => ?_)
    · rw [HZ.out, if_pos rfl]
    · rw [HZ.out, if_neg (by omega)]
      by_cases e : j = A
      · subst e; rw [if_pos rfl, if_pos rfl]
      · rw [if_neg (by omega), if_neg e])
  rw [hW4]
  clear hW4 y0 y1 y2 z1 f1 L6 hs6 F6 MA L3 hs3 F3 HZ hBi
  go_wp2
  go_loopw [6] (fun i wr => ∃ k : Nat, k ≤ xs.length ∧ i = .int .i64 k ∧ Hid (FcC wr W.heap.size (L + 1) (fun j => atL (j : Int) (F k))) ∧ Hid (Below W.heap.size W wr) ∧ W.heap.size + 1 ≤ wr.heap.size) (fun i _ => xs.length - (intOf i).toNat)
  case atStart => exact ⟨0, Nat.zero_le _, rfl, F4, L4, hs4⟩
  case round =>
    obtain ⟨k, hk, rfl, HF, HB, hs5⟩ := hrel
    clear F4 L4 hs4
    by_cases hlt : k < xs.length
    · rcases hr with h | ⟨g, off, rfl, hg, hc⟩
      · subst h; simp at hlt
      obtain ⟨h1, h2⟩ := hc k hlt
      rw [← (lo_on LW.out HB.out).cell (p := ⟨g, off + k * 2, none⟩) hg] at h1
      rw [← (lo_on LW.out HB.out).cell (p := ⟨g, off + k * 2 + 1, none⟩) hg] at h2
      have hlt' : (k : Int) < (xs.length : Int) := by omega
      have hx := HX.out _ (mem_getD hlt)
      have HSk := Lib.hid (HS.out k hlt)
      have HBk := Lib.hid (fun q => (HE.out k q).1)
      have HBk2 := Lib.hid (fun q => (HE.out k q).2)
      generalize xs.getD k (0, 0) = x at h1 h2 hx HSk
      obtain ⟨x, q⟩ := x
      simp only at h1 h2 hx HSk
      obtain ⟨⟨x0, x1⟩, q0, q1⟩ := hx
      obtain ⟨X, rfl⟩ := Int.eq_ofNat_of_zero_le x0
      have hXL : X < L + 1 := by omega
      have hXi : (X : Int) < (L : Int) + 1 := by omega
      obtain ⟨_, y0, y1, y2⟩ := BX.out.lo HB.out
      have z1 := HF.out.1 X hXL
      have f1 := HF.out.2 X
      have b0 := HBk.out (X : Int)
      have b1 := HBk2.out (X : Int)
      have hfx := HSk.out (X : Int)
      rw [if_pos rfl] at hfx
      have t0 : 0 ≤ ((Bn : Int) - A) * q := Int.mul_nonneg (by omega) (by omega)
      have t1 : ((Bn : Int) - A) * q ≤ 60 * q := Int.mul_le_mul_of_nonneg_right (by omega) (by omega)
      obtain ⟨y, hy⟩ : ∃ y, atL (X : Int) (F k) = y := ⟨_, rfl⟩
      simp only [hy] at z1 b0 b1 hfx
      rw [Int.neg_mul, Int.mul_comm q] at hfx
      have HFX := Lib.hid hfx
      have hd0 : -9223372036854775808 ≤ (Bn : Int) - A := by omega
      have hd1 : (Bn : Int) - A ≤ 9223372036854775807 := by omega
      obtain ⟨t, ht⟩ : ∃ t, ((Bn : Int) - A) * q = t := ⟨_, rfl⟩
      have T0 : -9223372036854775808 ≤ ((Bn : Int) - A) * q := by omega
      have T1 : ((Bn : Int) - A) * q ≤ 9223372036854775807 := by omega
      have U0 : -9223372036854775808 ≤ y - ((Bn : Int) - A) * q := by omega
      have U1 : y - ((Bn : Int) - A) * q ≤ 9223372036854775807 := by omega
      clear hy hfx hc ht
      go_wp2
      go_still_tail 27, (by kernel_rfl)
      have DR := Lib.hid (drw_below wr)
      have FD := Lib.hid (HF.out.lo (by omega) DR.out)
      have LD := Lib.hid (lo_on HB.out DR.out)
      have hsd : W.heap.size + 1 ≤ wr.drew.heap.size := hs5
      change wpList _ _ _ _ _ wr.drew
      have g1 : wr.drew.cell? ⟨g, off + k * 2, none⟩ = _ := h1
      have g2 : wr.drew.cell? ⟨g, off + k * 2 + 1, none⟩ = _ := h2
      have g3 : wr.drew.cell? ⟨w.heap.size, 1, none⟩ = _ := y1
      have g4 : wr.drew.cell? ⟨w.heap.size, 2, none⟩ = _ := y2
      have g5 : wr.drew.cell? ⟨W.heap.size, X, none⟩ = _ := z1
      have g6 : wr.drew.frozen? ⟨W.heap.size, X, none⟩ = false := f1
      clear h1 h2 y0 y1 y2 z1 f1 HF HB hs5 DR
      generalize wr.drew = wd at *
      go_wp2
      go_roundw
      case rel =>
        refine ⟨k + 1, by omega, by go_num, Lib.hid (FD.out.set X hXL _ ?_ (fun j hj => ?_)), Lib.hid (LD.out.setCell (p := ⟨W.heap.size, X, none⟩) (Nat.le_refl _) _), by simpa using hsd⟩
        · rw [HFX.out]; omega
        · rw [HSk.out, if_neg (by omega)]; omega
      case measure => simp [intOf]; omega
    · obtain rfl : k = xs.length := by omega
      have hge : ¬ (xs.length : Int) < (xs.length : Int) := by omega
      have M := Lib.hid (HF.out.mine (B := w.heap.size) (by omega) (by omega) (L + 1))
      go_wp2
      go_ret
      exact ⟨_, rfl, M.out, lo_on LW.out HB.out⟩
end Go.Proofs.Ythncgcdnljoakaa
