/- The contract of the draw of a row. -/
import Derived.Test.YtjchmjbgboeolaaRowDraw1
namespace Go.Proofs.Ytjchmjbgboeolaa
open Go.RowKit
theorem l1Least_any (a b : Int) (w : World) : Calls Try.prog 70 #[.int .i64 a, .int .i64 b] w fun e w' => e = .returned (.int .i64 (if a < b then a else b)) ∧ w = w' := by
  by_cases h : a < b
  all_goals go_enter Try.func70, Try.ntmps70
  all_goals go_wp2
  all_goals go_ret
  all_goals exact ⟨rfl, rfl⟩
/-- What a draw of a row ends in: a row in memory of the draw's own. -/
def RowEnd (C : Nat) (a : Option Addr) (len cap p k : Nat) (w : World) (e : Ending) (w' : World) : Prop :=
  ∃ (v : Value) (xs : List (Int × Int)) (seed' : Int) (p' : Nat), e = .returned v ∧ OwnL w' w.heap.size v xs ∧ v ≠ .slice none 0 0 ∧ xs.length ≤ 13 ∧ p' ≤ p + k ∧ Dr w' C a len cap p' seed' ∧ Only C w w'
def Few (t : Int) : Prop := 0 ≤ t ∧ t ≤ 12
theorem few7 : ∀ j, j < 7 → ∃ z, (#[.int .i64 3, .int .i64 2, .int .i64 4, .int .i64 1, .int .i64 0, .int .i64 6, .int .i64 12] : Array Value)[j]? = some (.int .i64 z) ∧ Few z := by
  intro j hj
  have : j = 0 ∨ j = 1 ∨ j = 2 ∨ j = 3 ∨ j = 4 ∨ j = 5 ∨ j = 6 := by omega
  rcases this with rfl | rfl | rfl | rfl | rfl | rfl | rfl <;> exact ⟨_, rfl, by unfold Few; omega⟩
theorem any4 {x0 x1 x2 x3 : Int} : ∀ j, j < 4 → ∃ z, (#[.int .i64 x0, .int .i64 x1, .int .i64 x2, .int .i64 x3] : Array Value)[j]? = some (.int .i64 z) ∧ True := by
  intro j hj
  have : j = 0 ∨ j = 1 ∨ j = 2 ∨ j = 3 := by omega
  rcases this with rfl | rfl | rfl | rfl <;> exact ⟨_, rfl, trivial⟩
theorem only_grown {w w1 w2 : World} {C : Nat} {o : Obj} {row : Option Nat} (h : Only C w w1) (hg : (w1.alloc o).grownBy w2 row) (hr : ∀ q, row = some q → w.heap.size ≤ q) : Only C w w2 := by
  refine ⟨hg.os.trans h.os, hg.tape.trans h.tape, hg.output.trans h.output, ?_, fun k hk hlt => ?_⟩
  · have := hg.size; have := h.size; simp at *; omega
  · have h1 : k < w1.heap.size := Nat.lt_of_lt_of_le hlt h.size
    rw [hg.block k (by simp; omega) (fun e => by have := hr k e.symm; omega), ← h.block k hk hlt]
    exact (lo_alloc w1 o).block k h1
theorem Dr.grown {w1 w2 : World} {C : Nat} {a : Option Addr} {len cap p B : Nat} {seed : Int} {o : Obj} {row : Option Nat} (h : Dr w1 C a len cap p seed) (hC : C < B) (hg : (w1.alloc o).grownBy w2 row) (hr : ∀ q, row = some q → B ≤ q) : Dr w2 C a len cap p seed := by
  have l : Below (C + 1) w1 w2 := by
    have hc := curC h.cur
    refine ⟨hg.os, hg.tape, hg.output, ?_, fun k hk => ?_⟩
    · have := hg.size; simp at this; omega
    · rw [hg.block k (by simp; omega) (fun e => by have := hr k e.symm; omega)]
      exact (lo_alloc w1 o).block k (by omega)
  have c := h.cur
  refine ⟨⟨?_, ?_, ?_, ?_, ?_⟩, h.code.on l (Nat.le_succ C)⟩
  · rw [l.cell (p := ⟨C, 0, none⟩) (Nat.lt_succ_self C)]; exact c.code
  · rw [l.cell (p := ⟨C, 1, none⟩) (Nat.lt_succ_self C)]; exact c.place
  · rw [l.cell (p := ⟨C, 2, none⟩) (Nat.lt_succ_self C)]; exact c.seed
  · rw [l.frozen (p := ⟨C, 1, none⟩) (Nat.lt_succ_self C)]; exact c.free1
  · rw [l.frozen (p := ⟨C, 2, none⟩) (Nat.lt_succ_self C)]; exact c.free2
theorem Dr.set {w1 : World} {C : Nat} {a : Option Addr} {len cap p B : Nat} {seed : Int} (h : Dr w1 C a len cap p seed) (hC : C < B) {g : Nat} (hg : B ≤ g) (j : Nat) (x : Value) : Dr (w1.setCell ⟨g, j, none⟩ x) C a len cap p seed := by
  have l : Below (C + 1) w1 (w1.setCell ⟨g, j, none⟩ x) := (Below.refl _ _).setCell (p := ⟨g, j, none⟩) (by simp; omega) x
  have c := h.cur
  refine ⟨⟨?_, ?_, ?_, ?_, ?_⟩, h.code.on l (Nat.le_succ C)⟩
  · rw [l.cell (p := ⟨C, 0, none⟩) (Nat.lt_succ_self C)]; exact c.code
  · rw [l.cell (p := ⟨C, 1, none⟩) (Nat.lt_succ_self C)]; exact c.place
  · rw [l.cell (p := ⟨C, 2, none⟩) (Nat.lt_succ_self C)]; exact c.seed
  · rw [l.frozen (p := ⟨C, 1, none⟩) (Nat.lt_succ_self C)]; exact c.free1
  · rw [l.frozen (p := ⟨C, 2, none⟩) (Nat.lt_succ_self C)]; exact c.free2
theorem only_set_own {w w1 : World} {C g : Nat} (h : Only C w w1) (hg : w.heap.size ≤ g) (j : Nat) (x : Value) : Only C w (w1.setCell ⟨g, j, none⟩ x) := by
  have l : Below w.heap.size w1 (w1.setCell ⟨g, j, none⟩ x) := (Below.refl _ _).setCell (p := ⟨g, j, none⟩) hg x
  exact ⟨l.os.trans h.os, l.tape.trans h.tape, l.output.trans h.output, Nat.le_trans h.size l.size, fun k hk hlt => (l.block k hlt).trans (h.block k hk hlt)⟩
def lenOf : Value → Nat
  | .slice _ n _ => n
  | _ => 0
/-- The loop that fills a row. -/
def FillAt (C : Nat) (a : Option Addr) (len cap p : Nat) (sd : Int) (B : Nat) (w : World) (v : Value) (wr : World) : Prop :=
  ∃ xs : List (Int × Int), OwnL wr B v xs ∧ v ≠ .slice none 0 0 ∧ xs.length ≤ 13 ∧ Dr wr C a len cap p sd ∧ Only C w wr
/-- The loop over the loads that are drawn. -/
def DrawnAt (C : Nat) (a : Option Addr) (len cap p B : Nat) (w : World) (v : Value) (n : Value) (wr : World) : Prop :=
  ∃ (xs : List (Int × Int)) (m : Nat) (seed' : Int) (p' : Nat), n = .int .i64 m ∧ xs.length + m ≤ 12 ∧ OwnL wr B v xs ∧ v ≠ .slice none 0 0 ∧ p' ≤ p + 2 + 8 * xs.length ∧ Dr wr C a len cap p' seed' ∧ Only C w wr
set_option maxRecDepth 100000 in
set_option maxHeartbeats 3200000 in
theorem someRow_any (C : Nat) (a : Option Addr) (len cap p : Nat) (seed : Int) (w : World) (h : Dr w C a len cap p seed) (hp : p ≤ 500000) :
    Calls Try.prog 60 #[.pointer (some ⟨C, 0, none⟩), .int .i64 12] w (RowEnd C a len cap p 200 w) := by
  obtain ⟨i0, hi, hz0, hz1, hz2⟩ := info_parts infoLoad
  have hC := curC h.cur
  have H0 := Lib.hid (h.lo (lo_alloc w (.cells #[] 46)))
  have O0 := Lib.hid (Only.of_lo (C := C) (lo_alloc w (.cells #[] 46)))
  have R0 := Lib.hid (show OwnL (w.alloc (.cells #[] 46)) w.heap.size (.slice (some ⟨w.heap.size, 0, none⟩) 0 0) [] from own_empty w)
  have A0 := among_new C a len cap p 7 seed (w.alloc (.cells #[] 46)) (#[.int .i64 3, .int .i64 2, .int .i64 4, .int .i64 1, .int .i64 0, .int .i64 6, .int .i64 12]) 3 Few H0.out (by omega) (by omega) (by omega) few7
  rw [show (w.alloc (.cells #[] 46)).heap.size = w.heap.size + 1 by simp] at A0
  have A1 := Lib.hid A0
  clear h A0
  go_enter Try.func60, Try.ntmps60
  go_wp2_with fail
  refine A1.out.mono ?_
  rintro e w1 ⟨t, s1, p1, rfl, ⟨t0, t1⟩, hp1, d1, b1⟩
  have D1 := Lib.hid d1
  have B1 := Lib.hid (O0.out.trans b1)
  have R1 := Lib.hid (R0.out.only b1 hC)
  clear d1 b1 H0 O0 R0 A1
  go_wp2_with fail
  refine (l1Least_any t 12 w1).mono ?_
  rintro e w' ⟨rfl, rfl⟩
  obtain ⟨m, hm⟩ : ∃ m : Nat, (if t < 12 then t else 12) = (m : Int) := by
    split
    · exact ⟨t.toNat, by omega⟩
    · exact ⟨12, rfl⟩
  have hm12 : m ≤ 12 := by split at hm <;> omega
  rw [hm]
  clear hm
  go_wp2
  go_loopw [5, 6] (fun v n wr => DrawnAt C a len cap p w.heap.size w v n wr) (fun _ n _ => (intOf n).toNat)
  case atStart => exact ⟨[], m, s1, p1, rfl, by simpa using hm12, R1.out, by simp, by simpa using hp1, D1.out, B1.out⟩
  case round =>
    obtain ⟨xs, m, sd, pk, rfl, hlm, hown, hnn, hpk, hd, ho⟩ := hrel
    clear D1 B1 R1 hp1 hm12
    have HO := Lib.hid hown
    have HN := Lib.hid hnn
    have HD := Lib.hid hd
    have HT := Lib.hid ho
    clear hown hnn hd ho
    cases m with
    | succ m =>
      have hgt : (0 : Int) < ((m + 1 : Nat) : Int) := by omega
      obtain ⟨M, hM⟩ : ∃ M, M = m + 1 := ⟨_, rfl⟩
      rw [← hM] at hgt hlm ⊢
      have hM1 : (M : Int) - 1 = (m : Int) := by omega
      have hM2 : (M : Int) ≤ 12 := by omega
      have HM := Lib.hid hM
      have hxl : xs.length ≤ 11 := by omega
      clear hM
      go_wp2_with fail
      refine (among_new C a len cap pk 4 sd wr _ _ Size HD.out (by omega) (by omega) (by omega) sizes4).mono ?_
      rintro e w2 ⟨t2, s2, p2, rfl, ⟨t20, t21⟩, hp2, d2, b2⟩
      have PK := Lib.hid (pick_num C a len cap p2 s2 t2 w2 d2 (by omega) t20 (by omega))
      have B2 := Lib.hid b2
      clear d2 b2
      go_wp2_with fail
      refine PK.out.mono ?_
      rintro e w3 ⟨x, s3, p3, rfl, ⟨x0, x1⟩, hp3, d3, b3⟩
      have D3 := Lib.hid d3
      have B3 := Lib.hid (B2.out.trans b3)
      clear d3 b3 PK B2
      go_wp2_with fail
      refine (among_new C a len cap p3 3 s3 w3 _ _ Size D3.out (by omega) (by omega) (by omega) sizes3).mono ?_
      rintro e w4 ⟨t4, s4, p4, rfl, ⟨t40, t41⟩, hp4, d4, b4⟩
      have PK := Lib.hid (pick_num C a len cap p4 s4 t4 w4 d4 (by omega) t40 (by omega))
      have B4 := Lib.hid (B3.out.trans b4)
      clear d4 b4 D3 B3
      go_wp2_with fail
      refine PK.out.mono ?_
      rintro e w5 ⟨y, s5, p5, rfl, ⟨y0, y1⟩, hp5, d5, b5⟩
      have D5 := Lib.hid d5
      have B5 := Lib.hid (B4.out.trans b5)
      have oW := HO.out.only B5.out hC
      unfold OwnL at oW
      have hw5 : w.heap.size ≤ w5.heap.size := (HT.out.trans B5.out).size
      clear d5 b5 PK B4
      go_wp2_with (at_builtin; refine wpList_append_own _ rfl _ _ 24 rfl w.heap.size 46 i0 (.agg #[.int .i64 0, .int .i64 0]) 2 16 Try.underlying24 hi hz0 hz1 hz2 rfl (by decide) _ _ _ rfl (oW.alloc _) ⟨w5.heap.size, 0, none⟩ 1 1 (cellsF [(x, 1 + y)]) rfl rfl (two_new w5 x (1 + y) _) (cellsF_one [(x, 1 + y)]) (by unfold maxLen; omega) (by omega) (by simp; omega) ?_; intro v6 w6 hown6 hgrow6 hnil6)
      have R6 := Lib.hid (show OwnL w6 w.heap.size v6 (xs ++ [(x, 1 + y)]) from ownL_app hown6 rfl rfl)
      have N6 := Lib.hid (show v6 ≠ .slice none 0 0 from fun h => absurd (hnil6.1 h).2 (by decide))
      have D6 := Lib.hid (D5.out.grown hC hgrow6 (fun q hq => (oW.lt q hq).1))
      have T6 := Lib.hid (only_grown (HT.out.trans B5.out) hgrow6 (fun q hq => (oW.lt q hq).1))
      clear hown6 hgrow6 hnil6 oW
      go_wp2
      go_roundw
      case rel => exact ⟨xs ++ [(x, 1 + y)], m, s5, p5, rfl, by have := HM.out; simp; omega, R6.out, N6.out, by simp; omega, D6.out, T6.out⟩
      case measure => simp [intOf]; have := HM.out; omega
    | zero =>
      have hgt : ¬ (0 : Int) < ((0 : Nat) : Int) := by omega
      have hlm' : xs.length ≤ 12 := by omega
      have hown := HO.out
      unfold OwnL at hown
      rcases hown.2 with ⟨hv, _⟩ | ⟨gb, cb, cu, rfl, hgbB, _⟩
      · exact absurd hv HN.out
      clear hown
      by_cases hx0 : xs.length = 0
      · obtain rfl : xs = [] := List.length_eq_zero_iff.1 hx0
        have HO' := Lib.hid (show OwnL wr w.heap.size (.slice (some ⟨gb, 0, none⟩) 0 cb) [] from HO.out)
        go_wp2
        go_ret
        exact ⟨_, [], sd, pk, rfl, HO'.out, by simp, by simp, by omega, HD.out, HT.out⟩
      · have hx1 : (0 : Int) < (xs.length : Int) := by omega
        have P60 := Lib.hid (pick_num C a len cap pk sd 60 wr HD.out (by omega) (by omega) (by omega))
        go_wp2_with fail
        refine P60.out.mono ?_
        rintro e w2 ⟨t, s2, p2, rfl, ⟨t0, t1⟩, hp2, d2, b2⟩
        have D2 := Lib.hid d2
        have B2 := Lib.hid b2
        have PK := Lib.hid (pick_num C a len cap p2 s2 (xs.length : Int) w2 d2 (by omega) (by omega) (by omega))
        clear d2 b2 P60
        by_cases h0 : t = 0
        · subst h0
          go_wp2_with fail
          refine PK.out.mono ?_
          rintro e w3 ⟨u, s3, p3, rfl, ⟨u0, u1⟩, hp3, d3, b3⟩
          obtain ⟨k, rfl⟩ := Int.eq_ofNat_of_zero_le u0
          have hku : (k : Int) < (xs.length : Int) := u1
          have hkx : k < xs.length := by omega
          have D3 := Lib.hid d3
          have B3 := Lib.hid (B2.out.trans b3)
          clear d3 b3 PK
          go_wp2_with fail
          refine (among_new C a len cap p3 4 s3 w3 _ _ (fun _ => True) D3.out (by omega) (by omega) (by omega) any4).mono ?_
          rintro e w4 ⟨t4, s4, p4, rfl, _, hp4, d4, b4⟩
          have D4 := Lib.hid d4
          have B4 := Lib.hid (B3.out.trans b4)
          have oW := HO.out.only B4.out hC
          unfold OwnL at oW
          have z1 : w4.cell? ⟨gb, k * 2, none⟩ = some (.int .i64 (xs.getD k (0, 0)).1) := (oW.cellAt (k * 2) (by omega)).trans (cellsF_at xs k hkx).1
          have f1 := oW.frozenAt (k * 2)
          have st := (oW.stored (k * 2) (.int .i64 t4)).1
          rw [cellsF_set1 xs k _ hkx] at st
          have R4 := Lib.hid (show OwnL (w4.setCell ⟨gb, k * 2, none⟩ (.int .i64 t4)) w.heap.size (.slice (some ⟨gb, 0, none⟩) xs.length cb) (xs.set k (t4, (xs.getD k (0, 0)).2)) by
            unfold OwnL
            rw [List.length_set]
            exact st)
          have D5 := Lib.hid (D4.out.set hC hgbB (k * 2) (.int .i64 t4))
          have T5 := Lib.hid (only_set_own (HT.out.trans B4.out) hgbB (k * 2) (.int .i64 t4))
          clear d4 b4 D3 B3 oW st
          go_wp2
          go_ret
          exact ⟨_, _, s4, p4, rfl, R4.out, by simp, by rw [List.length_set]; omega, by omega, D5.out, T5.out⟩
        by_cases h1 : t = 1
        · subst h1
          go_wp2_with fail
          refine PK.out.mono ?_
          rintro e w3 ⟨u, s3, p3, rfl, ⟨u0, u1⟩, hp3, d3, b3⟩
          obtain ⟨k, rfl⟩ := Int.eq_ofNat_of_zero_le u0
          have hku : (k : Int) < (xs.length : Int) := u1
          have hkx : k < xs.length := by omega
          have D3 := Lib.hid d3
          have B3 := Lib.hid (B2.out.trans b3)
          clear d3 b3 PK
          go_wp2_with fail
          refine (among_new C a len cap p3 4 s3 w3 _ _ (fun _ => True) D3.out (by omega) (by omega) (by omega) any4).mono ?_
          rintro e w4 ⟨t4, s4, p4, rfl, _, hp4, d4, b4⟩
          have D4 := Lib.hid d4
          have B4 := Lib.hid (B3.out.trans b4)
          have oW := HO.out.only B4.out hC
          unfold OwnL at oW
          have z1 : w4.cell? ⟨gb, k * 2 + 1, none⟩ = some (.int .i64 (xs.getD k (0, 0)).2) := (oW.cellAt (k * 2 + 1) (by omega)).trans (cellsF_at xs k hkx).2
          have f1 := oW.frozenAt (k * 2 + 1)
          have st := (oW.stored (k * 2 + 1) (.int .i64 t4)).1
          rw [cellsF_set2 xs k _ hkx] at st
          have R4 := Lib.hid (show OwnL (w4.setCell ⟨gb, k * 2 + 1, none⟩ (.int .i64 t4)) w.heap.size (.slice (some ⟨gb, 0, none⟩) xs.length cb) (xs.set k ((xs.getD k (0, 0)).1, t4)) by
            unfold OwnL
            rw [List.length_set]
            exact st)
          have D5 := Lib.hid (D4.out.set hC hgbB (k * 2 + 1) (.int .i64 t4))
          have T5 := Lib.hid (only_set_own (HT.out.trans B4.out) hgbB (k * 2 + 1) (.int .i64 t4))
          clear d4 b4 D3 B3 oW st
          go_wp2
          go_ret
          exact ⟨_, _, s4, p4, rfl, R4.out, by simp, by rw [List.length_set]; omega, by omega, D5.out, T5.out⟩
        have h0b : (t == 0) = false := by simpa using h0
        have h1b : (t == 1) = false := by simpa using h1
        by_cases h2 : t = 2
        · subst h2
          have oW := Lib.hid (HO.out.only B2.out hC)
          have TW := Lib.hid (HT.out.trans B2.out)
          clear PK
          go_wp2
          go_loopw [5] (fun v wl => FillAt C a len cap p2 s2 w.heap.size w v wl) (fun v _ => 13 - lenOf v)
          case atStart => exact ⟨xs, oW.out, by simp, by omega, D2.out, TW.out⟩
          case round =>
            obtain ⟨ys, hown, hnn, hl13, hd, ho⟩ := hrel
            obtain ⟨gy, cy, rfl⟩ : ∃ gy cy, u5 = .slice (some ⟨gy, 0, none⟩) ys.length cy := by
              have hh := hown
              unfold OwnL at hh
              rcases hh.2 with ⟨hv, _⟩ | ⟨gb, cb, cu, rfl, _⟩
              · exact absurd hv hnn
              · exact ⟨gb, cb, rfl⟩
            have HY := Lib.hid hown
            have HD2 := Lib.hid hd
            have HT2 := Lib.hid ho
            have hwl : w.heap.size ≤ wr.heap.size := ho.size
            unfold OwnL at hown
            clear hd ho oW TW
            by_cases hy : ys.length < 13
            · have hy' : (ys.length : Int) < 13 := by omega
              go_wp2_with (at_builtin; refine wpList_append_own _ rfl _ _ 24 rfl w.heap.size 46 i0 (.agg #[.int .i64 0, .int .i64 0]) 2 16 Try.underlying24 hi hz0 hz1 hz2 rfl (by decide) _ _ _ rfl (hown.alloc _) ⟨wr.heap.size, 0, none⟩ 1 1 (cellsF [(5, 1)]) rfl rfl (two_new wr 5 1 _) (cellsF_one [(5, 1)]) (by unfold maxLen; omega) (by omega) (by simp; omega) ?_; intro v6 w6 hown6 hgrow6 hnil6)
              have R6 := Lib.hid (show OwnL w6 w.heap.size v6 (ys ++ [(5, 1)]) from ownL_app hown6 rfl rfl)
              have N6 := Lib.hid (show v6 ≠ .slice none 0 0 from fun h => absurd (hnil6.1 h).2 (by decide))
              have D6 := Lib.hid (HD2.out.grown hC hgrow6 (fun q hq => (hown.lt q hq).1))
              have T6 := Lib.hid (only_grown HT2.out hgrow6 (fun q hq => (hown.lt q hq).1))
              have LN := Lib.hid (show lenOf v6 = ys.length + 1 by
                rcases hown6.2 with ⟨rfl, h0⟩ | ⟨gz, cz, cu, rfl, _⟩
                · omega
                · rfl)
              clear hown6 hgrow6 hnil6 hown
              go_wp2
              go_roundw
              case rel => exact ⟨ys ++ [(5, 1)], R6.out, N6.out, by simp; omega, D6.out, T6.out⟩
              case measure => show 13 - lenOf v6 < 13 - ys.length; rw [LN.out]; omega
            · have hy' : ¬ (ys.length : Int) < 13 := by omega
              clear hown
              go_wp2
              go_ret
              exact ⟨_, ys, s2, p2, rfl, HY.out, by simp, by omega, by omega, HD2.out, HT2.out⟩
        · have h2b : (t == 2) = false := by simpa using h2
          have oW := Lib.hid (HO.out.only B2.out hC)
          have TW := Lib.hid (HT.out.trans B2.out)
          clear PK h0 h1 h2
          go_wp2
          go_ret
          exact ⟨_, xs, s2, p2, rfl, oW.out, by simp, by omega, by omega, D2.out, TW.out⟩
end Go.Proofs.Ytjchmjbgboeolaa
