/- The contracts of the program's ShearTimes, BendTimes and GreatestBend. -/
import Derived.Test.YthncgcdnljoakaaBi1
import Derived.Test.YthncgcdnljoakaaBm5
import Derived.Test.YthncgcdnljoakaaBm8
namespace Go.Proofs.Ythncgcdnljoakaa
open Go.RowKit
theorem FcC.low {w w' : World} {g n : Nat} {f : Nat → Int} (h : FcC w g n f) (hg : g < w.heap.size) (l : Below w.heap.size w w') : FcC w' g n f := h.lo hg l
set_option maxHeartbeats 800000 in
theorem atPl_no (c : Int) (p : BeamV) (v u : Value) (xs : List (Int × Int)) (w : World) (hr : LoadRow w v xs) (hf : onB p xs = false) :
    Calls Try.prog 87 #[.int .i64 c, .agg #[.int .i64 p.l, .int .i64 p.a, .int .i64 p.b], v, u] w fun e w' => e = .returned (.tuple #[.slice none 0 0, .bool false]) ∧ Below w.heap.size w w' := by
  have C := Lib.hid (fun w1 (l : Below w.heap.size w w1) => isOn_is p v xs false hf w1 (hr.lo l))
  clear hr hf
  obtain ⟨l, a, b⟩ := p
  simp only at C ⊢
  obtain ⟨W, hW⟩ : ∃ W, w.alloc (.cells #[.int .i64 l, .int .i64 a, .int .i64 b] 25) = W := ⟨_, rfl⟩
  have LW := Lib.hid (show Below w.heap.size w W by rw [← hW]; exact below_new _ _)
  have BX := Lib.hid (show Cel3 W w.heap.size (.int .i64 l) (.int .i64 a) (.int .i64 b) by rw [← hW]; exact cel3_new _ _ _ _ _)
  obtain ⟨_, u0, u1, u2⟩ := BX.out
  go_enter Try.func87, Try.ntmps87
  go_wp2_with fail
  clear hW
  refine (C.out W LW.out).mono ?_
  rintro e w1 ⟨rfl, l1⟩
  go_wp2
  go_ret2
  exact ⟨rfl, lo_on LW.out l1⟩
set_option maxRecDepth 100000 in
set_option maxHeartbeats 3200000 in
theorem shearTimesAt_yes (n : Nat) (hn : n ≤ 61) (p : BeamV) (v : Value) (xs : List (Int × Int)) (w : World) (hr : LoadRow w v xs) (hf : OnF p xs) :
    Calls Try.prog 87 #[.int .i64 (n : Int), .agg #[.int .i64 p.l, .int .i64 p.a, .int .i64 p.b], v, .func (.func 88) #[] #[]] w fun e w' => ∃ u, e = .returned (.tuple #[u, .bool true]) ∧ MineI w' w.heap.size w'.heap.size u (rowOf (fun q : Nat => shL (q : Int) (fsF p xs)) n) ∧ Below w.heap.size w w' := by
  have C := Lib.hid (fun w1 (l : Below w.heap.size w w1) => isOn_is p v xs true ((onB_iff p xs).2 hf) w1 (hr.lo l))
  have A := Lib.hid (fun w1 (l : Below w.heap.size w w1) => allF_any p v xs w1 (hr.lo l) hf)
  have HF := fsF_fc hf
  clear hr hf
  generalize fsF p xs = fs at *
  have CK := Lib.hid (fun (k : Nat) (hk : k < n) w1 u (hu : LoadRow w1 u fs) => shearBehind_any (k : Int) u fs w1 hu HF)
  clear HF
  obtain ⟨l, a, b⟩ := p
  simp only at C A ⊢
  have HM := make_ints n (by omega)
  obtain ⟨W, hW⟩ : ∃ W, w.alloc (.cells #[.int .i64 l, .int .i64 a, .int .i64 b] 25) = W := ⟨_, rfl⟩
  have LW := Lib.hid (show Below w.heap.size w W by rw [← hW]; exact below_new _ _)
  have BX := Lib.hid (show Cel3 W w.heap.size (.int .i64 l) (.int .i64 a) (.int .i64 b) by rw [← hW]; exact cel3_new _ _ _ _ _)
  obtain ⟨_, u0, u1, u2⟩ := BX.out
  go_enter Try.func87, Try.ntmps87
  go_wp2_with fail
  clear hW
  refine (C.out W LW.out).mono ?_
  rintro e w1 ⟨rfl, l1⟩
  have L1 := Lib.hid (lo_on LW.out l1)
  obtain ⟨_, x0, x1, x2⟩ := BX.out.lo l1
  have AA := Lib.hid (A.out w1 L1.out)
  clear l1 C A u0 u1 u2
  go_wp2_with fail
  refine AA.out.mono ?_
  rintro e w2 ⟨fu, rfl, mf, l2⟩
  have L2 := Lib.hid (lo_on L1.out l2)
  obtain ⟨W3, hW3⟩ : ∃ W3, w2.alloc (.cells (madeCells #[.int .i64 0] n) 3) = W3 := ⟨_, rfl⟩
  have F3 := Lib.hid (show FcC W3 w2.heap.size n (fun j => if j < 0 then shL (j : Int) fs else 0) from ⟨fun j hj => by rw [← hW3, World.cell?_alloc_at _ _ _ _ rfl]; exact made_int _ _ hj, fun j => by rw [← hW3]; exact World.frozen?_alloc_at _ _ _ _ rfl⟩)
  have L3 := Lib.hid (show Below w2.heap.size w2 W3 by rw [← hW3]; exact below_new _ _)
  have hs3 : w2.heap.size + 1 ≤ W3.heap.size := by rw [← hW3]; simp
  have MF := Lib.hid mf
  clear l2 AA x0 x1 x2 L1 mf
  go_wp2
  clear hW3 HM
  go_loopw [24] (fun i wr => ∃ k : Nat, k ≤ n ∧ i = .int .i64 k ∧ Hid (FcC wr w2.heap.size n (fun j => if j < k then shL (j : Int) fs else 0)) ∧ Hid (Below w2.heap.size w2 wr) ∧ w2.heap.size + 1 ≤ wr.heap.size) (fun i _ => n - (intOf i).toNat)
  case atStart => exact ⟨0, Nat.zero_le _, rfl, F3, L3, hs3⟩
  case round =>
    obtain ⟨k, hk, rfl, HG, HB, hs4⟩ := hrel
    clear F3 L3 hs3
    by_cases hlt : k < n
    · have hlt' : (k : Int) < (n : Int) := by omega
      have CC := Lib.hid (CK.out k hlt wr fu (MF.out.lo HB.out))
      go_wp2_with (go_at_call 88; refine CC.out.mono ?_; rintro e w4 ⟨rfl, l4⟩; have G4 := Lib.hid (HG.out.lo (by omega) l4); have L4 := Lib.hid (lo_on HB.out l4); have hs5 := Nat.le_trans hs4 l4.size; have z1 : w4.cell? ⟨w2.heap.size, k, none⟩ = some (.int .i64 0) := (G4.out.1 k hlt).trans (by simp); have f1 := G4.out.2 k; clear l4 CC HG HB)
      go_roundw
      case rel =>
        refine ⟨k + 1, by omega, by go_num, Lib.hid (G4.out.set k hlt _ (by rw [if_pos (Nat.lt_succ_self k)]) (fun j hj => ?_)), Lib.hid (L4.out.setCell (p := ⟨w2.heap.size, k, none⟩) (Nat.le_refl _) _), by simpa using hs5⟩
        by_cases h1 : j < k
        · rw [if_pos h1, if_pos (by omega)]
        · rw [if_neg h1, if_neg (by omega)]
      case measure => simp [intOf]; omega
    · obtain rfl : k = n := by omega
      have hge : ¬ (k : Int) < (k : Int) := by omega
      have hws := L2.out.size
      have M := Lib.hid (show MineI wr w.heap.size wr.heap.size (.slice (some ⟨w2.heap.size, 0, none⟩) k k) (rowOf (fun q : Nat => shL (q : Int) fs) k) from FcC.mine (f := fun q : Nat => shL (q : Int) fs) ⟨fun j hj => (HG.out.1 j hj).trans (by simp [hj]), HG.out.2⟩ hws (by omega) k)
      have LE := Lib.hid (lo_on L2.out HB.out)
      clear HG HB
      go_wp2
      go_ret2
      exact ⟨_, rfl, M.out, LE.out⟩
set_option maxHeartbeats 1600000 in
theorem shearTimes_any (p : BeamV) (v : Value) (xs : List (Int × Int)) (w : World) (hr : LoadRow w v xs) :
    Calls Try.prog 31 #[.agg #[.int .i64 p.l, .int .i64 p.a, .int .i64 p.b], v] w fun e w' => ∃ u, e = .returned (.tuple #[u, .bool (onB p xs)]) ∧ MineI w' w.heap.size w'.heap.size u (shearR p xs) ∧ Below w.heap.size w w' := by
  unfold shearR
  cases h : onB p xs with
  | false =>
    have A := Lib.hid (fun c w1 (l : Below w.heap.size w w1) => atPl_no c p v (.func (.func 88) #[] #[]) xs w1 (hr.lo l) h)
    clear hr h
    obtain ⟨l, a, b⟩ := p
    simp only at A ⊢
    obtain ⟨W, hW⟩ : ∃ W, w.alloc (.cells #[.int .i64 l, .int .i64 a, .int .i64 b] 25) = W := ⟨_, rfl⟩
    have LW := Lib.hid (show Below w.heap.size w W by rw [← hW]; exact below_new _ _)
    have BX := Lib.hid (show Cel3 W w.heap.size (.int .i64 l) (.int .i64 a) (.int .i64 b) by rw [← hW]; exact cel3_new _ _ _ _ _)
    obtain ⟨_, u0, u1, u2⟩ := BX.out
    go_enter Try.func31, Try.ntmps31
    go_wp2_with fail
    clear hW
    refine (A.out _ W LW.out).mono ?_
    rintro e w1 ⟨rfl, l1⟩
    have L1 := Lib.hid (lo_on LW.out l1)
    clear l1 u0 u1 u2 A
    go_wp2
    go_ret2
    exact ⟨_, rfl, by simpa using mineI_nil _ _ _ _ _, L1.out⟩
  | true =>
    have hon := onF_len ((onB_iff p xs).1 h)
    have A := Lib.hid (fun w1 (l : Below w.heap.size w w1) => shearTimesAt_yes (p.l.toNat) (by omega) p v xs w1 (hr.lo l) ((onB_iff p xs).1 h))
    generalize fsF p xs = fs at *
    clear hr h
    obtain ⟨l, a, b⟩ := p
    simp only at A hon ⊢
    obtain ⟨L, rfl⟩ := Int.eq_ofNat_of_zero_le (show 0 ≤ l by omega)
    simp only [Int.toNat_natCast] at A hon ⊢
    obtain ⟨_, hon1, hon2⟩ := hon
    obtain ⟨W, hW⟩ : ∃ W, w.alloc (.cells #[.int .i64 (L : Int), .int .i64 a, .int .i64 b] 25) = W := ⟨_, rfl⟩
    have LW := Lib.hid (show Below w.heap.size w W by rw [← hW]; exact below_new _ _)
    have BX := Lib.hid (show Cel3 W w.heap.size (.int .i64 (L : Int)) (.int .i64 a) (.int .i64 b) by rw [← hW]; exact cel3_new _ _ _ _ _)
    obtain ⟨_, u0, u1, u2⟩ := BX.out
    have hsw := LW.out.size
    go_enter Try.func31, Try.ntmps31
    go_wp2_with fail
    clear hW
    refine (A.out W LW.out).mono ?_
    rintro e w1 ⟨u, rfl, m, l1⟩
    have L1 := Lib.hid (lo_on LW.out l1)
    have M := Lib.hid (m.mono hsw (Nat.le_refl _) (Nat.le_refl _))
    clear l1 u0 u1 u2 A m
    go_wp2
    go_ret2
    exact ⟨_, rfl, by simpa using M.out, L1.out⟩
set_option maxRecDepth 100000 in
set_option maxHeartbeats 3200000 in
theorem bendTimesAt_yes (n : Nat) (hn : n ≤ 61) (p : BeamV) (v : Value) (xs : List (Int × Int)) (w : World) (hr : LoadRow w v xs) (hf : OnF p xs) :
    Calls Try.prog 87 #[.int .i64 (n : Int), .agg #[.int .i64 p.l, .int .i64 p.a, .int .i64 p.b], v, .func (.func 90) #[] #[]] w fun e w' => ∃ u, e = .returned (.tuple #[u, .bool true]) ∧ MineI w' w.heap.size w'.heap.size u (rowOf (fun q : Nat => bdL (q : Int) (fsF p xs)) n) ∧ Below w.heap.size w w' := by
  have C := Lib.hid (fun w1 (l : Below w.heap.size w w1) => isOn_is p v xs true ((onB_iff p xs).2 hf) w1 (hr.lo l))
  have A := Lib.hid (fun w1 (l : Below w.heap.size w w1) => allF_any p v xs w1 (hr.lo l) hf)
  have HF := fsF_fc hf
  clear hr hf
  generalize fsF p xs = fs at *
  have CK := Lib.hid (fun (k : Nat) (hk : k < n) w1 u (hu : LoadRow w1 u fs) => bendAt_any (k : Int) (by omega) u fs w1 hu HF)
  clear HF
  obtain ⟨l, a, b⟩ := p
  simp only at C A ⊢
  have HM := make_ints n (by omega)
  obtain ⟨W, hW⟩ : ∃ W, w.alloc (.cells #[.int .i64 l, .int .i64 a, .int .i64 b] 25) = W := ⟨_, rfl⟩
  have LW := Lib.hid (show Below w.heap.size w W by rw [← hW]; exact below_new _ _)
  have BX := Lib.hid (show Cel3 W w.heap.size (.int .i64 l) (.int .i64 a) (.int .i64 b) by rw [← hW]; exact cel3_new _ _ _ _ _)
  obtain ⟨_, u0, u1, u2⟩ := BX.out
  go_enter Try.func87, Try.ntmps87
  go_wp2_with fail
  clear hW
  refine (C.out W LW.out).mono ?_
  rintro e w1 ⟨rfl, l1⟩
  have L1 := Lib.hid (lo_on LW.out l1)
  obtain ⟨_, x0, x1, x2⟩ := BX.out.lo l1
  have AA := Lib.hid (A.out w1 L1.out)
  clear l1 C A u0 u1 u2
  go_wp2_with fail
  refine AA.out.mono ?_
  rintro e w2 ⟨fu, rfl, mf, l2⟩
  have L2 := Lib.hid (lo_on L1.out l2)
  obtain ⟨W3, hW3⟩ : ∃ W3, w2.alloc (.cells (madeCells #[.int .i64 0] n) 3) = W3 := ⟨_, rfl⟩
  have F3 := Lib.hid (show FcC W3 w2.heap.size n (fun j => if j < 0 then bdL (j : Int) fs else 0) from ⟨fun j hj => by rw [← hW3, World.cell?_alloc_at _ _ _ _ rfl]; exact made_int _ _ hj, fun j => by rw [← hW3]; exact World.frozen?_alloc_at _ _ _ _ rfl⟩)
  have L3 := Lib.hid (show Below w2.heap.size w2 W3 by rw [← hW3]; exact below_new _ _)
  have hs3 : w2.heap.size + 1 ≤ W3.heap.size := by rw [← hW3]; simp
  have MF := Lib.hid mf
  clear l2 AA x0 x1 x2 L1 mf
  go_wp2
  clear hW3 HM
  go_loopw [24] (fun i wr => ∃ k : Nat, k ≤ n ∧ i = .int .i64 k ∧ Hid (FcC wr w2.heap.size n (fun j => if j < k then bdL (j : Int) fs else 0)) ∧ Hid (Below w2.heap.size w2 wr) ∧ w2.heap.size + 1 ≤ wr.heap.size) (fun i _ => n - (intOf i).toNat)
  case atStart => exact ⟨0, Nat.zero_le _, rfl, F3, L3, hs3⟩
  case round =>
    obtain ⟨k, hk, rfl, HG, HB, hs4⟩ := hrel
    clear F3 L3 hs3
    by_cases hlt : k < n
    · have hlt' : (k : Int) < (n : Int) := by omega
      have CC := Lib.hid (CK.out k hlt wr fu (MF.out.lo HB.out))
      go_wp2_with (go_at_call 90; refine CC.out.mono ?_; rintro e w4 ⟨rfl, l4⟩; have G4 := Lib.hid (HG.out.lo (by omega) l4); have L4 := Lib.hid (lo_on HB.out l4); have hs5 := Nat.le_trans hs4 l4.size; have z1 : w4.cell? ⟨w2.heap.size, k, none⟩ = some (.int .i64 0) := (G4.out.1 k hlt).trans (by simp); have f1 := G4.out.2 k; clear l4 CC HG HB)
      go_roundw
      case rel =>
        refine ⟨k + 1, by omega, by go_num, Lib.hid (G4.out.set k hlt _ (by rw [if_pos (Nat.lt_succ_self k)]) (fun j hj => ?_)), Lib.hid (L4.out.setCell (p := ⟨w2.heap.size, k, none⟩) (Nat.le_refl _) _), by simpa using hs5⟩
        by_cases h1 : j < k
        · rw [if_pos h1, if_pos (by omega)]
        · rw [if_neg h1, if_neg (by omega)]
      case measure => simp [intOf]; omega
    · obtain rfl : k = n := by omega
      have hge : ¬ (k : Int) < (k : Int) := by omega
      have hws := L2.out.size
      have M := Lib.hid (show MineI wr w.heap.size wr.heap.size (.slice (some ⟨w2.heap.size, 0, none⟩) k k) (rowOf (fun q : Nat => bdL (q : Int) fs) k) from FcC.mine (f := fun q : Nat => bdL (q : Int) fs) ⟨fun j hj => (HG.out.1 j hj).trans (by simp [hj]), HG.out.2⟩ hws (by omega) k)
      have LE := Lib.hid (lo_on L2.out HB.out)
      clear HG HB
      go_wp2
      go_ret2
      exact ⟨_, rfl, M.out, LE.out⟩
set_option maxHeartbeats 1600000 in
theorem bendTimes_any (p : BeamV) (v : Value) (xs : List (Int × Int)) (w : World) (hr : LoadRow w v xs) :
    Calls Try.prog 37 #[.agg #[.int .i64 p.l, .int .i64 p.a, .int .i64 p.b], v] w fun e w' => ∃ u, e = .returned (.tuple #[u, .bool (onB p xs)]) ∧ MineI w' w.heap.size w'.heap.size u (bendR p xs) ∧ Below w.heap.size w w' := by
  unfold bendR
  cases h : onB p xs with
  | false =>
    have A := Lib.hid (fun c w1 (l : Below w.heap.size w w1) => atPl_no c p v (.func (.func 90) #[] #[]) xs w1 (hr.lo l) h)
    clear hr h
    obtain ⟨l, a, b⟩ := p
    simp only at A ⊢
    obtain ⟨W, hW⟩ : ∃ W, w.alloc (.cells #[.int .i64 l, .int .i64 a, .int .i64 b] 25) = W := ⟨_, rfl⟩
    have LW := Lib.hid (show Below w.heap.size w W by rw [← hW]; exact below_new _ _)
    have BX := Lib.hid (show Cel3 W w.heap.size (.int .i64 l) (.int .i64 a) (.int .i64 b) by rw [← hW]; exact cel3_new _ _ _ _ _)
    obtain ⟨_, u0, u1, u2⟩ := BX.out
    go_enter Try.func37, Try.ntmps37
    go_wp2_with fail
    clear hW
    refine (A.out _ W LW.out).mono ?_
    rintro e w1 ⟨rfl, l1⟩
    have L1 := Lib.hid (lo_on LW.out l1)
    clear l1 u0 u1 u2 A
    go_wp2
    go_ret2
    exact ⟨_, rfl, by simpa using mineI_nil _ _ _ _ _, L1.out⟩
  | true =>
    have hon := onF_len ((onB_iff p xs).1 h)
    have A := Lib.hid (fun w1 (l : Below w.heap.size w w1) => bendTimesAt_yes (p.l.toNat + 1) (by omega) p v xs w1 (hr.lo l) ((onB_iff p xs).1 h))
    generalize fsF p xs = fs at *
    clear hr h
    obtain ⟨l, a, b⟩ := p
    simp only at A hon ⊢
    obtain ⟨L, rfl⟩ := Int.eq_ofNat_of_zero_le (show 0 ≤ l by omega)
    simp only [Int.toNat_natCast] at A hon ⊢
    obtain ⟨_, hon1, hon2⟩ := hon
    obtain ⟨W, hW⟩ : ∃ W, w.alloc (.cells #[.int .i64 (L : Int), .int .i64 a, .int .i64 b] 25) = W := ⟨_, rfl⟩
    have LW := Lib.hid (show Below w.heap.size w W by rw [← hW]; exact below_new _ _)
    have BX := Lib.hid (show Cel3 W w.heap.size (.int .i64 (L : Int)) (.int .i64 a) (.int .i64 b) by rw [← hW]; exact cel3_new _ _ _ _ _)
    obtain ⟨_, u0, u1, u2⟩ := BX.out
    have hsw := LW.out.size
    go_enter Try.func37, Try.ntmps37
    go_wp2_with fail
    clear hW
    refine (A.out W LW.out).mono ?_
    rintro e w1 ⟨u, rfl, m, l1⟩
    have L1 := Lib.hid (lo_on LW.out l1)
    have M := Lib.hid (m.mono hsw (Nat.le_refl _) (Nat.le_refl _))
    clear l1 u0 u1 u2 A m
    go_wp2
    go_ret2
    exact ⟨_, rfl, by simpa using M.out, L1.out⟩
end Go.Proofs.Ythncgcdnljoakaa
