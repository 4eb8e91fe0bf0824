/- The contracts of both functions IsConvoy. -/
import Derived.Test.YthncgcdnljoakaaBm4
import Derived.Test.YthncgcdnljoakaaKitPlain
import Derived.Test.YthncgcdnljoakaaLoadLaw
namespace Go.Proofs.Ythncgcdnljoakaa
open Go.RowKit
noncomputable def convB (cs : List (Int × Int)) : Bool := propB (ConvF cs)
theorem in_yes {x a b : Int} (h : a ≤ x ∧ x ≤ b) : (decide (a ≤ x) && decide (x ≤ b)) = true := by simp [h]
theorem in_no {x a b : Int} (h : ¬ (a ≤ x ∧ x ≤ b)) : (decide (a ≤ x) && decide (x ≤ b)) = false := by simp; omega
theorem drw_b (w : World) : Below w.heap.size w w.drew := ⟨rfl, rfl, rfl, Nat.le_refl _, fun _ _ => rfl⟩
theorem quiet_same' {P : Program} {f : FuncId} {args : Array Value} {w : World} {v : Value} (h : ∀ w, Calls P f args w fun e w' => e = .returned v ∧ w' = w) (n x : Nat) :
    Calls P f args (w.drewN (n + x)) fun e w'' => e = .returned v ∧ ∃ y, w'' = w.drewN (n + y) :=
  (h _).mono fun _ _ ⟨he, hq⟩ => ⟨he, x, hq⟩
set_option maxRecDepth 100000 in
set_option maxHeartbeats 3200000 in
theorem l6Convoy_any (v : Value) (cs : List (Int × Int)) (w : World) (hr : LoadRow w v cs) (hn : cs.length ≤ 2000000) :
    Calls Try.prog 101 #[v] w fun e w' => e = .returned (.bool (convB cs)) ∧ Below w.heap.size w w' := by
  have HY := Lib.hid (fun h : ConvF cs => show convB cs = true from propB_yes h)
  have HN := Lib.hid (fun h : ¬ ConvF cs => show convB cs = false from propB_no h)
  generalize convB cs = r at *
  obtain ⟨av, c, rfl, hr⟩ := hr
  go_enter Try.func101, Try.ntmps101
  go_wp2
  go_loopw [3] (fun i wr => ∃ k n : Nat, k ≤ cs.length ∧ i = .int .i64 k ∧ Hid (∀ j, j < k → (0 ≤ (cs.getD j (0, 0)).1 ∧ (cs.getD j (0, 0)).1 ≤ 20) ∧ 1 ≤ (cs.getD j (0, 0)).2 ∧ (cs.getD j (0, 0)).2 ≤ 99) ∧ Hid (∀ j, j + 1 < k → (cs.getD j (0, 0)).1 ≤ (cs.getD (j + 1) (0, 0)).1) ∧ wr = w.drewN n) (fun i _ => cs.length - (intOf i).toNat)
  case atStart => exact ⟨0, 0, Nat.zero_le _, rfl, Lib.hid (fun j h => by omega), Lib.hid (fun j h => by omega), rfl⟩
  case round =>
    obtain ⟨k, n, hk, rfl, HL, HR, rfl⟩ := hrel
    by_cases hlt : k < cs.length
    · rcases hr with h | ⟨g, off, rfl, hg, hc⟩
      · subst h; simp at hlt
      have h1 := (hc k hlt).1
      have h2 := (hc k hlt).2
      have hlt' : (k : Int) < (cs.length : Int) := by omega
      have I1 := Lib.hid (fun w => l1In_q (cs.getD k (0, 0)).1 0 20 _ rfl w)
      have I2 := Lib.hid (fun w => l1In_q (cs.getD k (0, 0)).2 1 99 _ rfl w)
      by_cases b1 : 0 ≤ (cs.getD k (0, 0)).1 ∧ (cs.getD k (0, 0)).1 ≤ 20
      case neg =>
        have e1 : (decide (0 ≤ (cs.getD k (0, 0)).1) && decide ((cs.getD k (0, 0)).1 ≤ 20)) = false := in_no b1
        rw [e1] at I1
        have HF := Lib.hid (HN.out (fun h => b1 (h.each k hlt).1))
        generalize (cs.getD k (0, 0)).1 = x at *
        generalize (cs.getD k (0, 0)).2 = q at *
        clear e1 b1 hc I2
        go_wp2
        go_quiet ((go_at_call 92; exact quiet_same' I1.out _ _))
        go_wp2
        go_ret
        exact ⟨by rw [HF.out]; rfl, lo_drewN (drewN_below _ _) _⟩
      have e1 : (decide (0 ≤ (cs.getD k (0, 0)).1) && decide ((cs.getD k (0, 0)).1 ≤ 20)) = true := in_yes b1
      rw [e1] at I1
      by_cases b2 : 1 ≤ (cs.getD k (0, 0)).2 ∧ (cs.getD k (0, 0)).2 ≤ 99
      case neg =>
        have e2 : (decide (1 ≤ (cs.getD k (0, 0)).2) && decide ((cs.getD k (0, 0)).2 ≤ 99)) = false := in_no b2
        rw [e2] at I2
        have HF := Lib.hid (HN.out (fun h => b2 (h.each k hlt).2))
        generalize (cs.getD k (0, 0)).1 = x at *
        generalize (cs.getD k (0, 0)).2 = q at *
        clear e1 e2 b1 b2 hc
        go_wp2
        go_quiet ((go_at_call 92; first | with_reducible exact quiet_same' I1.out _ _ | with_reducible exact quiet_same' I2.out _ _))
        go_wp2
        go_ret
        exact ⟨by rw [HF.out]; rfl, lo_drewN (drewN_below _ _) _⟩
      have e2 : (decide (1 ≤ (cs.getD k (0, 0)).2) && decide ((cs.getD k (0, 0)).2 ≤ 99)) = true := in_yes b2
      rw [e2] at I2
      have HLn := Lib.hid (show ∀ j, j < k + 1 → (0 ≤ (cs.getD j (0, 0)).1 ∧ (cs.getD j (0, 0)).1 ≤ 20) ∧ 1 ≤ (cs.getD j (0, 0)).2 ∧ (cs.getD j (0, 0)).2 ≤ 99 by
        intro j hj
        by_cases e : j = k
        · subst e; exact ⟨b1, b2⟩
        · exact HL.out j (by omega))
      by_cases h0 : k = 0
      · subst h0
        rw [Nat.zero_mul, Nat.add_zero] at h1 h2
        have hl0 : 0 < cs.length := hlt
        have hl0' : (0 : Int) < (cs.length : Int) := by omega
        have HRn := Lib.hid (show ∀ j, j + 1 < 0 + 1 → (cs.getD j (0, 0)).1 ≤ (cs.getD (j + 1) (0, 0)).1 from fun j hj => by omega)
        generalize (cs.getD 0 (0, 0)).1 = x at h1 I1
        generalize (cs.getD 0 (0, 0)).2 = q at h2 I2
        clear e1 e2 b1 b2 hc
        go_wp2
        go_quiet ((go_at_call 92; first | with_reducible exact quiet_same' I1.out _ _ | with_reducible exact quiet_same' I2.out _ _))
        go_wp2
        go_roundw
        case rel => exact ⟨0 + 1, _, by omega, by go_num, HLn, HRn, rfl⟩
        case measure => simp [intOf]; omega
      · obtain ⟨m, rfl⟩ : ∃ m, k = m + 1 := ⟨k - 1, by omega⟩
        have h3 := (hc m (by omega)).1
        have hpos : (0 : Int) < ((m + 1 : Nat) : Int) := by omega
        have hpos' : (0 : Int) < (m : Int) + 1 := by omega
        have hlt2 : (m : Int) < (cs.length : Int) := by omega
        by_cases b3 : (cs.getD m (0, 0)).1 ≤ (cs.getD (m + 1) (0, 0)).1
        · have HRn := Lib.hid (show ∀ j, j + 1 < m + 1 + 1 → (cs.getD j (0, 0)).1 ≤ (cs.getD (j + 1) (0, 0)).1 from fun j hj => by
            by_cases e : j = m
            · subst e; exact b3
            · exact HR.out j (by omega))
          have b3' : ¬ (cs.getD (m + 1) (0, 0)).1 < (cs.getD m (0, 0)).1 := by omega
          generalize (cs.getD (m + 1) (0, 0)).1 = x at h1 I1 b3'
          generalize (cs.getD (m + 1) (0, 0)).2 = q at h2 I2
          generalize (cs.getD m (0, 0)).1 = y at h3 b3'
          clear e1 e2 b1 b2 b3 hc h0
          go_wp2
          go_quiet ((go_at_call 92; first | with_reducible exact quiet_same' I1.out _ _ | with_reducible exact quiet_same' I2.out _ _))
          go_wp2
          go_roundw
          case rel => exact ⟨m + 1 + 1, _, by omega, by go_num, HLn, HRn, rfl⟩
          case measure => simp [intOf]; omega
        · have HF := Lib.hid (HN.out (fun h => b3 (h.rise m hlt)))
          have b3' : (cs.getD (m + 1) (0, 0)).1 < (cs.getD m (0, 0)).1 := by omega
          clear HLn HL HR
          generalize (cs.getD (m + 1) (0, 0)).1 = x at *
          generalize (cs.getD (m + 1) (0, 0)).2 = q at *
          generalize (cs.getD m (0, 0)).1 = y at *
          clear e1 e2 b1 b2 b3 hc h0
          go_wp2
          go_quiet ((go_at_call 92; first | with_reducible exact quiet_same' I1.out _ _ | with_reducible exact quiet_same' I2.out _ _))
          go_wp2
          go_ret
          exact ⟨by rw [HF.out]; rfl, lo_drewN (drewN_below _ _) _⟩
    · obtain rfl : k = cs.length := by omega
      have hge : ¬ (cs.length : Int) < (cs.length : Int) := by omega
      have I3 := Lib.hid (fun w => l1In_is (cs.length : Int) 1 6 _ rfl w)
      by_cases h16 : 1 ≤ cs.length ∧ cs.length ≤ 6
      · have e3 : (decide ((1 : Int) ≤ (cs.length : Int)) && decide ((cs.length : Int) ≤ 6)) = true := by simp; omega
        rw [e3] at I3
        rcases hr with h | ⟨g, off, rfl, hg, hc⟩
        · subst h; simp at h16
        have h1 := (hc 0 (by omega)).1
        rw [Nat.zero_mul, Nat.add_zero] at h1
        have hl0 : 0 < cs.length := by omega
        have hl0' : (0 : Int) < (cs.length : Int) := by omega
        by_cases hx : (cs.getD 0 (0, 0)).1 = 0
        · have HF := Lib.hid (HY.out ⟨h16.1, h16.2, hx, HL.out, fun j hj => HR.out j hj⟩)
          rw [hx] at h1
          clear hc e3 hx
          go_wp2_with fail
          refine (I3.out _).mono ?_
          rintro e w' ⟨rfl, rfl⟩
          go_wp2
          go_ret
          exact ⟨by rw [HF.out]; rfl, drewN_below _ _⟩
        · have HF := Lib.hid (HN.out (fun h => hx h.first))
          generalize (cs.getD 0 (0, 0)).1 = x at h1 hx
          clear hc e3
          have hx' : (x == 0) = false := by simpa using hx
          go_wp2_with fail
          refine (I3.out _).mono ?_
          rintro e w' ⟨rfl, rfl⟩
          go_wp2
          go_ret
          exact ⟨by rw [HF.out]; simp, drewN_below _ _⟩
      · have e3 : (decide ((1 : Int) ≤ (cs.length : Int)) && decide ((cs.length : Int) ≤ 6)) = false := by simp; omega
        rw [e3] at I3
        have HF := Lib.hid (HN.out (fun h => h16 ⟨h.one, h.short⟩))
        clear e3
        go_wp2_with fail
        refine (I3.out _).mono ?_
        rintro e w' ⟨rfl, rfl⟩
        go_wp2
        go_ret
        exact ⟨by rw [HF.out]; rfl, drewN_below _ _⟩
theorem specIsConvoy_any (v : Value) (cs : List (Int × Int)) (w : World) (hr : LoadRow w v cs) (hn : cs.length ≤ 2000000) :
    Calls Try.prog 46 #[v] w fun e w' => e = .returned (.bool (convB cs)) ∧ Below w.heap.size w w' := by
  have C := Lib.hid (l6Convoy_any v cs w hr hn)
  generalize convB cs = r at *
  clear hr
  go_enter Try.func46, Try.ntmps46
  go_wp2_with fail
  refine C.out.mono ?_
  rintro e w1 ⟨rfl, l1⟩
  go_wp2
  go_ret
  exact ⟨rfl, l1⟩
theorem isNaN_no (x : Int) (w : World) : Calls Try.prog 163 #[.int .i64 x] w fun e w' => e = .returned (.bool false) ∧ w' = w := by
  go_enter Try.func163, Try.ntmps163
  go_wp2
  go_ret
  exact ⟨by simp, rfl⟩
def cmpZ (x y : Int) : Int := if x < y then -1 else if y < x then 1 else 0
theorem compare_any (x y : Int) (w : World) : Calls Try.prog 135 #[.int .i64 x, .int .i64 y] w fun e w' => e = .returned (.int .i64 (cmpZ x y)) ∧ w' = w := by
  unfold cmpZ
  by_cases h1 : x < y
  · rw [if_pos h1]
    go_enter Try.func135, Try.ntmps135
    go_wp2_with fail
    refine (isNaN_no x _).mono ?_
    rintro e w' ⟨rfl, rfl⟩
    go_wp2_with fail
    refine (isNaN_no y _).mono ?_
    rintro e w' ⟨rfl, rfl⟩
    go_wp2
    go_ret
    exact ⟨rfl, rfl⟩
  · rw [if_neg h1]
    by_cases h2 : y < x
    case' pos => rw [if_pos h2]
    case' neg => rw [if_neg h2]
    all_goals
      (go_enter Try.func135, Try.ntmps135
       go_wp2_with fail
       refine (isNaN_no x _).mono ?_
       rintro e w' ⟨rfl, rfl⟩
       go_wp2_with fail
       refine (isNaN_no y _).mono ?_
       rintro e w' ⟨rfl, rfl⟩
       go_wp2
       go_ret
       exact ⟨rfl, rfl⟩)
theorem byPlace_any (p q x y : Int) (w : World) : Calls Try.prog 104 #[.agg #[.int .i64 p, .int .i64 q], .agg #[.int .i64 x, .int .i64 y]] w fun e w' => e = .returned (.int .i64 (cmpZ p x)) ∧ Below w.heap.size w w' := by
  have C := Lib.hid (fun w => compare_any p x w)
  generalize cmpZ p x = r at *
  go_enter Try.func104, Try.ntmps104
  go_wp2_with fail
  refine (C.out _).mono ?_
  rintro e w' ⟨rfl, rfl⟩
  go_wp2
  go_ret
  exact ⟨rfl, lo_on (below_new _ _) (below_new _ _)⟩
def SortL (cs : List (Int × Int)) : Prop := ∀ j, j + 1 < cs.length → (cs.getD j (0, 0)).1 ≤ (cs.getD (j + 1) (0, 0)).1
set_option maxRecDepth 100000 in
set_option maxHeartbeats 1600000 in
theorem sortedL_any (v : Value) (cs : List (Int × Int)) (w : World) (hr : LoadRow w v cs) (h1 : 1 ≤ cs.length) (hn : cs.length ≤ 12) :
    Calls Try.prog 103 #[v, .func (.func 104) #[] #[]] w fun e w' => e = .returned (.bool (propB (SortL cs))) ∧ Below w.heap.size w w' := by
  have HY := Lib.hid (fun h : SortL cs => show propB (SortL cs) = true from propB_yes h)
  have HN := Lib.hid (fun h : ¬ SortL cs => show propB (SortL cs) = false from propB_no h)
  generalize propB (SortL cs) = r at *
  obtain ⟨av, c, rfl, hr⟩ := hr
  rcases hr with h | ⟨g, off, rfl, hg, hc⟩
  · subst h; simp at h1
  obtain ⟨m, hm⟩ : ∃ m, cs.length = m + 1 := ⟨cs.length - 1, by omega⟩
  have hL : (cs.length : Int) - 1 = (m : Int) := by omega
  have hml : m < cs.length := by omega
  have HM := Lib.hid hm
  clear hm h1
  go_enter Try.func103, Try.ntmps103
  go_wp2
  go_loopw [5] (fun i wr => ∃ k : Nat, k < cs.length ∧ i = .int .i64 k ∧ Hid (∀ j, k ≤ j → j + 1 < cs.length → (cs.getD j (0, 0)).1 ≤ (cs.getD (j + 1) (0, 0)).1) ∧ Hid (Below w.heap.size w wr)) (fun i _ => (intOf i).toNat)
  case atStart => exact ⟨m, hml, rfl, Lib.hid (fun j h1 h2 => by have := HM.out; omega), Lib.hid (Below.refl _ _)⟩
  case round =>
    obtain ⟨k, hk, rfl, HS, HW⟩ := hrel
    clear hL hml
    by_cases h0 : k = 0
    · subst h0
      have HF := Lib.hid (HY.out (fun j hj => HS.out j (Nat.zero_le _) hj))
      go_wp2
      go_ret
      exact ⟨by rw [HF.out]; rfl, HW.out⟩
    · obtain ⟨q, hq⟩ : ∃ q, k = q + 1 := ⟨k - 1, by omega⟩
      have hkq : (k : Int) - 1 = (q : Int) := by omega
      have hwq : IntKind.i64.wrap (q : Int) = (q : Int) := by rw [IntKind.wrap_i64]; omega
      have hwk : IntKind.i64.wrap ((k : Int) - 1) = (q : Int) := by rw [IntKind.wrap_i64]; omega
      obtain ⟨c1, c2⟩ := hc k hk
      obtain ⟨c3, c4⟩ := hc q (by omega)
      rw [← HW.out.cell (p := ⟨g, off + k * 2, none⟩) hg] at c1
      rw [← HW.out.cell (p := ⟨g, off + k * 2 + 1, none⟩) hg] at c2
      rw [← HW.out.cell (p := ⟨g, off + q * 2, none⟩) hg] at c3
      rw [← HW.out.cell (p := ⟨g, off + q * 2 + 1, none⟩) hg] at c4
      have hgr : g < wr.heap.size := Nat.lt_of_lt_of_le hg HW.out.size
      have hpos : (0 : Int) < (k : Int) := by omega
      have hlt' : (k : Int) < (cs.length : Int) := by omega
      have hlt2 : (q : Int) < (cs.length : Int) := by omega
      have HB := Lib.hid (fun p q x y w => byPlace_any p q x y w)
      by_cases hb : (cs.getD q (0, 0)).1 ≤ (cs.getD k (0, 0)).1
      · have HSn := Lib.hid (show ∀ j, q ≤ j → j + 1 < cs.length → (cs.getD j (0, 0)).1 ≤ (cs.getD (j + 1) (0, 0)).1 from fun j h1 h2 => by
          by_cases e : j = q
          · subst e; rw [← hq]; exact hb
          · exact HS.out j (by omega) h2)
        have hz : ¬ cmpZ (cs.getD k (0, 0)).1 (cs.getD q (0, 0)).1 < 0 := by unfold cmpZ; split; omega; split <;> omega
        generalize (cs.getD k (0, 0)).1 = x1 at c1 hz
        generalize (cs.getD k (0, 0)).2 = x2 at c2
        generalize (cs.getD q (0, 0)).1 = y1 at c3 hz
        generalize (cs.getD q (0, 0)).2 = y2 at c4
        have CB := Lib.hid (fun w => HB.out x1 x2 y1 y2 w)
        obtain ⟨t, ht⟩ : ∃ t, cmpZ x1 y1 = t := ⟨_, rfl⟩
        rw [ht] at hz CB
        have HQ := Lib.hid hq
        clear hb h0 hc HB HS ht hq
        go_wp2_with fail
        go_region_held3 (fun w' => w'.cell? ⟨g, off + k * 2, none⟩ = some (.int .i64 x1) ∧ w'.cell? ⟨g, off + k * 2 + 1, none⟩ = some (.int .i64 x2) ∧ w'.cell? ⟨g, off + q * 2, none⟩ = some (.int .i64 y1) ∧ w'.cell? ⟨g, off + q * 2 + 1, none⟩ = some (.int .i64 y2))
          (first | exact ⟨(hl.cell (p := ⟨g, off + k * 2, none⟩) hgr).trans c1, (hl.cell (p := ⟨g, off + k * 2 + 1, none⟩) hgr).trans c2, (hl.cell (p := ⟨g, off + q * 2, none⟩) hgr).trans c3, (hl.cell (p := ⟨g, off + q * 2 + 1, none⟩) hgr).trans c4⟩ | go_keep)
          (first | (go_at_call 104; refine (CB.out _).mono ?_; rintro e w1 ⟨rfl, hl⟩))
        have LN := Lib.hid (show Below w.heap.size w w1 from lo_on (lo_on HW.out (drw_b wr)) hl)
        clear hl c1 c2 c3 c4
        go_wp2
        go_roundw
        case rel => exact ⟨q, by omega, by first | rfl | go_num, HSn, LN⟩
        case measure => have := HQ.out; simp [intOf]; omega
      · have HF := Lib.hid (HN.out (fun h => hb (by have := h q (by omega); rw [← hq] at this; exact this)))
        have hz : cmpZ (cs.getD k (0, 0)).1 (cs.getD q (0, 0)).1 < 0 := by unfold cmpZ; rw [if_pos (by omega)]; decide
        generalize (cs.getD k (0, 0)).1 = x1 at c1 hz
        generalize (cs.getD k (0, 0)).2 = x2 at c2
        generalize (cs.getD q (0, 0)).1 = y1 at c3 hz
        generalize (cs.getD q (0, 0)).2 = y2 at c4
        have CB := Lib.hid (fun w => HB.out x1 x2 y1 y2 w)
        obtain ⟨t, ht⟩ : ∃ t, cmpZ x1 y1 = t := ⟨_, rfl⟩
        rw [ht] at hz CB
        have HQ := Lib.hid hq
        clear hb h0 hc HB HS ht hq
        go_wp2_with fail
        go_region_held3 (fun w' => w'.cell? ⟨g, off + k * 2, none⟩ = some (.int .i64 x1) ∧ w'.cell? ⟨g, off + k * 2 + 1, none⟩ = some (.int .i64 x2) ∧ w'.cell? ⟨g, off + q * 2, none⟩ = some (.int .i64 y1) ∧ w'.cell? ⟨g, off + q * 2 + 1, none⟩ = some (.int .i64 y2))
          (first | exact ⟨(hl.cell (p := ⟨g, off + k * 2, none⟩) hgr).trans c1, (hl.cell (p := ⟨g, off + k * 2 + 1, none⟩) hgr).trans c2, (hl.cell (p := ⟨g, off + q * 2, none⟩) hgr).trans c3, (hl.cell (p := ⟨g, off + q * 2 + 1, none⟩) hgr).trans c4⟩ | go_keep)
          (first | (go_at_call 104; refine (CB.out _).mono ?_; rintro e w1 ⟨rfl, hl⟩))
        have LN := Lib.hid (show Below w.heap.size w w1 from lo_on (lo_on HW.out (drw_b wr)) hl)
        clear hl c1 c2 c3 c4
        go_wp2
        go_ret
        exact ⟨by rw [HF.out]; rfl, LN.out⟩
theorem conv_of {cs : List (Int × Int)} (h1 : 1 ≤ cs.length) (h6 : cs.length ≤ 6) (hr : rowB cs = true) (hs : SortL cs) (h0 : (cs.getD 0 (0, 0)).1 = 0) (hl : (cs.getD (cs.length - 1) (0, 0)).1 ≤ 20) : ConvF cs := by
  have hf := (rowB_iff cs).1 hr
  refine ⟨h1, h6, h0, fun j hj => ?_, hs⟩
  have h := hf.each _ (mem_getD hj)
  have hm := ConvF.mono hs j (cs.length - 1) (by omega) (by omega)
  omega
theorem conv_row {cs : List (Int × Int)} (h : ConvF cs) : rowB cs = true := by
  refine (rowB_iff cs).2 ⟨by have := h.short; omega, fun x hx => ?_⟩
  obtain ⟨j, hj, rfl⟩ := getD_mem hx
  have := h.each j hj
  omega
set_option maxRecDepth 100000 in
set_option maxHeartbeats 1600000 in
theorem isConvoy_any (v : Value) (cs : List (Int × Int)) (w : World) (hr : LoadRow w v cs) :
    Calls Try.prog 47 #[v] w fun e w' => e = .returned (.bool (convB cs)) ∧ Below w.heap.size w w' := by
  have HY := Lib.hid (fun h : ConvF cs => show convB cs = true from propB_yes h)
  have HN := Lib.hid (fun h : ¬ ConvF cs => show convB cs = false from propB_no h)
  by_cases h1 : 1 ≤ cs.length
  case neg =>
    have HF := Lib.hid (HN.out (fun h => h1 h.one))
    obtain ⟨a, c, rfl, _⟩ := hr
    have h1' : (cs.length : Int) < 1 := by omega
    clear h1
    go_enter Try.func47, Try.ntmps47
    go_wp2
    go_ret
    exact ⟨by rw [HF.out]; rfl, Below.refl _ _⟩
  by_cases h6 : cs.length ≤ 6
  case neg =>
    have HF := Lib.hid (HN.out (fun h => h6 h.short))
    obtain ⟨a, c, rfl, _⟩ := hr
    have h1' : ¬ (cs.length : Int) < 1 := by omega
    have h2' : (6 : Int) < (cs.length : Int) := by omega
    clear h1
    go_enter Try.func47, Try.ntmps47
    go_wp2
    go_ret
    exact ⟨by rw [HF.out]; rfl, Below.refl _ _⟩
  have R := Lib.hid (isRow_any v cs w hr)
  have SO := Lib.hid (fun w1 (l : Below w.heap.size w w1) => sortedL_any v cs w1 (hr.lo l) h1 (by omega))
  have HC := Lib.hid (fun a b c d => conv_of (cs := cs) h1 h6 a b c d)
  have HR := Lib.hid (fun h : ConvF cs => conv_row h)
  have HP := Lib.hid (propB_iff (SortL cs))
  obtain ⟨a, c, rfl, hr⟩ := hr
  rcases hr with h | ⟨g, off, rfl, hg, hc⟩
  · subst h; simp at h1
  have h1' : ¬ (cs.length : Int) < 1 := by omega
  have h2' : ¬ (6 : Int) < (cs.length : Int) := by omega
  generalize rowB cs = b1 at *
  generalize propB (SortL cs) = b2 at *
  cases b1 with
  | false =>
    have HF := Lib.hid (HN.out (fun h => by have := HR.out h; cases this))
    clear h1 h6 hc
    go_enter Try.func47, Try.ntmps47
    go_wp2_with fail
    refine R.out.mono ?_
    rintro e w1 ⟨rfl, l1⟩
    go_wp2
    go_ret
    exact ⟨by rw [HF.out]; rfl, l1⟩
  | true =>
    cases b2 with
    | false =>
      have HF := Lib.hid (HN.out (fun h => by have := HP.out.2 h.rise; cases this))
      clear h1 h6 hc
      go_enter Try.func47, Try.ntmps47
      go_wp2_with fail
      refine R.out.mono ?_
      rintro e w1 ⟨rfl, l1⟩
      have SS := Lib.hid (SO.out w1 l1)
      have L1 := Lib.hid l1
      clear l1 R SO
      go_wp2_with fail
      refine SS.out.mono ?_
      rintro e w2 ⟨rfl, l2⟩
      go_wp2
      go_ret
      exact ⟨by rw [HF.out]; rfl, lo_on L1.out l2⟩
    | true =>
      have hso := HP.out.1 rfl
      obtain ⟨m, hm⟩ : ∃ m, cs.length = m + 1 := ⟨cs.length - 1, by omega⟩
      have c0 := (hc 0 (by omega)).1
      rw [Nat.zero_mul, Nat.add_zero] at c0
      have cm := (hc m (by omega)).1
      have HX := Lib.hid (fun h0 hl => HY.out (HC.out rfl hso h0 hl))
      have HX2 := Lib.hid (fun (h : ConvF cs) => (show (cs.getD (cs.length - 1) (0, 0)).1 ≤ 20 from (h.each _ (by omega)).1.2))
      rw [show cs.length - 1 = m by omega] at HX HX2
      have HX3 := Lib.hid (fun (h : ConvF cs) => h.first)
      have hL : (cs.length : Int) - 1 = (m : Int) := by omega
      have hl0 : (0 : Int) < (cs.length : Int) := by omega
      have hl00 : 0 < cs.length := by omega
      have hml : (m : Int) < (cs.length : Int) := by omega
      have HM := Lib.hid hm
      clear hm h1 h6 hc hso HC HP HR
      have G0 := Lib.hid (fun w' (l : Below w.heap.size w w') => (l.cell (p := ⟨g, off, none⟩) hg).trans c0)
      have GM := Lib.hid (fun w' (l : Below w.heap.size w w') => (l.cell (p := ⟨g, off + m * 2, none⟩) hg).trans cm)
      clear c0 cm
      generalize (cs.getD 0 (0, 0)).1 = x at *
      generalize (cs.getD m (0, 0)).1 = y at *
      by_cases hx : x = 0
      · subst hx
        by_cases hy : y ≤ 20
        · have HF := Lib.hid (HX.out rfl hy)
          go_enter Try.func47, Try.ntmps47
          go_wp2_with fail
          refine R.out.mono ?_
          rintro e w1 ⟨rfl, l1⟩
          have SS := Lib.hid (SO.out w1 l1)
          have L1 := Lib.hid l1
          clear l1 R SO
          go_wp2_with fail
          refine SS.out.mono ?_
          rintro e w2 ⟨rfl, l2⟩
          have g0 := G0.out w2 (lo_on L1.out l2)
          have gm := GM.out w2 (lo_on L1.out l2)
          have L2 := Lib.hid (lo_on L1.out l2)
          clear l2 SS G0 GM
          go_wp2
          go_ret
          exact ⟨by rw [HF.out]; rfl, L2.out⟩
        · have HF := Lib.hid (HN.out (fun h => hy (HX2.out h)))
          have hy' : decide (y ≤ 20) = false := by simp; omega
          go_enter Try.func47, Try.ntmps47
          go_wp2_with fail
          refine R.out.mono ?_
          rintro e w1 ⟨rfl, l1⟩
          have SS := Lib.hid (SO.out w1 l1)
          have L1 := Lib.hid l1
          clear l1 R SO
          go_wp2_with fail
          refine SS.out.mono ?_
          rintro e w2 ⟨rfl, l2⟩
          have g0 := G0.out w2 (lo_on L1.out l2)
          have gm := GM.out w2 (lo_on L1.out l2)
          have L2 := Lib.hid (lo_on L1.out l2)
          clear l2 SS G0 GM
          go_wp2
          go_ret
          exact ⟨by rw [HF.out]; rfl, L2.out⟩
      · have HF := Lib.hid (HN.out (fun h => hx (HX3.out h)))
        have hx' : (x == 0) = false := by simpa using hx
        go_enter Try.func47, Try.ntmps47
        go_wp2_with fail
        refine R.out.mono ?_
        rintro e w1 ⟨rfl, l1⟩
        have SS := Lib.hid (SO.out w1 l1)
        have L1 := Lib.hid l1
        clear l1 R SO
        go_wp2_with fail
        refine SS.out.mono ?_
        rintro e w2 ⟨rfl, l2⟩
        have g0 := G0.out w2 (lo_on L1.out l2)
        have L2 := Lib.hid (lo_on L1.out l2)
        clear l2 SS G0 GM
        go_wp2
        go_ret
        exact ⟨by rw [HF.out]; simp, L2.out⟩
end Go.Proofs.Ythncgcdnljoakaa
