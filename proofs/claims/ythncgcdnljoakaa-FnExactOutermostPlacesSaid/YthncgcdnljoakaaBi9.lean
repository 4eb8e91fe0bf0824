/- The contract of the model's OutermostPlaces. -/
import Derived.Test.YthncgcdnljoakaaBi8
import Derived.Test.YthncgcdnljoakaaBi7
namespace Go.Proofs.Ythncgcdnljoakaa
open Go.RowKit
theorem in_is (a b c : Int) (r : Bool) (h : (decide (b ≤ a) && decide (a ≤ c)) = r) (w : World) : Calls Try.prog 92 #[.int .i64 a, .int .i64 b, .int .i64 c] w fun e w' => e = .returned (.bool r) ∧ w = w' := by
  subst h
  exact l1In_any a b c w
def loS (st : Nat → Bool) (k : Nat) : Int := if fdF st k = true then loF st k else -1
def hiS (st : Nat → Bool) (k : Nat) : Int := if fdF st k = true then hiF st k else -1
theorem loS_step (st : Nat → Bool) (k : Nat) : loS st (k + 1) = if st k = true ∧ loS st k < 0 then (k : Int) else loS st k := by
  have hb := (scan_bounds st k).1
  unfold loS
  rw [fdF, loF]
  cases st k <;> cases hf : fdF st k <;> simp <;> omega
theorem hiS_step (st : Nat → Bool) (k : Nat) : hiS st (k + 1) = if st k = true then (k : Int) else hiS st k := by
  unfold hiS
  rw [fdF, hiF]
  cases st k <;> cases fdF st k <;> simp
theorem loS_sign (st : Nat → Bool) (k : Nat) : loS st k < 0 ↔ fdF st k = false := by
  have hb := (scan_bounds st k).1
  unfold loS
  cases fdF st k <;> simp <;> omega
theorem loS_bounds (st : Nat → Bool) (k : Nat) : -1 ≤ loS st k ∧ loS st k ≤ k ∧ -1 ≤ hiS st k ∧ hiS st k ≤ k := by
  have hb := scan_bounds st k
  unfold loS hiS
  split <;> omega
theorem standB_row {xs : List (Int × Int)} {a b : Int} {x : Int × Int} (h : standB xs a b x = true) : (rowB xs && baseB a b) = true ∧ xs.length < 12 ∧ (0 ≤ x.1 ∧ x.1 ≤ 60) ∧ 1 ≤ x.2 ∧ x.2 ≤ 99 := by
  unfold standB at h
  rw [Bool.and_eq_true, Bool.and_eq_true] at h
  obtain ⟨⟨h1, h2⟩, _⟩ := h
  have hz := (rowB_iff _).1 h1
  have hs := hz.short
  simp at hs
  refine ⟨by rw [(rowB_app h1).1, h2]; rfl, by omega, hz.each x (by simp)⟩
theorem standB_is {xs : List (Int × Int)} {a b : Int} {x : Int × Int} (hz : RowF xs) (hb : baseB a b = true) (hl : xs.length ≠ 12) (hx : (0 ≤ x.1 ∧ x.1 ≤ 60) ∧ 1 ≤ x.2 ∧ x.2 ≤ 99) : standB xs a b x = decide (sideF a b (xs ++ [x]) = 0) := by
  unfold standB
  rw [(rowB_iff _).2 (rowF_snoc hz (by have := hz.short; omega) hx), hb]
  rfl
theorem onB_row {p : BeamV} {xs : List (Int × Int)} (h : onB p xs = true) : beamB p = true ∧ rowB xs = true := by
  rw [onB_parts] at h
  simp only [Bool.and_eq_true] at h
  exact h.1
set_option maxHeartbeats 1600000 in
theorem specOut_no (p : BeamV) (v : Value) (xs : List (Int × Int)) (m : Int) (w : World) (h : LoadRow w v xs) (hz : onB p xs = false ∨ xs.length = 12 ∨ (decide (1 ≤ m) && decide (m ≤ 99)) = false) :
    Calls Try.prog 44 #[.agg #[.int .i64 p.l, .int .i64 p.a, .int .i64 p.b], v, .int .i64 m] w fun e w' => e = .returned (.tuple #[.int .i64 0, .int .i64 0, .bool false]) ∧ Below w.heap.size w w' := by
  obtain ⟨W, hW⟩ : ∃ W, w.alloc (.cells #[.int .i64 p.l, .int .i64 p.a, .int .i64 p.b] 25) = W := ⟨_, rfl⟩
  have LW := Lib.hid (show Below w.heap.size w W by rw [← hW]; exact below_new _ _)
  have BX := Lib.hid (show Cel3 W w.heap.size (.int .i64 p.l) (.int .i64 p.a) (.int .i64 p.b) by rw [← hW]; exact cel3_new _ _ _ _ _)
  have D := Lib.hid (l6On_any p v xs W (h.lo LW.out))
  generalize onB p xs = r at *
  obtain ⟨x, c, rfl, _⟩ := h
  obtain ⟨l, a, b⟩ := p
  simp only at hW BX D ⊢
  obtain ⟨_, u0, u1, u2⟩ := BX.out
  cases r with
  | false =>
    clear hz
    go_enter Try.func44, Try.ntmps44
    go_wp2_with fail
    clear hW
    refine D.out.mono ?_
    rintro e w1 ⟨rfl, l1⟩
    go_wp2
    go_ret3
    exact ⟨rfl, lo_on LW.out l1⟩
  | true =>
    by_cases h12 : xs.length = 12
    · rw [h12] at D ⊢
      clear hz
      go_enter Try.func44, Try.ntmps44
      go_wp2_with fail
      clear hW
      refine D.out.mono ?_
      rintro e w1 ⟨rfl, l1⟩
      go_wp2
      go_ret3
      exact ⟨rfl, lo_on LW.out l1⟩
    · have hm : (decide (1 ≤ m) && decide (m ≤ 99)) = false := by
        rcases hz with h | h | h
        · cases h
        · exact absurd h h12
        · exact h
      have I := Lib.hid (fun w => in_is m 1 99 false hm w)
      have h12i : ¬ (xs.length : Int) = 12 := by omega
      have h12b : ((xs.length : Int) == 12) = false := by simpa using h12i
      clear hz hm
      go_enter Try.func44, Try.ntmps44
      go_wp2_with fail
      clear hW
      refine D.out.mono ?_
      rintro e w1 ⟨rfl, l1⟩
      go_wp2_with fail
      refine (I.out _).mono ?_
      rintro e w' ⟨rfl, rfl⟩
      go_wp2
      go_ret3
      exact ⟨rfl, lo_on LW.out l1⟩
set_option maxRecDepth 100000 in
set_option maxHeartbeats 6400000 in
theorem specOut_yes (p : BeamV) (L : Nat) (hL : p.l = (L : Int)) (v : Value) (xs : List (Int × Int)) (m : Int) (w : World) (h : SRow w v xs) (hon : onB p xs = true) (hl : xs.length ≠ 12) (hm : 1 ≤ m ∧ m ≤ 99) (st : Nat → Bool) (HST : Hid (∀ k : Nat, st k = decide (sideF p.a p.b (xs ++ [((k : Int), m)]) = 0))) :
    Calls Try.prog 44 #[.agg #[.int .i64 p.l, .int .i64 p.a, .int .i64 p.b], v, .int .i64 m] w fun e w' => e = .returned (.tuple #[.int .i64 (loF st (L + 1)), .int .i64 (hiF st (L + 1)), .bool (fdF st (L + 1))]) ∧ Below w.heap.size w w' := by
  obtain ⟨hbm, hrw⟩ := onB_row hon
  obtain ⟨q1, q2, q3, q4, q5⟩ := (beamB_iff p).1 hbm
  have hz := (rowB_iff xs).1 hrw
  have hs := hz.short
  obtain ⟨W, hW⟩ : ∃ W, w.alloc (.cells #[.int .i64 p.l, .int .i64 p.a, .int .i64 p.b] 25) = W := ⟨_, rfl⟩
  have LW := Lib.hid (show Below w.heap.size w W by rw [← hW]; exact below_new _ _)
  have BX := Lib.hid (show Cel3 W w.heap.size (.int .i64 p.l) (.int .i64 p.a) (.int .i64 p.b) by rw [← hW]; exact cel3_new _ _ _ _ _)
  have D := Lib.hid (l6On_is p v xs true hon W (h.lo LW.out).load)
  have I := Lib.hid (fun w => in_is m 1 99 true (by simp; omega) w)
  have WI := Lib.hid (fun (k : Nat) w1 (l : Below w.heap.size w w1) => (l2With_any v xs k m w1 (h.lo l) hs).mono fun e w' ⟨u, h1, h2, _, h4⟩ => (⟨u, h1, loadRow_own h2, h4⟩ : ∃ u, e = Ending.returned u ∧ LoadRow w' u (xs ++ [((k : Int), m)]) ∧ Below w1.heap.size w1 w'))
  have SI := Lib.hid (fun (k : Nat) (hk : k ≤ 60) v1 w1 (o : LoadRow w1 v1 (xs ++ [((k : Int), m)])) => l2Side_any v1 (xs ++ [((k : Int), m)]) p.a p.b w1 o (rowF_snoc hz (by omega) ⟨by simp; omega, hm⟩) (by omega) (by omega) (by omega) (by omega))
  have h12i : ¬ (xs.length : Int) = 12 := by omega
  have h12b : ((xs.length : Int) == 12) = false := by simpa using h12i
  obtain ⟨g, off, c, rfl, _⟩ := h
  obtain ⟨l, a, b⟩ := p
  simp only at hL q1 q2 q3 q4 q5 hW BX D SI HST ⊢
  subst hL
  obtain ⟨_, u0, u1, u2⟩ := BX.out
  clear hz hbm hrw hl hs hon
  go_enter Try.func44, Try.ntmps44
  go_wp2_with fail
  clear hW
  refine D.out.mono ?_
  rintro e w1 ⟨rfl, l1⟩
  have B1 := Lib.hid (BX.out.lo l1)
  have L1 := Lib.hid (lo_on LW.out l1)
  clear l1 BX LW u0 u1 u2 D
  go_wp2_with fail
  refine (I.out _).mono ?_
  rintro e w' ⟨rfl, rfl⟩
  clear I
  go_wp2
  go_loopw [9, 10, 11] (fun x y i wr => ∃ k : Nat, k ≤ L + 1 ∧ i = .int .i64 k ∧ x = .int .i64 (loS st k) ∧ y = .int .i64 (hiS st k) ∧ Hid (Below w1.heap.size w1 wr)) (fun _ _ i _ => L + 1 - (intOf i).toNat)
  case atStart => exact ⟨0, by omega, rfl, rfl, rfl, Lib.hid (Below.refl _ _)⟩
  case round =>
    obtain ⟨k, hk, rfl, rfl, rfl, HL⟩ := hrel
    have hlb := loS_bounds st k
    obtain ⟨hbx, x0, x1, x2⟩ := B1.out.lo HL.out
    by_cases hlt : k < L + 1
    · have hlt' : (k : Int) ≤ (L : Int) := by omega
      have WK := Lib.hid (WI.out k wr.drew (lo_on (lo_on L1.out HL.out) (drw_b wr)))
      have SK := Lib.hid (SI.out k (by omega))
      have HK := Lib.hid (HST.out k)
      have H1 := Lib.hid (loS_step st k)
      have H2 := Lib.hid (hiS_step st k)
      generalize sideF a b (xs ++ [((k : Int), m)]) = s at *
      generalize xs ++ [((k : Int), m)] = rows at *
      generalize loS st k = lo at *
      generalize hiS st k = hi at *
      generalize st k = t at *
      by_cases h0 : s = 0
      · obtain rfl : t = true := by rw [HK.out]; simpa using h0
        subst h0
        by_cases hneg : lo < 0
        · have HN := Lib.hid hneg
          go_wp2
          go_region_held3 (fun w' => w'.cell? ⟨w.heap.size, 1, none⟩ = some (.int .i64 a) ∧ w'.cell? ⟨w.heap.size, 2, none⟩ = some (.int .i64 b))
            (first | exact ⟨x1, x2⟩ | go_keep)
            (first
              | (go_at_call 97; refine WK.out.mono ?_; rintro e5 v5 ⟨ur, rfl, m5, hl5⟩
                 have L5 := Lib.hid (show Below w1.heap.size w1 v5 from lo_on (lo_on HL.out (drw_b wr)) hl5)
                 have DD := Lib.hid (SK.out ur v5 m5)
                 clear x0 x1 x2 hl5 m5
                 obtain ⟨_, x0, x1, x2⟩ := B1.out.lo L5.out)
              | (go_at_call 79; refine DD.out.mono ?_; rintro e6 v6 ⟨rfl, hl6⟩
                 have L6 := Lib.hid (show Below w1.heap.size w1 v6 from lo_on L5.out hl6)
                 clear x0 x1 x2 hl6
                 obtain ⟨_, x0, x1, x2⟩ := B1.out.lo L6.out))
          go_wp2
          go_roundw
          case rel => exact ⟨k + 1, by omega, by go_num, by rw [H1.out]; simp [HN.out], by rw [H2.out]; simp, L6⟩
          case measure => simp [intOf]; omega
        · have HN := Lib.hid hneg
          go_wp2
          go_region_held3 (fun w' => w'.cell? ⟨w.heap.size, 1, none⟩ = some (.int .i64 a) ∧ w'.cell? ⟨w.heap.size, 2, none⟩ = some (.int .i64 b))
            (first | exact ⟨x1, x2⟩ | go_keep)
            (first
              | (go_at_call 97; refine WK.out.mono ?_; rintro e5 v5 ⟨ur, rfl, m5, hl5⟩
                 have L5 := Lib.hid (show Below w1.heap.size w1 v5 from lo_on (lo_on HL.out (drw_b wr)) hl5)
                 have DD := Lib.hid (SK.out ur v5 m5)
                 clear x0 x1 x2 hl5 m5
                 obtain ⟨_, x0, x1, x2⟩ := B1.out.lo L5.out)
              | (go_at_call 79; refine DD.out.mono ?_; rintro e6 v6 ⟨rfl, hl6⟩
                 have L6 := Lib.hid (show Below w1.heap.size w1 v6 from lo_on L5.out hl6)
                 clear x0 x1 x2 hl6
                 obtain ⟨_, x0, x1, x2⟩ := B1.out.lo L6.out))
          go_wp2
          go_roundw
          case rel => exact ⟨k + 1, by omega, by go_num, by rw [H1.out, if_neg (fun h => by have := HN.out; have := h.2; omega)], by rw [H2.out]; simp, L6⟩
          case measure => simp [intOf]; omega
      · obtain rfl : t = false := by rw [HK.out]; simpa using h0
        have h0b : (s == 0) = false := by simpa using h0
        clear h0
        go_wp2
        go_region_held3 (fun w' => w'.cell? ⟨w.heap.size, 1, none⟩ = some (.int .i64 a) ∧ w'.cell? ⟨w.heap.size, 2, none⟩ = some (.int .i64 b))
          (first | exact ⟨x1, x2⟩ | go_keep)
          (first
            | (go_at_call 97; refine WK.out.mono ?_; rintro e5 v5 ⟨ur, rfl, m5, hl5⟩
               have L5 := Lib.hid (show Below w1.heap.size w1 v5 from lo_on (lo_on HL.out (drw_b wr)) hl5)
               have DD := Lib.hid (SK.out ur v5 m5)
               clear x0 x1 x2 hl5 m5
               obtain ⟨_, x0, x1, x2⟩ := B1.out.lo L5.out)
            | (go_at_call 79; refine DD.out.mono ?_; rintro e6 v6 ⟨rfl, hl6⟩
               have L6 := Lib.hid (show Below w1.heap.size w1 v6 from lo_on L5.out hl6)
               clear x0 x1 x2 hl6
               obtain ⟨_, x0, x1, x2⟩ := B1.out.lo L6.out))
        go_wp2
        go_roundw
        case rel => exact ⟨k + 1, by omega, by go_num, by rw [H1.out]; simp, by rw [H2.out]; simp, L6⟩
        case measure => simp [intOf]; omega
    · obtain rfl : k = L + 1 := by omega
      have hge : ¬ ((L : Int) + 1 ≤ (L : Int)) := by omega
      have hge2 : ¬ (((L + 1 : Nat) : Int) ≤ (L : Int)) := by omega
      have hsg := loS_sign st (L + 1)
      have hno := scan_none st (L + 1)
      have HLO := Lib.hid (show loS st (L + 1) = if fdF st (L + 1) = true then loF st (L + 1) else -1 from rfl)
      have HHI := Lib.hid (show hiS st (L + 1) = if fdF st (L + 1) = true then hiF st (L + 1) else -1 from rfl)
      generalize loS st (L + 1) = lo at *
      generalize hiS st (L + 1) = hi at *
      cases hfd : fdF st (L + 1) with
      | false =>
        obtain ⟨e1, e2⟩ := hno hfd
        have hneg : lo < 0 := hsg.2 hfd
        have E1 := Lib.hid e1
        have E2 := Lib.hid e2
        have E3 := Lib.hid hfd
        clear hno hsg e1 e2 hfd HLO HHI
        go_wp2
        go_ret3
        exact ⟨by rw [E1.out, E2.out, E3.out]; rfl, lo_on L1.out HL.out⟩
      | true =>
        have hneg : ¬ lo < 0 := fun h => by have := hsg.1 h; rw [hfd] at this; cases this
        have E1 := Lib.hid (show loF st (L + 1) = lo by rw [HLO.out, hfd]; simp)
        have E2 := Lib.hid (show hiF st (L + 1) = hi by rw [HHI.out, hfd]; simp)
        have E3 := Lib.hid hfd
        clear hno hsg hfd HLO HHI
        go_wp2
        go_ret3
        exact ⟨by rw [E1.out, E2.out, E3.out]; rfl, lo_on L1.out HL.out⟩
theorem specOut_any (p : BeamV) (v : Value) (xs : List (Int × Int)) (m : Int) (w : World) (h : SRow w v xs) :
    Calls Try.prog 44 #[.agg #[.int .i64 p.l, .int .i64 p.a, .int .i64 p.b], v, .int .i64 m] w fun e w' => e = .returned (.tuple #[.int .i64 (opLo p xs m), .int .i64 (opHi p xs m), .bool (opB p xs m)]) ∧ Below w.heap.size w w' := by
  by_cases hz : onB p xs = false ∨ xs.length = 12 ∨ (decide (1 ≤ m) && decide (m ≤ 99)) = false
  · have hn : ∀ j, opS p xs m j = false := fun k => by
      unfold opS
      cases e : onB p xs with
      | false => rfl
      | true =>
        cases e2 : standB xs p.a p.b ((k : Int), m) with
        | false => rfl
        | true =>
          have hh := standB_row e2
          rcases hz with h | h | h
          · rw [h] at e; cases e
          · omega
          · have := hh.2.2.2; simp at h this; omega
    obtain ⟨e1, e2, e3⟩ := op_none hn
    rw [e1, e2, e3]
    exact specOut_no p v xs m w h.load hz
  · simp only [not_or, Bool.not_eq_false] at hz
    obtain ⟨hon, hl, hm⟩ := hz
    have hm' : 1 ≤ m ∧ m ≤ 99 := by simpa using hm
    obtain ⟨hbm, hrw⟩ := onB_row hon
    have q := (beamB_iff p).1 hbm
    obtain ⟨L, hL⟩ : ∃ L : Nat, p.l = (L : Int) := ⟨p.l.toNat, by omega⟩
    have hc := scan_congr (st := opS p xs m) (su := fun k : Nat => decide (sideF p.a p.b (xs ++ [((k : Int), m)]) = 0)) (L + 1) (fun j hj => by
      unfold opS
      rw [hon, Bool.true_and]
      exact standB_is ((rowB_iff xs).1 hrw) (by rw [baseB_iff]; omega) hl ⟨by simp; omega, hm'⟩)
    unfold opLo opHi opB
    rw [show p.l.toNat = L by omega, hc.1, hc.2.1, hc.2.2]
    exact specOut_yes p L hL v xs m w h hon hl hm' _ (Lib.hid (fun k => rfl))
end Go.Proofs.Ythncgcdnljoakaa
