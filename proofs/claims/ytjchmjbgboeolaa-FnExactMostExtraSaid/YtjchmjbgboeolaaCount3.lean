/- The contracts of the model's counters. -/
import Derived.Test.YtjchmjbgboeolaaCount2
namespace Go.Proofs.Ytjchmjbgboeolaa
open Go.RowKit
theorem in_is (a b c : Int) (r : Bool) (h : (decide (b ≤ a) && decide (a ≤ c)) = r) (w : World) : Calls Try.prog 41 #[.int .i64 a, .int .i64 b, .int .i64 c] w fun e w' => e = .returned (.bool r) ∧ w = w' := by
  subst h
  exact l1In_any a b c w
theorem specStand_no (v : Value) (xs : List (Int × Int)) (a b m : Int) (w : World) (h : LoadRow w v xs) (hz : (rowB xs && baseB a b) = false ∨ xs.length = 12 ∨ (decide (1 ≤ m) && decide (m ≤ 99)) = false) :
    Calls Try.prog 24 #[v, .int .i64 a, .int .i64 b, .int .i64 m] w fun e w' => e = .returned (.tuple #[.int .i64 0, .int .i64 0, .bool false]) ∧ Below w.heap.size w w' := by
  obtain ⟨r, hr⟩ : ∃ r, (rowB xs && baseB a b) = r := ⟨_, rfl⟩
  have D := Lib.hid (l2On_is v xs a b r hr w h)
  rw [hr] at hz
  obtain ⟨x, c, rfl, _⟩ := h
  clear hr
  cases r with
  | false =>
    clear hz
    go_enter Try.func24, Try.ntmps24
    go_wp2_with fail
    refine D.out.mono ?_
    rintro e w' ⟨rfl, rfl⟩
    go_wp2
    go_ret3
    exact ⟨rfl, Below.refl _ _⟩
  | true =>
    by_cases h12 : xs.length = 12
    · rw [h12] at D ⊢
      clear hz
      go_enter Try.func24, Try.ntmps24
      go_wp2_with fail
      refine D.out.mono ?_
      rintro e w' ⟨rfl, rfl⟩
      go_wp2
      go_ret3
      exact ⟨rfl, Below.refl _ _⟩
    · have hm : (decide (1 ≤ m) && decide (m ≤ 99)) = false := by
        rcases hz with h | h | h
        · cases h
        · exact absurd h h12
        · exact h
      have I := Lib.hid (in_is m 1 99 false hm w)
      have h12i : ¬ (xs.length : Int) = 12 := by omega
      have h12b : ((xs.length : Int) == 12) = false := by simpa using h12i
      clear hz hm
      go_enter Try.func24, Try.ntmps24
      go_wp2_with fail
      refine D.out.mono ?_
      rintro e w' ⟨rfl, rfl⟩
      go_wp2_with fail
      refine I.out.mono ?_
      rintro e w' ⟨rfl, rfl⟩
      go_wp2
      go_ret3
      exact ⟨rfl, Below.refl _ _⟩
def loS (st : Nat → Bool) (k : Nat) : Int := if fdF st k = true then loF st k else -1
def hiS (st : Nat → Bool) (k : Nat) : Int := if fdF st k = true then hiF st k else -1
theorem loS_step (st : Nat → Bool) (k : Nat) : loS st (k + 1) = if st k = true ∧ loS st k < 0 then (k : Int) else loS st k := by
  have hb := (scan_bounds st k).1
  unfold loS
  rw [fdF, loF]
  cases st k <;> cases hf : fdF st k <;> simp <;> omega
theorem hiS_step (st : Nat → Bool) (k : Nat) : hiS st (k + 1) = if st k = true then (k : Int) else hiS st k := by
  unfold hiS
  rw [fdF, hiF]
  cases st k <;> cases fdF st k <;> simp
theorem loS_sign (st : Nat → Bool) (k : Nat) : loS st k < 0 ↔ fdF st k = false := by
  have hb := (scan_bounds st k).1
  unfold loS
  cases fdF st k <;> simp <;> omega
theorem loS_bounds (st : Nat → Bool) (k : Nat) : -1 ≤ loS st k ∧ loS st k ≤ k ∧ -1 ≤ hiS st k ∧ hiS st k ≤ k := by
  have hb := scan_bounds st k
  unfold loS hiS
  split <;> omega
set_option maxHeartbeats 1600000 in
theorem specStand_yes (v : Value) (xs : List (Int × Int)) (a b m : Int) (w : World) (h : SRow w v xs) (hz : RowF xs) (hb : baseB a b = true) (hl : xs.length ≠ 12) (hm : 1 ≤ m ∧ m ≤ 99) :
    Calls Try.prog 24 #[v, .int .i64 a, .int .i64 b, .int .i64 m] w fun e w' => e = .returned (.tuple #[.int .i64 (loF (fun k => decide (sideF a b (xs ++ [((k : Int), m)]) = 0)) 61), .int .i64 (hiF (fun k => decide (sideF a b (xs ++ [((k : Int), m)]) = 0)) 61), .bool (fdF (fun k => decide (sideF a b (xs ++ [((k : Int), m)]) = 0)) 61)]) ∧ Below w.heap.size w w' := by
  have hbb := (baseB_iff a b).1 hb
  have hs := hz.short
  have D := Lib.hid (l2On_is v xs a b true (by rw [(rowB_iff xs).2 hz, hb]; rfl) w h.load)
  have I := Lib.hid (in_is m 1 99 true (by simp; omega) w)
  have WI := Lib.hid (fun (k : Nat) w1 (l : Below w.heap.size w w1) => l2With_any v xs k m w1 (h.lo l) hs)
  have SI := Lib.hid (fun (k : Nat) (hk : k ≤ 60) v1 w1 (o : LoadRow w1 v1 (xs ++ [((k : Int), m)])) => l2Side_any v1 (xs ++ [((k : Int), m)]) a b w1 o (rowF_snoc hz (by omega) ⟨by simp; omega, hm⟩) (by omega) (by omega) (by omega) (by omega))
  have h12i : ¬ (xs.length : Int) = 12 := by omega
  have h12b : ((xs.length : Int) == 12) = false := by simpa using h12i
  obtain ⟨g, off, c, rfl, _⟩ := h
  generalize hst : (fun k : Nat => decide (sideF a b (xs ++ [((k : Int), m)]) = 0)) = st at *
  have HST := Lib.hid (fun k : Nat => show st k = decide (sideF a b (xs ++ [((k : Int), m)]) = 0) by rw [← hst])
  clear hz hb hl hs hbb hst
  go_enter Try.func24, Try.ntmps24
  go_wp2_with fail
  refine D.out.mono ?_
  rintro e w' ⟨rfl, rfl⟩
  go_wp2_with fail
  refine I.out.mono ?_
  rintro e w' ⟨rfl, rfl⟩
  go_wp2
  go_loopw [11, 12, 13] (fun x y i wr => ∃ k : Nat, k ≤ 61 ∧ i = .int .i64 k ∧ x = .int .i64 (loS st k) ∧ y = .int .i64 (hiS st k) ∧ Below w.heap.size w wr) (fun _ _ i _ => 61 - (intOf i).toNat)
  case atStart => exact ⟨0, by omega, rfl, rfl, rfl, Below.refl _ _⟩
  case round =>
    obtain ⟨k, hk, rfl, rfl, rfl, hbl⟩ := hrel
    have hlb := loS_bounds st k
    by_cases hlt : k ≤ 60
    · have hlt' : (k : Int) ≤ 60 := by omega
      have WK := Lib.hid (WI.out k wr hbl)
      have SK := Lib.hid (SI.out k hlt)
      have HK := Lib.hid (HST.out k)
      have H1 := Lib.hid (loS_step st k)
      have H2 := Lib.hid (hiS_step st k)
      generalize sideF a b (xs ++ [((k : Int), m)]) = s at *
      generalize loS st k = lo at *
      generalize hiS st k = hi at *
      generalize st k = t at *
      by_cases h0 : s = 0
      · obtain rfl : t = true := by rw [HK.out]; simpa using h0
        have h0b : (s == 0) = true := by simpa using h0
        clear h0
        by_cases hneg : lo < 0
        · go_wp2_with fail
          refine WK.out.mono ?_
          rintro e w1 ⟨v1, rfl, o1, _, l1⟩
          have LL := Lib.hid (lo_on hbl l1)
          have SS := Lib.hid (SK.out v1 w1 (loadRow_own o1))
          clear l1 WK hbl o1
          go_wp2_with fail
          refine SS.out.mono ?_
          rintro e w2 ⟨rfl, l2⟩
          have L2 := Lib.hid (lo_on LL.out l2)
          clear l2
          have HN := Lib.hid hneg
          go_wp2
          go_roundw
          case rel => exact ⟨k + 1, by omega, by go_num, by rw [H1.out]; simp [HN.out], by rw [H2.out]; simp, L2.out⟩
          case measure => simp [intOf]; omega
        · go_wp2_with fail
          refine WK.out.mono ?_
          rintro e w1 ⟨v1, rfl, o1, _, l1⟩
          have LL := Lib.hid (lo_on hbl l1)
          have SS := Lib.hid (SK.out v1 w1 (loadRow_own o1))
          clear l1 WK hbl o1
          go_wp2_with fail
          refine SS.out.mono ?_
          rintro e w2 ⟨rfl, l2⟩
          have L2 := Lib.hid (lo_on LL.out l2)
          clear l2
          have HN := Lib.hid hneg
          go_wp2
          go_roundw
          case rel => exact ⟨k + 1, by omega, by go_num, by rw [H1.out, if_neg (fun h => by have := HN.out; have := h.2; omega)], by rw [H2.out]; simp, L2.out⟩
          case measure => simp [intOf]; omega
      · obtain rfl : t = false := by rw [HK.out]; simpa using h0
        have h0b : (s == 0) = false := by simpa using h0
        clear h0
        go_wp2_with fail
        refine WK.out.mono ?_
        rintro e w1 ⟨v1, rfl, o1, _, l1⟩
        have LL := Lib.hid (lo_on hbl l1)
        have SS := Lib.hid (SK.out v1 w1 (loadRow_own o1))
        clear l1 WK hbl o1
        go_wp2_with fail
        refine SS.out.mono ?_
        rintro e w2 ⟨rfl, l2⟩
        have L2 := Lib.hid (lo_on LL.out l2)
        clear l2
        go_wp2
        go_roundw
        case rel => exact ⟨k + 1, by omega, by go_num, by rw [H1.out]; simp, by rw [H2.out]; simp, L2.out⟩
        case measure => simp [intOf]; omega
    · obtain rfl : k = 61 := by omega
      have hsg := loS_sign st 61
      have hno := scan_none st 61
      have HLO := Lib.hid (show loS st 61 = if fdF st 61 = true then loF st 61 else -1 from rfl)
      have HHI := Lib.hid (show hiS st 61 = if fdF st 61 = true then hiF st 61 else -1 from rfl)
      generalize loS st 61 = lo at *
      generalize hiS st 61 = hi at *
      cases hfd : fdF st 61 with
      | false =>
        obtain ⟨e1, e2⟩ := hno hfd
        have hneg : lo < 0 := hsg.2 hfd
        have E1 := Lib.hid e1
        have E2 := Lib.hid e2
        have E3 := Lib.hid hfd
        clear hno hsg e1 e2 hfd HLO HHI
        go_wp2
        go_ret3
        exact ⟨by rw [E1.out, E2.out, E3.out]; rfl, hbl⟩
      | true =>
        have hneg : ¬ lo < 0 := fun h => by have := hsg.1 h; rw [hfd] at this; cases this
        have E1 := Lib.hid (show loF st 61 = lo by rw [HLO.out, hfd]; simp)
        have E2 := Lib.hid (show hiF st 61 = hi by rw [HHI.out, hfd]; simp)
        have E3 := Lib.hid hfd
        clear hno hsg hfd HLO HHI
        go_wp2
        go_ret3
        exact ⟨by rw [E1.out, E2.out, E3.out]; rfl, hbl⟩
end Go.Proofs.Ytjchmjbgboeolaa
