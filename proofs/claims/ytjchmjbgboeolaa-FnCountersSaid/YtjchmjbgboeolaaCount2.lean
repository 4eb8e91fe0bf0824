/- The contracts of the program's LeastCounter and MostExtra. -/
import Derived.Test.YtjchmjbgboeolaaCount1
namespace Go.Proofs.Ytjchmjbgboeolaa
open Go.RowKit
theorem place_is (p : Int) (r : Bool) (h : (decide (0 ≤ p) && decide (p ≤ 60)) = r) (w : World) : Calls Try.prog 50 #[.int .i64 p] w fun e w' => e = .returned (.bool r) ∧ w = w' := by
  subst h
  exact isPlace_any p w
theorem leastCounter_no (v : Value) (xs : List (Int × Int)) (a b p : Int) (w : World) (h : LoadRow w v xs) (hz : (rowB xs && baseB a b && (decide (0 ≤ p) && decide (p ≤ 60))) = false) :
    Calls Try.prog 27 #[v, .int .i64 a, .int .i64 b, .int .i64 p] w fun e w' => e = .returned (.tuple #[.int .i64 0, .bool false]) ∧ Below w.heap.size w w' := by
  cases hb : (rowB xs && baseB a b) with
  | false =>
    have T := Lib.hid (tipSide_no v xs a b w h hb)
    clear h hz hb
    go_enter Try.func27, Try.ntmps27
    go_wp2_with fail
    refine T.out.mono ?_
    rintro e w1 ⟨rfl, l1⟩
    go_wp2
    go_ret2
    exact ⟨rfl, l1⟩
  | true =>
    rw [hb, Bool.true_and] at hz
    rw [Bool.and_eq_true] at hb
    have T := Lib.hid (tipSide_yes v xs a b w h ((rowB_iff xs).1 hb.1) hb.2)
    have PP := Lib.hid (fun w => place_is p false hz w)
    clear h hz hb
    generalize sideF a b xs = s at *
    go_enter Try.func27, Try.ntmps27
    go_wp2_with fail
    refine T.out.mono ?_
    rintro e w1 ⟨rfl, l1⟩
    go_wp2_with fail
    refine (PP.out _).mono ?_
    rintro e w' ⟨rfl, rfl⟩
    go_wp2
    go_ret2
    exact ⟨rfl, l1⟩
theorem leastCounter_zero (v : Value) (xs : List (Int × Int)) (a b p : Int) (w : World) (h : LoadRow w v xs) (hz : RowF xs) (hb : baseB a b = true) (hp : (decide (0 ≤ p) && decide (p ≤ 60)) = true) (hs : sideF a b xs = 0) :
    Calls Try.prog 27 #[v, .int .i64 a, .int .i64 b, .int .i64 p] w fun e w' => e = .returned (.tuple #[.int .i64 0, .bool true]) ∧ Below w.heap.size w w' := by
  have T := Lib.hid (tipSide_yes v xs a b w h hz hb)
  rw [hs] at T
  have PP := Lib.hid (fun w => place_is p true hp w)
  clear h hz hb hp hs
  go_enter Try.func27, Try.ntmps27
  go_wp2_with fail
  refine T.out.mono ?_
  rintro e w1 ⟨rfl, l1⟩
  go_wp2_with fail
  refine (PP.out _).mono ?_
  rintro e w' ⟨rfl, rfl⟩
  go_wp2
  go_ret2
  exact ⟨rfl, l1⟩
set_option maxHeartbeats 1600000 in
theorem leastCounter_far (v : Value) (xs : List (Int × Int)) (a b p : Int) (w : World) (h : SRow w v xs) (hz : RowF xs) (hb : baseB a b = true) (hp : (decide (0 ≤ p) && decide (p ≤ 60)) = true) (hs : sideF a b xs ≠ 0) :
    Calls Try.prog 27 #[v, .int .i64 a, .int .i64 b, .int .i64 p] w fun e w' => e = .returned (.tuple #[.int .i64 (lcF (fun k => standB xs a b (p, (k : Int))) 99 1).1, .bool (lcF (fun k => standB xs a b (p, (k : Int))) 99 1).2]) ∧ Below w.heap.size w w' := by
  have T := Lib.hid (tipSide_yes v xs a b w h.load hz hb)
  have PP := Lib.hid (fun w => place_is p true hp w)
  have SW := Lib.hid (fun (k : Nat) r (hr : standB xs a b (p, (k : Int)) = r) w1 (l : Below w.heap.size w w1) => standsWith_is v xs p k a b r hr w1 (h.lo l))
  generalize hst : (fun k : Nat => standB xs a b (p, (k : Int))) = st at *
  have HST := Lib.hid (fun k : Nat => show st k = standB xs a b (p, (k : Int)) by rw [← hst])
  generalize sideF a b xs = s at *
  have hsb : (s == 0) = false := by simpa using hs
  obtain ⟨n, r, hnr⟩ : ∃ n r, lcF st 99 1 = (n, r) := ⟨_, _, rfl⟩
  have HNR := Lib.hid hnr
  rw [hnr]
  clear h hz hb hp hs hst hnr
  go_enter Try.func27, Try.ntmps27
  go_wp2_with fail
  refine T.out.mono ?_
  rintro e w1 ⟨rfl, l1⟩
  go_wp2_with fail
  refine (PP.out _).mono ?_
  rintro e w' ⟨rfl, rfl⟩
  go_wp2
  go_loopw [12] (fun i wr => ∃ k f : Nat, i = .int .i64 k ∧ k + f = 100 ∧ Hid (lcF st f k = (n, r)) ∧ Below w.heap.size w wr) (fun i _ => 100 - (intOf i).toNat)
  case atStart => exact ⟨1, 99, rfl, rfl, HNR, l1⟩
  case round =>
    obtain ⟨k, f, rfl, hkf, HL, hbl⟩ := hrel
    clear l1 T PP HNR
    cases f with
    | succ f =>
      have hlt' : (k : Int) ≤ 99 := by omega
      have CK := Lib.hid (SW.out k (st k) (HST.out k).symm wr hbl)
      have HS := Lib.hid (show lcF st (f + 1) k = if st k = true then ((k : Int), true) else lcF st f (k + 1) from rfl)
      generalize st k = s' at CK HS
      cases s'
      · have HL2 := Lib.hid (show lcF st f (k + 1) = (n, r) by rw [← HL.out, HS.out]; simp)
        go_wp2_with fail
        refine CK.out.mono ?_
        rintro e w1 ⟨rfl, l1⟩
        have LL := Lib.hid (lo_on hbl l1)
        clear l1 CK hbl
        go_wp2
        go_roundw
        case rel => exact ⟨k + 1, f, by go_num, by omega, HL2, LL.out⟩
        case measure => simp [intOf]; omega
      · have HL2 := HL.out
        rw [HS.out, if_pos rfl] at HL2
        cases HL2
        go_wp2_with fail
        refine CK.out.mono ?_
        rintro e w1 ⟨rfl, l1⟩
        have LL := Lib.hid (lo_on hbl l1)
        clear l1 CK hbl
        go_wp2
        go_ret2
        exact ⟨rfl, LL.out⟩
    | zero =>
      obtain rfl : k = 100 := by omega
      have HL2 := HL.out
      rw [lcF] at HL2
      cases HL2
      go_wp2
      go_ret2
      exact ⟨rfl, hbl⟩
theorem mostExtra_no (v : Value) (xs : List (Int × Int)) (a b p : Int) (w : World) (h : LoadRow w v xs) (hz : (rowB xs && baseB a b) = false ∨ sideF a b xs ≠ 0 ∨ xs.length = 12 ∨ (decide (0 ≤ p) && decide (p ≤ 60)) = false) :
    Calls Try.prog 29 #[v, .int .i64 a, .int .i64 b, .int .i64 p] w fun e w' => e = .returned (.tuple #[.int .i64 0, .bool false]) ∧ Below w.heap.size w w' := by
  cases hb : (rowB xs && baseB a b) with
  | false =>
    have T := Lib.hid (tipSide_no v xs a b w h hb)
    clear h hz hb
    go_enter Try.func29, Try.ntmps29
    go_wp2_with fail
    refine T.out.mono ?_
    rintro e w1 ⟨rfl, l1⟩
    go_wp2
    go_ret2
    exact ⟨rfl, l1⟩
  | true =>
    rw [hb] at hz
    rw [Bool.and_eq_true] at hb
    have T := Lib.hid (tipSide_yes v xs a b w h ((rowB_iff xs).1 hb.1) hb.2)
    have hlen := ((rowB_iff xs).1 hb.1).short
    by_cases hs : sideF a b xs = 0
    · rw [hs] at T
      obtain ⟨x, c, rfl, _⟩ := h
      by_cases h12 : xs.length = 12
      · rw [h12] at T ⊢
        clear hz hb hs hlen
        go_enter Try.func29, Try.ntmps29
        go_wp2_with fail
        refine T.out.mono ?_
        rintro e w1 ⟨rfl, l1⟩
        go_wp2
        go_ret2
        exact ⟨rfl, l1⟩
      · have hp : (decide (0 ≤ p) && decide (p ≤ 60)) = false := by
          rcases hz with h | h | h | h
          · cases h
          · exact absurd hs h
          · exact absurd h h12
          · exact h
        have PP := Lib.hid (fun w => place_is p false hp w)
        have h12i : ¬ (xs.length : Int) = 12 := by omega
        have h12b : ((xs.length : Int) == 12) = false := by simpa using h12i
        clear hz hb hs hp
        go_enter Try.func29, Try.ntmps29
        go_wp2_with fail
        refine T.out.mono ?_
        rintro e w1 ⟨rfl, l1⟩
        go_wp2_with fail
        refine (PP.out _).mono ?_
        rintro e w' ⟨rfl, rfl⟩
        go_wp2
        go_ret2
        exact ⟨rfl, l1⟩
    · generalize sideF a b xs = s at *
      have hsb : (s != 0) = true := by simpa using hs
      clear h hz hb hs
      go_enter Try.func29, Try.ntmps29
      go_wp2_with fail
      refine T.out.mono ?_
      rintro e w1 ⟨rfl, l1⟩
      go_wp2
      go_ret2
      exact ⟨rfl, l1⟩
set_option maxHeartbeats 1600000 in
theorem mostExtra_yes (v : Value) (xs : List (Int × Int)) (a b p : Int) (w : World) (h : SRow w v xs) (hz : RowF xs) (hb : baseB a b = true) (hp : (decide (0 ≤ p) && decide (p ≤ 60)) = true) (hs : sideF a b xs = 0) (hl : xs.length ≠ 12) :
    Calls Try.prog 29 #[v, .int .i64 a, .int .i64 b, .int .i64 p] w fun e w' => e = .returned (.tuple #[.int .i64 (mtF (fun k => standB xs a b (p, (k : Int))) 99), .bool true]) ∧ Below w.heap.size w w' := by
  have T := Lib.hid (tipSide_yes v xs a b w h.load hz hb)
  rw [hs] at T
  have PP := Lib.hid (fun w => place_is p true hp w)
  have SW := Lib.hid (fun (k : Nat) r (hr : standB xs a b (p, (k : Int)) = r) w1 (l : Below w.heap.size w w1) => standsWith_is v xs p k a b r hr w1 (h.lo l))
  generalize hst : (fun k : Nat => standB xs a b (p, (k : Int))) = st at *
  have HST := Lib.hid (fun k : Nat => show st k = standB xs a b (p, (k : Int)) by rw [← hst])
  have h12i : ¬ (xs.length : Int) = 12 := by omega
  have h12b : ((xs.length : Int) == 12) = false := by simpa using h12i
  obtain ⟨n, hn⟩ : ∃ n, mtF st 99 = n := ⟨_, rfl⟩
  have HN := Lib.hid hn
  rw [hn]
  obtain ⟨g, off, c, rfl, _⟩ := h
  clear hz hb hp hs hst hn hl
  go_enter Try.func29, Try.ntmps29
  go_wp2_with fail
  refine T.out.mono ?_
  rintro e w1 ⟨rfl, l1⟩
  go_wp2_with fail
  refine (PP.out _).mono ?_
  rintro e w' ⟨rfl, rfl⟩
  go_wp2
  go_loopw [12] (fun i wr => ∃ k : Nat, i = .int .i64 k ∧ k ≤ 99 ∧ Hid (mtF st k = n) ∧ Below w.heap.size w wr) (fun i _ => (intOf i).toNat)
  case atStart => exact ⟨99, rfl, Nat.le_refl _, HN, l1⟩
  case round =>
    obtain ⟨k, rfl, hk, HL, hbl⟩ := hrel
    clear l1 T PP HN
    cases k with
    | succ k =>
      have hge : (1 : Int) ≤ ((k + 1 : Nat) : Int) := by omega
      have CK := Lib.hid (SW.out (k + 1) (st (k + 1)) (HST.out (k + 1)).symm wr hbl)
      have HS := Lib.hid (show mtF st (k + 1) = if st (k + 1) = true then ((k + 1 : Nat) : Int) else mtF st k from rfl)
      generalize st (k + 1) = s' at CK HS
      obtain ⟨K, hK⟩ : ∃ K, K = k + 1 := ⟨_, rfl⟩
      rw [← hK] at CK HS hge HL hk ⊢
      have hK1 : (K : Int) - 1 = (k : Int) := by omega
      have hK2 : (K : Int) ≤ 99 := by omega
      have HK := Lib.hid hK
      clear hK
      cases s'
      · have HL2 := Lib.hid (show mtF st k = n by rw [← HL.out, HS.out]; simp)
        go_wp2_with fail
        refine CK.out.mono ?_
        rintro e w1 ⟨rfl, l1⟩
        have LL := Lib.hid (lo_on hbl l1)
        clear l1 CK hbl
        go_wp2
        go_roundw
        case rel => exact ⟨k, rfl, by have := HK.out; omega, HL2, LL.out⟩
        case measure => simp [intOf]; have := HK.out; omega
      · have HL2 := HL.out
        rw [HS.out, if_pos rfl] at HL2
        subst HL2
        go_wp2_with fail
        refine CK.out.mono ?_
        rintro e w1 ⟨rfl, l1⟩
        have LL := Lib.hid (lo_on hbl l1)
        clear l1 CK hbl
        go_wp2
        go_ret2
        exact ⟨rfl, LL.out⟩
    | zero =>
      have HL2 := HL.out
      rw [mtF] at HL2
      subst HL2
      have h0 : ¬ (1 : Int) ≤ ((0 : Nat) : Int) := by omega
      go_wp2
      go_ret2
      exact ⟨rfl, hbl⟩
end Go.Proofs.Ytjchmjbgboeolaa
