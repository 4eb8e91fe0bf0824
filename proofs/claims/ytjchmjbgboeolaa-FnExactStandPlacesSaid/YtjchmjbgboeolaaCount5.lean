/- The contract of the model's MostExtra. -/
import Derived.Test.YtjchmjbgboeolaaCount4
namespace Go.Proofs.Ytjchmjbgboeolaa
open Go.RowKit
set_option maxHeartbeats 1600000 in
theorem specMost_no (v : Value) (xs : List (Int × Int)) (a b p : Int) (w : World) (h : LoadRow w v xs) (hz : (rowB xs && baseB a b) = false ∨ sideF a b xs ≠ 0 ∨ xs.length = 12 ∨ (decide (0 ≤ p) && decide (p ≤ 60)) = false) :
    Calls Try.prog 28 #[v, .int .i64 a, .int .i64 b, .int .i64 p] w fun e w' => e = .returned (.tuple #[.int .i64 0, .bool false]) ∧ Below w.heap.size w w' := by
  cases hb : (rowB xs && baseB a b) with
  | false =>
    have D := Lib.hid (l2On_is v xs a b false hb w h)
    clear h hz hb
    go_enter Try.func28, Try.ntmps28
    go_wp2_with fail
    refine D.out.mono ?_
    rintro e w' ⟨rfl, rfl⟩
    go_wp2
    go_ret2
    exact ⟨rfl, Below.refl _ _⟩
  | true =>
    have D := Lib.hid (l2On_is v xs a b true hb w h)
    rw [hb] at hz
    rw [Bool.and_eq_true] at hb
    have hx := (rowB_iff xs).1 hb.1
    have hbb := (baseB_iff a b).1 hb.2
    have S0 := l2Side_any v xs a b w h hx (by omega) (by omega) (by omega) (by omega)
    obtain ⟨r, hp⟩ : ∃ r, (decide (0 ≤ p) && decide (p ≤ 60)) = r := ⟨_, rfl⟩
    have PP := Lib.hid (l2In_is p r hp w)
    rw [hp] at hz
    generalize sideF a b xs = s at *
    have S := Lib.hid S0
    obtain ⟨x, c, rfl, _⟩ := h
    clear hb hx hbb hp S0
    cases r with
    | false =>
      clear hz
      go_enter Try.func28, Try.ntmps28
      go_wp2_with fail
      refine D.out.mono ?_
      rintro e w' ⟨rfl, rfl⟩
      go_wp2_with fail
      refine PP.out.mono ?_
      rintro e w' ⟨rfl, rfl⟩
      go_wp2
      go_ret2
      exact ⟨rfl, Below.refl _ _⟩
    | true =>
      by_cases h12 : xs.length = 12
      · rw [h12] at D S ⊢
        clear hz
        go_enter Try.func28, Try.ntmps28
        go_wp2_with fail
        refine D.out.mono ?_
        rintro e w' ⟨rfl, rfl⟩
        go_wp2_with fail
        refine PP.out.mono ?_
        rintro e w' ⟨rfl, rfl⟩
        go_wp2
        go_ret2
        exact ⟨rfl, Below.refl _ _⟩
      · have hs : s ≠ 0 := by
          rcases hz with h | h | h | h
          · cases h
          · exact h
          · exact absurd h h12
          · cases h
        have hsb : (s != 0) = true := by simpa using hs
        have h12i : ¬ (xs.length : Int) = 12 := by omega
        have h12b : ((xs.length : Int) == 12) = false := by simpa using h12i
        clear hz hs
        go_enter Try.func28, Try.ntmps28
        go_wp2_with fail
        refine D.out.mono ?_
        rintro e w' ⟨rfl, rfl⟩
        go_wp2_with fail
        refine PP.out.mono ?_
        rintro e w' ⟨rfl, rfl⟩
        go_wp2_with fail
        refine S.out.mono ?_
        rintro e w1 ⟨rfl, l1⟩
        go_wp2
        go_ret2
        exact ⟨rfl, l1⟩
theorem down_all {st : Nat → Bool} (hd : ∀ j, 1 ≤ j → st (j + 1) = true → st j = true) {m : Nat} (hm : 1 ≤ m) (h : st m = false) : ∀ j, m ≤ j → st j = false := by
  intro j hj
  induction j with
  | zero => omega
  | succ j ih =>
    by_cases e : m = j + 1
    · subst e; exact h
    · cases hh : st (j + 1) with
      | false => rfl
      | true => have := hd j (by omega) hh; rw [ih (by omega)] at this; cases this
set_option maxHeartbeats 1600000 in
theorem specMost_yes (v : Value) (xs : List (Int × Int)) (a b p : Int) (w : World) (h : SRow w v xs) (hz : RowF xs) (hb : baseB a b = true) (hp : (decide (0 ≤ p) && decide (p ≤ 60)) = true) (hs : sideF a b xs = 0) (hl : xs.length ≠ 12) :
    Calls Try.prog 28 #[v, .int .i64 a, .int .i64 b, .int .i64 p] w fun e w' => e = .returned (.tuple #[.int .i64 (mtF (fun k => decide (sideF a b (xs ++ [(p, (k : Int))]) = 0)) 99), .bool true]) ∧ Below w.heap.size w w' := by
  have hbb := (baseB_iff a b).1 hb
  have hp' : 0 ≤ p ∧ p ≤ 60 := by simpa using hp
  have hshort := hz.short
  have D := Lib.hid (l2On_is v xs a b true (by rw [(rowB_iff xs).2 hz, hb]; rfl) w h.load)
  have PP := Lib.hid (l2In_is p true hp w)
  have S := Lib.hid (l2Side_any v xs a b w h.load hz (by omega) (by omega) (by omega) (by omega))
  have WI := Lib.hid (fun (k : Nat) (z : Int) (hk : z = (k : Int)) w1 (l : Below w.heap.size w w1) => show Calls Try.prog 45 #[v, .int .i64 p, .int .i64 z] w1 (fun e w' => ∃ v', e = .returned v' ∧ OwnL w' w1.heap.size v' (xs ++ [(p, (k : Int))]) ∧ v' ≠ .slice none 0 0 ∧ Below w1.heap.size w1 w') by rw [hk]; exact l2With_any v xs p k w1 (h.lo l) hz.short)
  have SI := Lib.hid (fun (k : Nat) (hk : 1 ≤ k ∧ k ≤ 99) v1 w1 (o : LoadRow w1 v1 (xs ++ [(p, (k : Int))])) => l2Side_any v1 (xs ++ [(p, (k : Int))]) a b w1 o (rowF_snoc hz (by omega) ⟨hp', by simp; omega⟩) (by omega) (by omega) (by omega) (by omega))
  have hdown : ∀ j : Nat, 1 ≤ j → decide (sideF a b (xs ++ [(p, ((j + 1 : Nat) : Int))]) = 0) = true → decide (sideF a b (xs ++ [(p, (j : Int))]) = 0) = true := fun j _ h1 => by
    rw [decide_eq_true_eq] at h1 ⊢
    exact extra_down a b p xs j hs (by omega) (by rw [show (j : Int) + 1 = ((j + 1 : Nat) : Int) by omega]; exact h1)
  rw [hs] at S
  generalize hst : (fun k : Nat => decide (sideF a b (xs ++ [(p, (k : Int))]) = 0)) = st at *
  have HST := Lib.hid (fun k : Nat => show st k = decide (sideF a b (xs ++ [(p, (k : Int))]) = 0) by rw [← hst])
  have HD := Lib.hid (fun (j : Nat) (h1 : 1 ≤ j) (h2 : st (j + 1) = true) => show st j = true by rw [← hst] at h2 ⊢; exact hdown j h1 h2)
  have h12i : ¬ (xs.length : Int) = 12 := by omega
  have h12b : ((xs.length : Int) == 12) = false := by simpa using h12i
  obtain ⟨g, off, c, rfl, _⟩ := h
  clear hz hb hp hs hst hbb hp' hdown hshort
  go_enter Try.func28, Try.ntmps28
  go_wp2_with fail
  refine D.out.mono ?_
  rintro e w' ⟨rfl, rfl⟩
  go_wp2_with fail
  refine PP.out.mono ?_
  rintro e w' ⟨rfl, rfl⟩
  go_wp2_with fail
  refine S.out.mono ?_
  rintro e w1 ⟨rfl, l1⟩
  go_wp2
  go_loopw [10] (fun i wr => ∃ k : Nat, i = .int .i64 k ∧ k ≤ 99 ∧ Hid (∀ j, 1 ≤ j → j ≤ k → st j = true) ∧ Below w.heap.size w wr) (fun i _ => 99 - (intOf i).toNat)
  case atStart => exact ⟨0, rfl, by omega, Lib.hid (fun j h1 h2 => by omega), l1⟩
  case round =>
    obtain ⟨k, rfl, hk, HL, hbl⟩ := hrel
    clear l1 D PP S
    by_cases hlt : k < 99
    · have hlt' : (k : Int) < 99 := by omega
      have WK := Lib.hid (WI.out (k + 1) ((k : Int) + 1) (by omega) wr hbl)
      have SK := Lib.hid (SI.out (k + 1) ⟨by omega, by omega⟩)
      have HK := HST.out (k + 1)
      generalize sideF a b (xs ++ [(p, ((k + 1 : Nat) : Int))]) = t at SK HK
      cases hs' : st (k + 1) with
      | true =>
        rw [hs'] at HK
        have htb : (t == 0) = true := by rw [HK]; rfl
        have HN := Lib.hid (show ∀ j, 1 ≤ j → j ≤ k + 1 → st j = true from fun j h1 h2 => by
          by_cases e : j = k + 1
          · subst e; exact hs'
          · exact HL.out j h1 (by omega))
        clear HK hs'
        go_wp2_with fail
        refine WK.out.mono ?_
        rintro e w1 ⟨v1, rfl, o1, _, l1⟩
        have LL := Lib.hid (lo_on hbl l1)
        have SS := Lib.hid (SK.out v1 w1 (loadRow_own o1))
        clear l1 WK hbl o1 SK
        go_wp2_with fail
        refine SS.out.mono ?_
        rintro e w2 ⟨rfl, l2⟩
        have L2 := Lib.hid (lo_on LL.out l2)
        clear l2
        go_wp2
        go_roundw
        case rel => exact ⟨k + 1, by go_num, by omega, HN, L2.out⟩
        case measure => simp [intOf]; omega
      | false =>
        rw [hs'] at HK
        have htb : (t == 0) = false := by rw [HK]; rfl
        have HN := Lib.hid (show mtF st 99 = (k : Int) from mt_is st k HL.out 99 hk (fun j h1 _ => down_all HD.out (by omega) hs' j (by omega)))
        clear HK hs'
        go_wp2_with fail
        refine WK.out.mono ?_
        rintro e w1 ⟨v1, rfl, o1, _, l1⟩
        have LL := Lib.hid (lo_on hbl l1)
        have SS := Lib.hid (SK.out v1 w1 (loadRow_own o1))
        clear l1 WK hbl o1 SK
        go_wp2_with fail
        refine SS.out.mono ?_
        rintro e w2 ⟨rfl, l2⟩
        have L2 := Lib.hid (lo_on LL.out l2)
        clear l2
        go_wp2
        go_ret2
        exact ⟨by rw [HN.out]; rfl, L2.out⟩
    · obtain rfl : k = 99 := by omega
      have HN := Lib.hid (show mtF st 99 = ((99 : Nat) : Int) from mt_is st 99 HL.out 99 hk (fun j h1 h2 => by omega))
      go_wp2
      go_ret2
      exact ⟨by rw [HN.out]; rfl, hbl⟩
end Go.Proofs.Ytjchmjbgboeolaa
