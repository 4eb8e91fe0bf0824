/- The contracts of the tests of signs and of the sums of signs. -/
import Derived.Test.YtgdgiecajflmaabKit3
import Derived.Test.YtgdgiecajflmaabTabs
namespace Go.Proofs.Ytgdgiecajflmaab
open Go.RowKit
theorem signs_no {xs : List Int} {k : Nat} (hk : k < xs.length) (h : ¬ (-1 ≤ xs.getD k 0 ∧ xs.getD k 0 ≤ 1)) : signsB xs = false := propB_no (fun K => h (K k hk))
theorem badSign_is (z : Int) (r : Bool) (h : (decide (z < -1) || decide (1 < z)) = r) (w : World) : Calls Try.prog 104 #[.int .i64 z] w fun e w' => e = .returned (.bool r) ∧ w = w' := by
  subst h
  by_cases h1 : z < -1
  · go_enter Try.func104, Try.ntmps104
    go_wp2
    go_ret
    exact ⟨by simp [h1], rfl⟩
  · by_cases h2 : 1 < z
    all_goals go_enter Try.func104, Try.ntmps104
    all_goals go_wp2
    all_goals go_ret
    all_goals exact ⟨by simp [h1, h2], rfl⟩
/-- The first number that is no sign, or -1. -/
def FirstBad (xs : List Int) (w : World) (e : Ending) (w' : World) : Prop := ∃ z : Int, e = .returned (.int .i64 z) ∧ decide (0 ≤ z) = !signsB xs ∧ Below w.heap.size w w'
set_option maxHeartbeats 800000 in
theorem indexBad_any (v : Value) (xs : List Int) (w : World) (hr : IntRow w v xs) (hn : xs.length ≤ 2000000) :
    Calls Try.prog 109 #[v, .func (.func 104) #[] #[]] w (FirstBad xs w) := by
  obtain ⟨a, c, rfl, hr⟩ := hr
  go_enter Try.func109, Try.ntmps109
  go_wp2
  go_loopw [8] (fun i wr => ∃ k : Nat, k ≤ xs.length ∧ i = .int .i64 k ∧ Hid (∀ j, j < k → -1 ≤ xs.getD j 0 ∧ xs.getD j 0 ≤ 1) ∧ Hid (Below w.heap.size w wr)) (fun i _ => xs.length - (intOf i).toNat)
  case atStart => exact ⟨0, Nat.zero_le _, rfl, Lib.hid (fun j h => by omega), Lib.hid (Below.refl _ _)⟩
  case round =>
    obtain ⟨k, hk, rfl, HS, HW⟩ := hrel
    by_cases hlt : k < xs.length
    · rcases hr with h | ⟨g, off, rfl, hg, hc⟩
      · subst h; simp at hlt
      have h1 := hc k hlt
      rw [← HW.out.cell (p := ⟨g, off + k, none⟩) hg] at h1
      have hlt' : (k : Int) < (xs.length : Int) := by omega
      cases hb : (decide (xs.getD k 0 < -1) || decide (1 < xs.getD k 0)) with
      | true =>
        have HF := Lib.hid (show signsB xs = false from signs_no hlt (fun K => by rw [decide_eq_false (show ¬ xs.getD k 0 < -1 by omega), decide_eq_false (show ¬ 1 < xs.getD k 0 by omega)] at hb; cases hb))
        have D := Lib.hid (fun w => badSign_is _ true hb w)
        generalize xs.getD k 0 = x at h1 D
        clear hc hb
        go_wp2_with fail
        refine (D.out _).mono ?_
        rintro e w' ⟨rfl, rfl⟩
        go_wp2
        go_ret
        exact ⟨_, rfl, by rw [HF.out]; simp, HW.out⟩
      | false =>
        have HX := Lib.hid (show -1 ≤ xs.getD k 0 ∧ xs.getD k 0 ≤ 1 by rw [Bool.or_eq_false_iff] at hb; have := of_decide_eq_false hb.1; have := of_decide_eq_false hb.2; omega)
        have D := Lib.hid (fun w => badSign_is _ false hb w)
        generalize xs.getD k 0 = x at h1 D
        clear hc hb
        go_wp2_with fail
        refine (D.out _).mono ?_
        rintro e w' ⟨rfl, rfl⟩
        go_wp2
        go_roundw
        case rel =>
          refine ⟨k + 1, by omega, by go_num, Lib.hid (fun j hj => ?_), HW⟩
          by_cases e : j = k
          · subst e; exact HX.out
          · exact HS.out j (by omega)
        case measure => simp [intOf]; omega
    · obtain rfl : k = xs.length := by omega
      have hge : ¬ (xs.length : Int) < (xs.length : Int) := by omega
      have HF := Lib.hid (show signsB xs = true from propB_yes HS.out)
      go_wp2
      go_ret
      exact ⟨_, rfl, by rw [HF.out]; rfl, HW.out⟩
theorem containsBad_any (v : Value) (xs : List Int) (w : World) (hr : IntRow w v xs) (hn : xs.length ≤ 2000000) :
    Calls Try.prog 103 #[v, .func (.func 104) #[] #[]] w fun e w' => e = .returned (.bool (!signsB xs)) ∧ Below w.heap.size w w' := by
  have C := Lib.hid (indexBad_any v xs w hr hn)
  clear hr
  go_enter Try.func103, Try.ntmps103
  go_wp2_with fail
  refine C.out.mono ?_
  rintro e w' ⟨z, rfl, hz, l⟩
  have L := Lib.hid l
  have HZ := Lib.hid hz
  clear l hz
  go_wp2
  go_ret
  exact ⟨by rw [← HZ.out]; rfl, L.out⟩
theorem areSigns_any (v : Value) (xs : List Int) (w : World) (hr : IntRow w v xs) (hn : xs.length ≤ 2000000) :
    Calls Try.prog 77 #[v] w fun e w' => e = .returned (.bool (signsB xs)) ∧ Below w.heap.size w w' := by
  have C := Lib.hid (containsBad_any v xs w hr hn)
  generalize signsB xs = b at *
  clear hr
  go_enter Try.func77, Try.ntmps77
  go_wp2_with fail
  refine C.out.mono ?_
  rintro e w' ⟨rfl, l⟩
  have L := Lib.hid l
  clear l
  go_wp2
  go_ret
  exact ⟨by cases b <;> rfl, L.out⟩
set_option maxHeartbeats 800000 in
theorem l3Signs_any (v : Value) (xs : List Int) (n : Int) (w : World) (hr : IntRow w v xs) (hn : xs.length ≤ 2000000) :
    Calls Try.prog 79 #[v, .int .i64 n] w fun e w' => e = .returned (.bool (signsB xs && ((xs.length : Int) == n))) ∧ w = w' := by
  obtain ⟨a, c, rfl, hr⟩ := hr
  go_enter Try.func79, Try.ntmps79
  go_wp2
  go_loopw [5] (fun i wr => ∃ k : Nat, k ≤ xs.length ∧ i = .int .i64 k ∧ Hid (∀ j, j < k → -1 ≤ xs.getD j 0 ∧ xs.getD j 0 ≤ 1) ∧ wr = w) (fun i _ => xs.length - (intOf i).toNat)
  case atStart => exact ⟨0, Nat.zero_le _, rfl, Lib.hid (fun j h => by omega), rfl⟩
  case round =>
    obtain ⟨k, hk, rfl, HS, rfl⟩ := hrel
    by_cases hlt : k < xs.length
    · rcases hr with h | ⟨g, off, rfl, hg, hc⟩
      · subst h; simp at hlt
      have h1 := hc k hlt
      have hlt' : (k : Int) < (xs.length : Int) := by omega
      cases hb : (decide (-1 ≤ xs.getD k 0) && decide (xs.getD k 0 ≤ 1)) with
      | false =>
        have HF := Lib.hid (show signsB xs = false from signs_no hlt (fun K => by rw [decide_eq_true K.1, decide_eq_true K.2] at hb; cases hb))
        have D := Lib.hid (fun w => l1In_is _ (-1) 1 false hb w)
        generalize xs.getD k 0 = x at h1 D
        clear hc hb
        go_wp2_with fail
        refine (D.out _).mono ?_
        rintro e w' ⟨rfl, rfl⟩
        go_wp2
        go_ret
        exact ⟨by rw [HF.out]; rfl, rfl⟩
      | true =>
        have HX := Lib.hid (show -1 ≤ xs.getD k 0 ∧ xs.getD k 0 ≤ 1 by rw [Bool.and_eq_true] at hb; exact ⟨of_decide_eq_true hb.1, of_decide_eq_true hb.2⟩)
        have D := Lib.hid (fun w => l1In_is _ (-1) 1 true hb w)
        generalize xs.getD k 0 = x at h1 D
        clear hc hb
        go_wp2_with fail
        refine (D.out _).mono ?_
        rintro e w' ⟨rfl, rfl⟩
        go_wp2
        go_roundw
        case rel =>
          refine ⟨k + 1, by omega, by go_num, Lib.hid (fun j hj => ?_), trivial⟩
          by_cases e : j = k
          · subst e; exact HX.out
          · exact HS.out j (by omega)
        case measure => simp [intOf]; omega
    · obtain rfl : k = xs.length := by omega
      have hge : ¬ (xs.length : Int) < (xs.length : Int) := by omega
      have HF := Lib.hid (show signsB xs = true from propB_yes HS.out)
      go_wp2
      go_ret
      exact ⟨by rw [HF.out, Bool.true_and]; rfl, rfl⟩
set_option maxHeartbeats 800000 in
theorem l3Total_any (v : Value) (xs : List Int) (w : World) (hr : IntRow w v xs) (hs : SignsF xs) (hn : xs.length ≤ 2000000) :
    Calls Try.prog 106 #[v] w fun e w' => e = .returned (.int .i64 (sumF xs)) ∧ w = w' := by
  obtain ⟨a, c, rfl, hr⟩ := hr
  have HS := Lib.hid hs
  clear hs
  go_enter Try.func106, Try.ntmps106
  go_wp2
  go_loopw [3, 4] (fun s i wr => ∃ (k : Nat) (y : Int), k ≤ xs.length ∧ i = .int .i64 k ∧ s = .int .i64 y ∧ Hid (sumF (xs.take k) = y) ∧ wr = w) (fun _ i _ => xs.length - (intOf i).toNat)
  case atStart => exact ⟨0, 0, Nat.zero_le _, rfl, rfl, Lib.hid rfl, rfl⟩
  case round =>
    obtain ⟨k, y, hk, rfl, rfl, HY, rfl⟩ := hrel
    have hb := signs_sum HS.out k hk
    rw [HY.out] at hb
    obtain ⟨b0, b1⟩ := hb
    by_cases hlt : k < xs.length
    · rcases hr with h | ⟨g, off, rfl, hg, hc⟩
      · subst h; simp at hlt
      have h1 := hc k hlt
      have hlt' : (k : Int) < (xs.length : Int) := by omega
      have hx := HS.out k hlt
      have HT := Lib.hid (sumF_take xs k hlt)
      generalize xs.getD k 0 = x at h1 hx HT
      obtain ⟨x0, x1⟩ := hx
      clear hc
      go_wp2
      go_roundw
      case rel => exact ⟨k + 1, _, by omega, by go_num, rfl, Lib.hid (by rw [HT.out, HY.out]), trivial⟩
      case measure => simp [intOf]; omega
    · obtain rfl : k = xs.length := by omega
      have hge : ¬ (xs.length : Int) < (xs.length : Int) := by omega
      go_wp2
      go_ret
      exact ⟨by rw [← HY.out, List.take_length]; rfl, rfl⟩
/-- A weighing of n coins. -/
def WeighF (n : Int) (xs : List Int) : Prop := (xs.length : Int) = n ∧ SignsF xs ∧ sumF xs = 0
noncomputable def weighB (n : Int) (xs : List Int) : Bool := propB (WeighF n xs)
set_option maxHeartbeats 800000 in
theorem isWeighing_any (n : Int) (v : Value) (xs : List Int) (w : World) (hr : IntRow w v xs) (hn : xs.length ≤ 2000000) :
    Calls Try.prog 93 #[.int .i64 n, v] w fun e w' => e = .returned (.bool (weighB n xs)) ∧ Below w.heap.size w w' := by
  have A := Lib.hid (areSigns_any v xs w hr hn)
  obtain ⟨a, c, rfl, hr⟩ := hr
  by_cases hl : (xs.length : Int) = n
  · cases hs : signsB xs with
    | false =>
      have HF := Lib.hid (show weighB n xs = false from propB_no (fun K => by rw [show signsB xs = true from propB_yes K.2.1] at hs; cases hs))
      rw [hs] at A
      have hne : ((xs.length : Int) != n) = false := by simp [hl]
      clear hs hr hl
      go_enter Try.func93, Try.ntmps93
      go_wp2_with fail
      refine A.out.mono ?_
      rintro e w' ⟨rfl, l⟩
      go_wp2
      go_ret
      exact ⟨by rw [HF.out]; rfl, l⟩
    | true =>
      have HS := Lib.hid ((propB_iff _).1 (show propB (SignsF xs) = true from hs))
      rw [hs] at A
      have hne : ((xs.length : Int) != n) = false := by simp [hl]
      have HL := Lib.hid hl
      clear hs hl
      go_enter Try.func93, Try.ntmps93
      go_wp2_with fail
      refine A.out.mono ?_
      rintro e w1 ⟨rfl, l1⟩
      have L1 := Lib.hid l1
      clear l1 A
      go_wp2
      go_loopw [5, 19] (fun s i wr => ∃ (k : Nat) (y : Int), k ≤ xs.length ∧ i = .int .i64 k ∧ s = .int .i64 y ∧ Hid (sumF (xs.take k) = y) ∧ wr = w1) (fun _ i _ => xs.length - (intOf i).toNat)
      case atStart => exact ⟨0, 0, Nat.zero_le _, rfl, rfl, Lib.hid rfl, rfl⟩
      case round =>
        obtain ⟨k, y, hk, rfl, rfl, HY, rfl⟩ := hrel
        have hb := signs_sum HS.out k hk
        rw [HY.out] at hb
        obtain ⟨b0, b1⟩ := hb
        by_cases hlt : k < xs.length
        · rcases hr with h | ⟨g, off, rfl, hg, hc⟩
          · subst h; simp at hlt
          have h1 := hc k hlt
          rw [← L1.out.cell (p := ⟨g, off + k, none⟩) hg] at h1
          have hlt' : (k : Int) < (xs.length : Int) := by omega
          have hx := HS.out k hlt
          have HT := Lib.hid (sumF_take xs k hlt)
          generalize xs.getD k 0 = x at h1 hx HT
          obtain ⟨x0, x1⟩ := hx
          clear hc
          go_wp2
          go_roundw
          case rel => exact ⟨k + 1, _, by omega, by go_num, rfl, Lib.hid (by rw [HT.out, HY.out]), trivial⟩
          case measure => simp [intOf]; omega
        · obtain rfl : k = xs.length := by omega
          have hge : ¬ (xs.length : Int) < (xs.length : Int) := by omega
          have HF := Lib.hid (show weighB n xs = (y == 0) by
            have hy := HY.out
            rw [List.take_length] at hy
            by_cases e : y = 0
            · rw [show weighB n xs = true from propB_yes ⟨HL.out, HS.out, by omega⟩]; simp [e]
            · rw [show weighB n xs = false from propB_no (fun K => e (by have := K.2.2; omega))]; simp [e])
          go_wp2
          go_ret
          exact ⟨by rw [HF.out]; rfl, L1.out⟩
  · have HF := Lib.hid (show weighB n xs = false from propB_no (fun K => hl K.1))
    have hne : ((xs.length : Int) != n) = true := by simp [hl]
    clear hr hl A
    go_enter Try.func93, Try.ntmps93
    go_wp2
    go_ret
    exact ⟨by rw [HF.out]; rfl, Below.refl _ _⟩
end Go.Proofs.Ytgdgiecajflmaab
