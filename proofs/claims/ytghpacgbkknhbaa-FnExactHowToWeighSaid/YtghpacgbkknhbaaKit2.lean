/- The contracts of the program's IsKit and of the library's test of order. -/
import Derived.Test.YtghpacgbkknhbaaKit1
namespace Go.Proofs.Ytghpacgbkknhbaa
open Go.RowKit
theorem isNaN_any (x : Int) (w : World) : Calls Try.prog 173 #[.int .i64 x] w fun e w' => e = .returned (.bool false) ∧ w' = w := by
  go_enter Try.func173, Try.ntmps173
  go_wp2
  go_ret
  exact ⟨by simp, rfl⟩
theorem less_q (x y : Int) (r : Bool) (h : decide (x < y) = r) (w : World) : Calls Try.prog 162 #[.int .i64 x, .int .i64 y] w fun e w' => e = .returned (.bool r) ∧ w' = w := by
  subst h
  go_enter Try.func162, Try.ntmps162
  go_wp2_with fail
  refine (isNaN_any x _).mono ?_
  rintro e w' ⟨rfl, rfl⟩
  go_wp2
  go_ret
  exact ⟨rfl, rfl⟩
set_option maxHeartbeats 800000 in
theorem isSorted_any (v : Value) (xs : List Int) (w : World) (hr : IntRow w v xs) (h1 : 1 ≤ xs.length) (hn : xs.length ≤ 2000000) :
    Calls Try.prog 117 #[v] w fun e w' => e = .returned (.bool (sortB xs)) ∧ Below w.heap.size w w' := by
  obtain ⟨a, c, rfl, hr⟩ := hr
  rcases hr with h | ⟨g, off, rfl, hg, hc⟩
  · subst h; simp at h1
  obtain ⟨m, hm⟩ : ∃ m, xs.length = m + 1 := ⟨xs.length - 1, by omega⟩
  have hL : (xs.length : Int) - 1 = (m : Int) := by omega
  have hml : m < xs.length := by omega
  have HM := Lib.hid hm
  clear hm h1
  go_enter Try.func117, Try.ntmps117
  go_wp2
  go_loopw [3] (fun i wr => ∃ k : Nat, k < xs.length ∧ i = .int .i64 k ∧ Hid (∀ j, k ≤ j → j + 1 < xs.length → xs.getD j 0 ≤ xs.getD (j + 1) 0) ∧ Hid (Below w.heap.size w wr)) (fun i _ => (intOf i).toNat)
  case atStart => exact ⟨m, hml, rfl, Lib.hid (fun j h1 h2 => by have := HM.out; omega), Lib.hid (Below.refl _ _)⟩
  case round =>
    obtain ⟨k, hk, rfl, HS, HW⟩ := hrel
    clear hL hml
    by_cases h0 : k = 0
    · subst h0
      have HF := Lib.hid (show sortB xs = true from propB_yes (fun j hj => HS.out j (Nat.zero_le _) hj))
      go_wp2
      go_ret
      exact ⟨by rw [HF.out]; rfl, HW.out⟩
    · obtain ⟨q, rfl⟩ : ∃ q, k = q + 1 := ⟨k - 1, by omega⟩
      have c1 := hc (q + 1) hk
      have c2 := hc q (by omega)
      rw [← HW.out.cell (p := ⟨g, off + (q + 1), none⟩) hg] at c1
      rw [← HW.out.cell (p := ⟨g, off + q, none⟩) hg] at c2
      have hpos : (0 : Int) < ((q + 1 : Nat) : Int) := by omega
      have hlt' : ((q + 1 : Nat) : Int) < (xs.length : Int) := by omega
      have hlt2 : (q : Int) < (xs.length : Int) := by omega
      cases hb : decide (xs.getD (q + 1) 0 < xs.getD q 0) with
      | true =>
        have HF := Lib.hid (show sortB xs = false from propB_no (fun K => by have := K q hk; have := of_decide_eq_true hb; omega))
        have D1 := Lib.hid (fun w => less_q _ _ true hb w)
        generalize xs.getD (q + 1) 0 = x at c1 D1
        generalize xs.getD q 0 = y at c2 D1
        clear hb h0
        go_wp2
        go_quiet ((go_at_call 162; exact Calls.quiet_of_same (D1.out _)))
        go_wp2
        go_ret
        exact ⟨by rw [HF.out]; rfl, lo_drewN HW.out _⟩
      | false =>
        have HR := Lib.hid (show xs.getD q 0 ≤ xs.getD (q + 1) 0 by have := of_decide_eq_false hb; omega)
        have D1 := Lib.hid (fun w => less_q _ _ false hb w)
        generalize xs.getD (q + 1) 0 = x at c1 D1
        generalize xs.getD q 0 = y at c2 D1
        clear hb h0
        go_wp2
        go_quiet ((go_at_call 162; exact Calls.quiet_of_same (D1.out _)))
        go_wp2
        go_roundw
        case rel =>
          refine ⟨q, by omega, by go_num, Lib.hid (fun j h1 h2 => ?_), Lib.hid (lo_drewN HW.out _)⟩
          by_cases e : j = q
          · subst e; exact HR.out
          · exact HS.out j (by omega) h2
        case measure => simp [intOf]
set_option maxHeartbeats 800000 in
theorem isKit_any (v : Value) (xs : List Int) (w : World) (hr : IntRow w v xs) (hn : xs.length ≤ 2000000) :
    Calls Try.prog 43 #[v] w fun e w' => e = .returned (.bool (kitB xs)) ∧ Below w.heap.size w w' := by
  by_cases h0 : xs.length = 0
  · have HF := Lib.hid (show kitB xs = false from propB_no (fun K => by have := K.one; omega))
    obtain ⟨a, c, rfl, _⟩ := hr
    have h1 : (xs.length : Int) < 1 := by omega
    clear h0
    go_enter Try.func43, Try.ntmps43
    go_wp2
    go_ret
    exact ⟨by rw [HF.out]; rfl, Below.refl _ _⟩
  have h1' : 1 ≤ xs.length := by omega
  by_cases h6 : 6 < xs.length
  · have HF := Lib.hid (show kitB xs = false from propB_no (fun K => by have := K.short; omega))
    obtain ⟨a, c, rfl, _⟩ := hr
    have h1 : ¬ (xs.length : Int) < 1 := by omega
    have h2 : (6 : Int) < (xs.length : Int) := by omega
    clear h0
    go_enter Try.func43, Try.ntmps43
    go_wp2
    go_ret
    exact ⟨by rw [HF.out]; rfl, Below.refl _ _⟩
  have hle : xs.length ≤ 6 := by omega
  have C := Lib.hid (isSorted_any v xs w hr h1' hn)
  have hr0 := hr
  obtain ⟨a, c, rfl, hr⟩ := hr
  rcases hr with h | ⟨g, off, rfl, hg, hc⟩
  · subst h; simp at h1'
  have h1 : ¬ (xs.length : Int) < 1 := by omega
  have h2 : ¬ (6 : Int) < (xs.length : Int) := by omega
  cases hs : sortB xs with
  | false =>
    rw [hs] at C
    have HF := Lib.hid (show kitB xs = false from propB_no (fun K => by rw [show sortB xs = true from propB_yes K.rise] at hs; cases hs))
    clear h0 h6 hs hc hr0
    go_enter Try.func43, Try.ntmps43
    go_wp2_with fail
    refine C.out.mono ?_
    rintro e w' ⟨rfl, l⟩
    go_wp2
    go_ret
    exact ⟨by rw [HF.out]; rfl, l⟩
  | true =>
    rw [hs] at C
    have hS : SortF xs := (propB_iff _).1 hs
    obtain ⟨m, hm⟩ : ∃ m, xs.length = m + 1 := ⟨xs.length - 1, by omega⟩
    have hL : (xs.length : Int) - 1 = (m : Int) := by omega
    have hml : m < xs.length := by omega
    have hml' : (m : Int) < (xs.length : Int) := by omega
    have hpos : (0 : Int) < (xs.length : Int) := by omega
    have c1 := hc 0 (by omega)
    have c2 := hc m hml
    have HF : Hid (kitB xs = ((decide (1 ≤ xs.getD 0 0) && decide (xs.getD 0 0 ≤ 99)) && (decide (1 ≤ xs.getD m 0) && decide (xs.getD m 0 ≤ 99)))) := by
      refine Lib.hid ?_
      by_cases K : KitF xs
      · have e0 := K.each 0 (by omega)
        have e1 := K.each m hml
        rw [show kitB xs = true from propB_yes K]
        simp only [e0.1, e0.2, e1.1, e1.2, decide_true, Bool.and_self]
      · rw [show kitB xs = false from propB_no K]
        have : ¬ (1 ≤ xs.getD 0 0 ∧ xs.getD m 0 ≤ 99) := fun h => K (kit_of_ends (by omega) hle hS h.1 (by rw [hm]; exact h.2))
        by_cases ea : 1 ≤ xs.getD 0 0
        · have eb : ¬ xs.getD m 0 ≤ 99 := fun h => this ⟨ea, h⟩
          rw [decide_eq_false eb, Bool.and_false, Bool.and_false]
        · rw [decide_eq_false ea, Bool.false_and, Bool.false_and]
    obtain ⟨r1, hr1⟩ : ∃ r, (decide (1 ≤ xs.getD 0 0) && decide (xs.getD 0 0 ≤ 99)) = r := ⟨_, rfl⟩
    obtain ⟨r2, hr2⟩ : ∃ r, (decide (1 ≤ xs.getD m 0) && decide (xs.getD m 0 ≤ 99)) = r := ⟨_, rfl⟩
    rw [hr1, hr2] at HF
    have D1 := Lib.hid (fun w => isWeight_is _ r1 hr1 w)
    have D2 := Lib.hid (fun w => isWeight_is _ r2 hr2 w)
    generalize xs.getD 0 0 = x at c1 D1
    generalize xs.getD m 0 = y at c2 D2
    have HK := Lib.hid (fun w1 (l : Below w.heap.size w w1) => show w1.cell? ⟨g, off + 0, none⟩ = some (.int .i64 x) ∧ w1.cell? ⟨g, off + m, none⟩ = some (.int .i64 y) from ⟨(l.cell (p := ⟨g, off + 0, none⟩) hg).trans c1, (l.cell (p := ⟨g, off + m, none⟩) hg).trans c2⟩)
    clear h0 h6 hs hc hr0 c1 c2 hm hr1 hr2
    cases r1 with
    | false =>
      rw [Bool.false_and] at HF
      go_enter Try.func43, Try.ntmps43
      go_wp2_with fail
      refine C.out.mono ?_
      rintro e w1 ⟨rfl, l⟩
      obtain ⟨k1, k2⟩ := HK.out w1 l
      rw [Nat.add_zero] at k1
      go_wp2_with fail
      refine (D1.out _).mono ?_
      rintro e w' ⟨rfl, rfl⟩
      go_wp2
      go_ret
      exact ⟨by rw [HF.out]; rfl, l⟩
    | true =>
      rw [Bool.true_and] at HF
      go_enter Try.func43, Try.ntmps43
      go_wp2_with fail
      refine C.out.mono ?_
      rintro e w1 ⟨rfl, l⟩
      obtain ⟨k1, k2⟩ := HK.out w1 l
      rw [Nat.add_zero] at k1
      go_wp2_with fail
      refine (D1.out _).mono ?_
      rintro e w' ⟨rfl, rfl⟩
      go_wp2_with fail
      refine (D2.out _).mono ?_
      rintro e w' ⟨rfl, rfl⟩
      go_wp2
      go_ret
      exact ⟨by rw [HF.out]; rfl, l⟩
end Go.Proofs.Ytghpacgbkknhbaa
