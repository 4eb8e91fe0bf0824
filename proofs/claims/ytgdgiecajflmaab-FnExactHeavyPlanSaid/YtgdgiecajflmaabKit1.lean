/- The contracts of IsKit, the program's and the model's. -/
import Derived.Test.YtgdgiecajflmaabIntLaw
import Derived.Test.YtgdgiecajflmaabKitPlain
import Derived.Test.YtgdgiecajflmaabIn
import Derived.Deep.QuietTactic
import Derived.BigQuiet
namespace Go.Proofs.Ytgdgiecajflmaab
open Go.RowKit
theorem kit_no_of {xs : List Int} (h : KitF xs → False) : kitB xs = false := propB_no h
set_option maxHeartbeats 1600000 in
/-- The model's test of a kit. -/
theorem l3Kit_any (v : Value) (xs : List Int) (w : World) (hr : IntRow w v xs) (hn : xs.length ≤ 2000000) :
    Calls Try.prog 67 #[v] w fun e w' => e = .returned (.bool (kitB xs)) ∧ Below w.heap.size w w' := by
  obtain ⟨a, c, rfl, hr⟩ := hr
  go_enter Try.func67, Try.ntmps67
  go_wp2
  go_loopw [3] (fun i wr => ∃ k : Nat, k ≤ xs.length ∧ i = .int .i64 k ∧ Hid (∀ j, j < k → 1 ≤ xs.getD j 0 ∧ xs.getD j 0 ≤ 99) ∧ Hid (∀ j, j + 1 < k → xs.getD j 0 ≤ xs.getD (j + 1) 0) ∧ Below w.heap.size w wr) (fun i _ => xs.length - (intOf i).toNat)
  case atStart => exact ⟨0, Nat.zero_le _, rfl, Lib.hid (fun j h => by omega), Lib.hid (fun j h => by omega), Below.refl _ _⟩
  case round =>
    obtain ⟨k, hk, rfl, HE, HS, hw⟩ := hrel
    by_cases hlt : k < xs.length
    · rcases hr with h | ⟨g, off, rfl, hg, hc⟩
      · subst h; simp at hlt
      have h1 := hc k hlt
      rw [← hw.cell (p := ⟨g, off + k, none⟩) hg] at h1
      have hlt' : (k : Int) < (xs.length : Int) := by omega
      have HW := Lib.hid hw
      cases hb1 : (decide (1 ≤ xs.getD k 0) && decide (xs.getD k 0 ≤ 99)) with
      | false =>
        have HF := Lib.hid (show kitB xs = false from kit_no_of (fun K => by have := K.each k hlt; rw [show (decide (1 ≤ xs.getD k 0) && decide (xs.getD k 0 ≤ 99)) = true by simp only [this.1, this.2, decide_true, Bool.and_self]] at hb1; cases hb1))
        have D1 := Lib.hid (fun w => l1In_q (xs.getD k 0) 1 99 false hb1 w)
        generalize xs.getD k 0 = x at h1 D1
        clear hc hb1 hw
        go_wp2
        go_quiet ((go_at_call 74; exact Calls.quiet_of_same (D1.out _)))
        go_wp2
        go_ret
        exact ⟨by rw [HF.out]; rfl, lo_drewN HW.out _⟩
      | true =>
        have HX := Lib.hid (show 1 ≤ xs.getD k 0 ∧ xs.getD k 0 ≤ 99 by rw [Bool.and_eq_true] at hb1; exact ⟨of_decide_eq_true hb1.1, of_decide_eq_true hb1.2⟩)
        have D1 := Lib.hid (fun w => l1In_q (xs.getD k 0) 1 99 true hb1 w)
        by_cases h0 : k = 0
        · have H0 := Lib.hid h0
          have hz0 : decide ((0 : Int) < (k : Int)) = false := by simp; omega
          have hz1 : decide (0 < k) = false := by simp; omega
          generalize xs.getD k 0 = x at h1 D1
          clear hc hb1 hw h0
          go_wp2
          go_quiet ((go_at_call 74; exact Calls.quiet_of_same (D1.out _)))
          go_wp2
          go_roundw
          case rel =>
            refine ⟨k + 1, by omega, by go_num, Lib.hid (fun j hj => ?_), Lib.hid (fun j hj => by have := H0.out; omega), lo_drewN HW.out _⟩
            have : j = k := by have := H0.out; omega
            subst this
            exact HX.out
          case measure => simp [intOf]; omega
        · obtain ⟨m, rfl⟩ : ∃ m, k = m + 1 := ⟨k - 1, by omega⟩
          have h2 := hc m (by omega)
          rw [← hw.cell (p := ⟨g, off + m, none⟩) hg] at h2
          have hpos : (0 : Int) < ((m + 1 : Nat) : Int) := by omega
          by_cases hgt : xs.getD (m + 1) 0 < xs.getD m 0
          · have HF := Lib.hid (show kitB xs = false from kit_no_of (fun K => by have := K.rise m hlt; omega))
            generalize xs.getD (m + 1) 0 = x at h1 D1 hgt
            generalize xs.getD m 0 = y at h2 hgt
            clear hc hb1 hw h0
            go_wp2
            go_quiet ((go_at_call 74; exact Calls.quiet_of_same (D1.out _)))
            go_wp2
            go_ret
            exact ⟨by rw [HF.out]; rfl, lo_drewN HW.out _⟩
          · have HR := Lib.hid (show xs.getD m 0 ≤ xs.getD (m + 1) 0 by omega)
            have hgt' : ¬ xs.getD (m + 1) 0 < xs.getD m 0 := hgt
            generalize hxx : xs.getD (m + 1) 0 = x at h1 D1 hgt'
            generalize hyy : xs.getD m 0 = y at h2 hgt'
            clear hc hb1 hw h0 hgt hxx hyy
            go_wp2
            go_quiet ((go_at_call 74; exact Calls.quiet_of_same (D1.out _)))
            go_wp2
            go_roundw
            case rel =>
              refine ⟨m + 1 + 1, by omega, by go_num, Lib.hid (fun j hj => ?_), Lib.hid (fun j hj => ?_), lo_drewN HW.out _⟩
              · by_cases e : j = m + 1
                · subst e; exact HX.out
                · exact HE.out j (by omega)
              · by_cases e : j = m
                · subst e; exact HR.out
                · exact HS.out j (by omega)
            case measure => simp [intOf]; omega
    · obtain rfl : k = xs.length := by omega
      have hge : ¬ (xs.length : Int) < (xs.length : Int) := by omega
      have HF := Lib.hid (show (decide ((1 : Int) ≤ (xs.length : Int)) && decide ((xs.length : Int) ≤ 6)) = kitB xs by
        by_cases hl : 1 ≤ xs.length ∧ xs.length ≤ 6
        · rw [show kitB xs = true from propB_yes ⟨hl.1, hl.2, HE.out, HS.out⟩]
          simp; omega
        · rw [show kitB xs = false from propB_no (fun K => hl ⟨K.one, K.short⟩)]
          simp; omega)
      have D1 := Lib.hid (fun w => l1In_is (xs.length : Int) 1 6 (kitB xs) HF.out w)
      have HW := Lib.hid hw
      clear hw
      go_wp2_with fail
      refine (D1.out _).mono ?_
      rintro e w' ⟨rfl, rfl⟩
      go_wp2
      go_ret
      exact ⟨rfl, HW.out⟩
theorem specIsKit_any (v : Value) (xs : List Int) (w : World) (hr : IntRow w v xs) (hn : xs.length ≤ 2000000) :
    Calls Try.prog 34 #[v] w fun e w' => e = .returned (.bool (kitB xs)) ∧ Below w.heap.size w w' := by
  have C := Lib.hid (l3Kit_any v xs w hr hn)
  clear hr
  go_enter Try.func34, Try.ntmps34
  go_wp2_with fail
  refine C.out.mono ?_
  rintro e w' ⟨rfl, l⟩
  go_wp2
  go_ret
  exact ⟨rfl, l⟩
end Go.Proofs.Ytgdgiecajflmaab
