/- The contracts of the program's test of signs. -/
import Derived.Test.YtgjchkcjlmklbaaKitPlain
import Derived.Test.YtgjchkcjlmklbaaSw4
namespace Go.Proofs.Ytgjchkcjlmklbaa
open Go.RowKit
theorem signs_no {xs : List Int} {k : Nat} (hk : k < xs.length) (h : ¬ (-1 ≤ xs.getD k 0 ∧ xs.getD k 0 ≤ 1)) : signsB xs = false := propB_no (fun K => h (K k hk))
theorem badSign_is (z : Int) (r : Bool) (h : (decide (z < -1) || decide (1 < z)) = r) (w : World) : Calls Try.prog 199 #[.int .i64 z] w fun e w' => e = .returned (.bool r) ∧ w = w' := by
  subst h
  by_cases h1 : z < -1
  · go_enter Try.func199, Try.ntmps199
    go_wp2
    go_ret
    exact ⟨by simp [h1], rfl⟩
  · by_cases h2 : 1 < z
    all_goals go_enter Try.func199, Try.ntmps199
    all_goals go_wp2
    all_goals go_ret
    all_goals exact ⟨by simp [h1, h2], rfl⟩
/-- The first number that is no sign, or -1. -/
def FirstBad (xs : List Int) (w : World) (e : Ending) (w' : World) : Prop := ∃ z : Int, e = .returned (.int .i64 z) ∧ decide (0 ≤ z) = !signsB xs ∧ Below w.heap.size w w'
set_option maxHeartbeats 800000 in
theorem indexBad_any (v : Value) (xs : List Int) (w : World) (hr : IntRow w v xs) (hn : xs.length ≤ 2000000) :
    Calls Try.prog 243 #[v, .func (.func 199) #[] #[]] w (FirstBad xs w) := by
  obtain ⟨a, c, rfl, hr⟩ := hr
  go_enter Try.func243, Try.ntmps243
  go_wp2
  go_loopw [8] (fun i wr => ∃ k : Nat, k ≤ xs.length ∧ i = .int .i64 k ∧ Hid (∀ j, j < k → -1 ≤ xs.getD j 0 ∧ xs.getD j 0 ≤ 1) ∧ Hid (Below w.heap.size w wr)) (fun i _ => xs.length - (intOf i).toNat)
  case atStart => exact ⟨0, Nat.zero_le _, rfl, Lib.hid (fun j h => by omega), Lib.hid (Below.refl _ _)⟩
  case round =>
    obtain ⟨k, hk, rfl, HS, HW⟩ := hrel
    by_cases hlt : k < xs.length
    · rcases hr with h | ⟨g, off, rfl, hg, hc⟩
      · subst h; simp at hlt
      have h1 := hc k hlt
      rw [← HW.out.cell (p := ⟨g, off + k, none⟩) hg] at h1
      have hlt' : (k : Int) < (xs.length : Int) := by omega
      cases hb : (decide (xs.getD k 0 < -1) || decide (1 < xs.getD k 0)) with
      | true =>
        have HF := Lib.hid (show signsB xs = false from signs_no hlt (fun K => by rw [decide_eq_false (show ¬ xs.getD k 0 < -1 by omega), decide_eq_false (show ¬ 1 < xs.getD k 0 by omega)] at hb; cases hb))
        have D := Lib.hid (fun w => badSign_is _ true hb w)
        generalize xs.getD k 0 = x at h1 D
        clear hc hb
        go_wp2_with fail
        refine (D.out _).mono ?_
        rintro e w' ⟨rfl, rfl⟩
        go_wp2
        go_ret
        exact ⟨_, rfl, by rw [HF.out]; simp, HW.out⟩
      | false =>
        have HX := Lib.hid (show -1 ≤ xs.getD k 0 ∧ xs.getD k 0 ≤ 1 by rw [Bool.or_eq_false_iff] at hb; have := of_decide_eq_false hb.1; have := of_decide_eq_false hb.2; omega)
        have D := Lib.hid (fun w => badSign_is _ false hb w)
        generalize xs.getD k 0 = x at h1 D
        clear hc hb
        go_wp2_with fail
        refine (D.out _).mono ?_
        rintro e w' ⟨rfl, rfl⟩
        go_wp2
        go_roundw
        case rel =>
          refine ⟨k + 1, by omega, by go_num, Lib.hid (fun j hj => ?_), HW⟩
          by_cases e : j = k
          · subst e; exact HX.out
          · exact HS.out j (by omega)
        case measure => simp [intOf]; omega
    · obtain rfl : k = xs.length := by omega
      have hge : ¬ (xs.length : Int) < (xs.length : Int) := by omega
      have HF := Lib.hid (show signsB xs = true from propB_yes HS.out)
      go_wp2
      go_ret
      exact ⟨_, rfl, by rw [HF.out]; rfl, HW.out⟩
theorem containsBad_any (v : Value) (xs : List Int) (w : World) (hr : IntRow w v xs) (hn : xs.length ≤ 2000000) :
    Calls Try.prog 192 #[v, .func (.func 199) #[] #[]] w fun e w' => e = .returned (.bool (!signsB xs)) ∧ Below w.heap.size w w' := by
  have C := Lib.hid (indexBad_any v xs w hr hn)
  clear hr
  go_enter Try.func192, Try.ntmps192
  go_wp2_with fail
  refine C.out.mono ?_
  rintro e w' ⟨z, rfl, hz, l⟩
  have L := Lib.hid l
  have HZ := Lib.hid hz
  clear l hz
  go_wp2
  go_ret
  exact ⟨by rw [← HZ.out]; rfl, L.out⟩
theorem areSigns_any (v : Value) (xs : List Int) (w : World) (hr : IntRow w v xs) (hn : xs.length ≤ 2000000) :
    Calls Try.prog 131 #[v] w fun e w' => e = .returned (.bool (signsB xs)) ∧ Below w.heap.size w w' := by
  have C := Lib.hid (containsBad_any v xs w hr hn)
  generalize signsB xs = b at *
  clear hr
  go_enter Try.func131, Try.ntmps131
  go_wp2_with fail
  refine C.out.mono ?_
  rintro e w' ⟨rfl, l⟩
  have L := Lib.hid l
  clear l
  go_wp2
  go_ret
  exact ⟨by cases b <;> rfl, L.out⟩
end Go.Proofs.Ytgjchkcjlmklbaa
