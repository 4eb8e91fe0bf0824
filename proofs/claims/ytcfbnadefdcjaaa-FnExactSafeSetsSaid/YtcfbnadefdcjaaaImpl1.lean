/- The contracts of the program's own functions on one row: whether it is one, its weight, its moment. -/
import Derived.Test.YtcfbnadefdcjaaaPairRow
import Derived.Test.YtcfbnadefdcjaaaRowFacts
import Derived.Test.YtcfbnadefdcjaaaIn
namespace Go.Proofs.Ytcfbnadefdcjaaa
open Go.RowKit
theorem isPlace_any (p : Int) (w : World) : Calls Try.prog 162 #[.int .i64 p] w fun e w' => e = .returned (.bool (decide (0 ≤ p) && decide (p ≤ 60))) ∧ w = w' := by
  by_cases h1 : 0 ≤ p
  · by_cases h2 : p ≤ 60
    all_goals go_enter Try.func162, Try.ntmps162
    all_goals go_wp2
    all_goals go_ret
    all_goals exact ⟨by simp [h1, h2], rfl⟩
  · go_enter Try.func162, Try.ntmps162
    go_wp2
    go_ret
    exact ⟨by simp; omega, rfl⟩
theorem rowB_not {xs : List (Int × Int)} {k : Nat} (hk : k < xs.length) (h : loadB (xs.getD k (0, 0)) = false) : rowB xs = false := by
  cases hq : rowB xs with
  | false => rfl
  | true =>
    unfold rowB at hq
    rw [Bool.and_eq_true, List.all_eq_true] at hq
    have := hq.2 (xs.getD k (0, 0)) (by simp only [List.getD, List.getElem?_eq_getElem hk, Option.getD_some]; exact List.getElem_mem hk)
    rw [h] at this
    cases this
theorem rowB_yes {xs : List (Int × Int)} (h12 : xs.length ≤ 12) (h : ∀ j, j < xs.length → loadB (xs.getD j (0, 0)) = true) : rowB xs = true := by
  unfold rowB
  have : xs.all loadB = true := List.all_eq_true.2 (fun x hx => by
    obtain ⟨j, hj, e⟩ := List.mem_iff_getElem.1 hx
    have := h j hj
    simp only [List.getD, List.getElem?_eq_getElem hj, Option.getD_some, e] at this
    exact this)
  rw [this, Bool.and_true]
  simpa using h12
set_option maxHeartbeats 800000 in
theorem isRow_any (v : Value) (xs : List (Int × Int)) (w : World) (hr : LoadRow w v xs) :
    Calls Try.prog 164 #[v] w fun e w' => e = .returned (.bool (rowB xs)) ∧ Below w.heap.size w w' := by
  obtain ⟨a, c, rfl, hr⟩ := hr
  by_cases h12 : xs.length ≤ 12
  · have h12' : ¬ (12 : Int) < (xs.length : Int) := by omega
    go_enter Try.func164, Try.ntmps164
    go_wp2
    go_loopw [10] (fun i wr => ∃ k : Nat, k ≤ xs.length ∧ i = .int .i64 k ∧ Hid (∀ j, j < k → loadB (xs.getD j (0, 0)) = true) ∧ Below w.heap.size w wr) (fun i _ => xs.length - (intOf i).toNat)
    case atStart => exact ⟨0, Nat.zero_le _, rfl, Lib.hid (fun j h => by omega), Below.refl _ _⟩
    case round =>
      obtain ⟨k, hk, rfl, HL, hw⟩ := hrel
      by_cases hlt : k < xs.length
      · rcases hr with h | ⟨g, off, rfl, hg, hc⟩
        · subst h; simp at hlt
        have h1 := (hc k hlt).1
        have h2 := (hc k hlt).2
        rw [← hw.cell (p := ⟨g, off + k * 2, none⟩) hg] at h1
        rw [← hw.cell (p := ⟨g, off + k * 2 + 1, none⟩) hg] at h2
        have hlt' : (k : Int) < (xs.length : Int) := by omega
        have HN := Lib.hid (rowB_not (xs := xs) hlt)
        obtain ⟨x, hx⟩ : ∃ x, xs.getD k (0, 0) = x := ⟨_, rfl⟩
        rw [hx] at h1 h2 HN
        have HX := Lib.hid hx
        clear hx hc
        obtain ⟨p, q⟩ := x
        simp only at h1 h2
        have C1 := fun w => isPlace_any p w
        obtain ⟨b1, hb1⟩ : ∃ b, (decide (0 ≤ p) && decide (p ≤ 60)) = b := ⟨_, rfl⟩
        rw [hb1] at C1
        have HB := Lib.hid hb1
        have D1 := Lib.hid C1
        clear C1 hb1
        have HW := Lib.hid hw
        clear hw
        have fin : ∀ o, Below w.heap.size w (wr.alloc o) := fun o => HW.out.alloc HW.out.size o
        have FIN := Lib.hid fin
        clear fin
        cases b1 with
        | false =>
          have HF := Lib.hid (HN.out (by unfold loadB; rw [HB.out]; rfl))
          clear HN
          go_wp2_with fail
          refine (D1.out _).mono ?_
          rintro e w' ⟨rfl, rfl⟩
          go_wp2
          go_ret
          exact ⟨by rw [HF.out]; rfl, FIN.out _⟩
        | true =>
          obtain ⟨b2, hb2⟩ : ∃ b, (decide (1 ≤ q) && decide (q ≤ 99)) = b := ⟨_, rfl⟩
          have D2 := Lib.hid (fun w => isWeight_is q b2 hb2 w)
          have HB2 := Lib.hid hb2
          clear hb2
          cases b2 with
          | true =>
            clear HN
            go_wp2_with fail
            refine (D1.out _).mono ?_
            rintro e w' ⟨rfl, rfl⟩
            go_wp2_with fail
            refine (D2.out _).mono ?_
            rintro e w' ⟨rfl, rfl⟩
            go_wp2
            go_roundw
            case rel =>
              refine ⟨k + 1, by omega, by go_num, Lib.hid (fun j hj => ?_), FIN.out _⟩
              by_cases e : j = k
              · subst e; rw [HX.out]; unfold loadB; rw [HB.out]; rw [HB2.out]; rfl
              · exact HL.out j (by omega)
            case measure => simp [intOf]; omega
          | false =>
            have HF := Lib.hid (HN.out (by unfold loadB; rw [HB.out]; rw [HB2.out]; rfl))
            clear HN
            go_wp2_with fail
            refine (D1.out _).mono ?_
            rintro e w' ⟨rfl, rfl⟩
            go_wp2_with fail
            refine (D2.out _).mono ?_
            rintro e w' ⟨rfl, rfl⟩
            go_wp2
            go_ret
            exact ⟨by rw [HF.out]; rfl, FIN.out _⟩
      · obtain rfl : k = xs.length := by omega
        have hge : ¬ (xs.length : Int) < (xs.length : Int) := by omega
        have HF := Lib.hid (rowB_yes h12 HL.out)
        go_wp2
        go_ret
        exact ⟨by rw [HF.out]; rfl, hw⟩
  · have h12' : (12 : Int) < (xs.length : Int) := by omega
    have HF := Lib.hid (show rowB xs = false by unfold rowB; rw [show decide (xs.length ≤ 12) = false by simp; omega, Bool.false_and])
    go_enter Try.func164, Try.ntmps164
    go_wp2
    go_ret
    exact ⟨by rw [HF.out]; rfl, Below.refl _ _⟩
end Go.Proofs.Ytcfbnadefdcjaaa
