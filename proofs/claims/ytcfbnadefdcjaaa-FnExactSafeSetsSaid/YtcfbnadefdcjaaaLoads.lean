/- Rows of loads in memory, and the model's sums over them. -/
import Derived.Test.YtcfbnadefdcjaaaPairs
import Derived.Test.YtcfbnadefdcjaaaRowPlain
import Derived.Lib.Hide
import Derived.Below
import Derived.WalkKit
import Derived.OwnWalk
import Derived.Deep.QuietTactic
import Derived.BigQuiet
namespace Go.Proofs.Ytcfbnadefdcjaaa
open Go.RowKit
/-- The slice value v reads as the loads xs. -/
def LoadRow (w : World) (v : Value) (xs : List (Int × Int)) : Prop :=
  ∃ a c, v = .slice a xs.length c ∧ (xs = [] ∨ ∃ g off, a = some ⟨g, off, none⟩ ∧ g < w.heap.size ∧ ∀ j, j < xs.length → w.cell? ⟨g, off + j * 2, none⟩ = some (.int .i64 (xs.getD j (0, 0)).1) ∧ w.cell? ⟨g, off + j * 2 + 1, none⟩ = some (.int .i64 (xs.getD j (0, 0)).2))
theorem LoadRow.lo {w w' : World} {v : Value} {xs : List (Int × Int)} (h : LoadRow w v xs) (l : Below w.heap.size w w') : LoadRow w' v xs := by
  obtain ⟨a, c, rfl, h⟩ := h
  refine ⟨a, c, rfl, ?_⟩
  rcases h with h | ⟨g, off, e, hg, hc⟩
  · exact .inl h
  · exact .inr ⟨g, off, e, Nat.lt_of_lt_of_le hg l.size, fun j hj => by
      rw [l.cell (p := ⟨g, off + j * 2, none⟩) hg, l.cell (p := ⟨g, off + j * 2 + 1, none⟩) hg]; exact hc j hj⟩
theorem drewN_below (w : World) (n : Nat) : Below w.heap.size w (w.drewN n) := (Below.refl _ _).trans ⟨rfl, rfl, rfl, Nat.le_refl _, fun _ _ => rfl⟩
theorem l1In_any (x a b : Int) (w : World) : Calls Try.prog 139 #[.int .i64 x, .int .i64 a, .int .i64 b] w fun e w' => e = .returned (.bool (decide (a ≤ x) && decide (x ≤ b))) ∧ w = w' := by
  by_cases h1 : a ≤ x
  · by_cases h2 : x ≤ b
    all_goals go_enter Try.func139, Try.ntmps139
    all_goals go_wp2
    all_goals go_ret
    all_goals exact ⟨by simp [h1, h2], rfl⟩
  · go_enter Try.func139, Try.ntmps139
    go_wp2
    go_ret
    exact ⟨by simp; omega, rfl⟩
theorem l2In_any (x : Int) (w : World) : Calls Try.prog 208 #[.int .i64 x] w fun e w' => e = .returned (.bool (decide (0 ≤ x) && decide (x ≤ 60))) ∧ w = w' := by
  go_enter Try.func208, Try.ntmps208
  go_wp2_with fail
  refine (l1In_any x 0 60 w).mono ?_
  rintro e w' ⟨rfl, rfl⟩
  go_wp2
  go_ret
  exact ⟨rfl, rfl⟩
def rowB (xs : List (Int × Int)) : Bool := decide (xs.length ≤ 12) && xs.all loadB
theorem rowB_iff (xs : List (Int × Int)) : rowB xs = true ↔ RowF xs := by
  rw [rowF_iff]
  simp [rowB]
set_option maxHeartbeats 800000 in
theorem l2Row_any (v : Value) (xs : List (Int × Int)) (w : World) (hr : LoadRow w v xs) :
    Calls Try.prog 166 #[v] w fun e w' => e = .returned (.bool (rowB xs)) ∧ w = w' := by
  obtain ⟨a, c, rfl, hr⟩ := hr
  go_enter Try.func166, Try.ntmps166
  go_wp2
  go_loopw [3] (fun i wr => ∃ k : Nat, k ≤ xs.length ∧ k ≤ 13 ∧ i = .int .i64 k ∧ Hid (∀ j, j < k → loadB (xs.getD j (0, 0)) = true) ∧ wr = w) (fun i _ => xs.length - (intOf i).toNat)
  case atStart => exact ⟨0, Nat.zero_le _, by omega, rfl, Lib.hid (fun j h => by omega), rfl⟩
  case round =>
    obtain ⟨k, hk, hk2, rfl, HL, rfl⟩ := hrel
    by_cases hlt : k < xs.length ∧ k ≤ 12
    · obtain ⟨hlt, h12⟩ := hlt
      rcases hr with h | ⟨g, off, rfl, _, hc⟩
      · subst h; simp at hlt
      have h1 := (hc k hlt).1
      have h2 := (hc k hlt).2
      have hlt' : (k : Int) < (xs.length : Int) := by omega
      have h12' : (k : Int) ≤ 12 := by omega
      obtain ⟨x, hx⟩ : ∃ x, xs.getD k (0, 0) = x := ⟨_, rfl⟩
      rw [hx] at h1 h2
      have HX := Lib.hid hx
      have HM := Lib.hid (show xs.getD k (0, 0) ∈ xs by simp only [List.getD, List.getElem?_eq_getElem hlt, Option.getD_some]; exact List.getElem_mem hlt)
      clear hx hc
      obtain ⟨p, q⟩ := x
      simp only at h1 h2
      obtain ⟨b1, hb1⟩ : ∃ b, (decide (0 ≤ p) && decide (p ≤ 60)) = b := ⟨_, rfl⟩
      obtain ⟨b2, hb2⟩ : ∃ b, (decide (1 ≤ q) && decide (q ≤ 99)) = b := ⟨_, rfl⟩
      have C1 := fun w => l2In_any p w
      have C2 := fun w => l1In_any q 1 99 w
      rw [hb1] at C1
      rw [hb2] at C2
      have HB := Lib.hid (show loadB (p, q) = (b1 && b2) by rw [← hb1, ← hb2]; rfl)
      have HN := Lib.hid (show (b1 && b2) = false → rowB xs = false from fun h => by
        rw [← HB.out] at h
        cases hq : rowB xs with
        | false => rfl
        | true =>
          unfold rowB at hq
          rw [Bool.and_eq_true, List.all_eq_true] at hq
          have := hq.2 _ HM.out
          rw [HX.out, h] at this
          cases this)
      have D1 := Lib.hid C1
      have D2 := Lib.hid C2
      clear C1 C2 hb1 hb2
      cases b1 with
      | false =>
        have HF := Lib.hid (HN.out rfl)
        clear HN HB
        go_wp2_with fail
        refine (D1.out _).mono ?_
        rintro e w' ⟨rfl, rfl⟩
        go_wp2
        go_ret
        exact ⟨by rw [HF.out]; rfl, rfl⟩
      | true =>
        cases b2 with
        | false =>
          have HF := Lib.hid (HN.out rfl)
          clear HN HB
          go_wp2_with fail
          refine (D1.out _).mono ?_
          rintro e w' ⟨rfl, rfl⟩
          go_wp2_with fail
          refine (D2.out _).mono ?_
          rintro e w' ⟨rfl, rfl⟩
          go_wp2
          go_ret
          exact ⟨by rw [HF.out]; rfl, rfl⟩
        | true =>
          clear HN
          go_wp2_with fail
          refine (D1.out _).mono ?_
          rintro e w' ⟨rfl, rfl⟩
          go_wp2_with fail
          refine (D2.out _).mono ?_
          rintro e w' ⟨rfl, rfl⟩
          go_wp2
          go_roundw
          case rel =>
            refine ⟨k + 1, by omega, by omega, by go_num, Lib.hid (fun j hj => ?_), trivial⟩
            by_cases e : j = k
            · subst e; rw [HX.out]; exact HB.out
            · exact HL.out j (by omega)
          case measure => simp [intOf]; omega
    · by_cases hend : k = xs.length
      · subst hend
        have hge : ¬ (xs.length : Int) < (xs.length : Int) := by omega
        have HF := Lib.hid (show rowB xs = decide (xs.length ≤ 12) by
          unfold rowB
          have : xs.all loadB = true := List.all_eq_true.2 (fun x hx => by
            obtain ⟨j, hj, e⟩ := List.mem_iff_getElem.1 hx
            have := HL.out j hj
            simp only [List.getD, List.getElem?_eq_getElem hj, Option.getD_some, e] at this
            exact this)
          rw [this, Bool.and_true])
        by_cases h12 : xs.length ≤ 12
        · have h12' : (xs.length : Int) ≤ 12 := by omega
          go_wp2
          go_ret
          exact ⟨by rw [HF.out]; simp [h12], rfl⟩
        · have h12' : ¬ (xs.length : Int) ≤ 12 := by omega
          go_wp2
          go_ret
          exact ⟨by rw [HF.out]; simp [h12], rfl⟩
      · have hlt' : (k : Int) < (xs.length : Int) := by omega
        have h12 : ¬ (k : Int) ≤ 12 := by omega
        have h13 : ¬ (xs.length : Int) ≤ 12 := by omega
        have HF := Lib.hid (show rowB xs = false by unfold rowB; rw [show decide (xs.length ≤ 12) = false by simp; omega, Bool.false_and])
        go_wp2
        go_ret
        exact ⟨by rw [HF.out]; rfl, rfl⟩
end Go.Proofs.Ytcfbnadefdcjaaa
