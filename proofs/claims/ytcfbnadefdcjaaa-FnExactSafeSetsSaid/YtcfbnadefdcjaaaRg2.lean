/- The contracts of both sides' functions that tell whether a list is a set of items. -/
import Derived.Test.YtcfbnadefdcjaaaRg1
import Derived.BigQuiet
namespace Go.Proofs.Ytcfbnadefdcjaaa
open Go.RowKit
/-- What is asked of an element of a set. -/
def setE (n : Nat) (xs : List Int) (i : Nat) : Prop := (0 ≤ xs.getD i 0 ∧ xs.getD i 0 < n) ∧ (0 < i → xs.getD (i - 1) 0 < xs.getD i 0)
theorem set_yes {n : Nat} {xs : List Int} (h : ∀ i, i < xs.length → setE n xs i) : setB n xs = true := (setB_iff n xs).2 h
theorem set_no {n : Nat} {xs : List Int} {i : Nat} (hi : i < xs.length) (h : ¬ setE n xs i) : setB n xs = false := by
  rw [Bool.eq_false_iff]
  intro h1
  exact h ((setB_iff n xs).1 h1 i hi)
set_option maxRecDepth 100000 in
set_option maxHeartbeats 3200000 in
theorem l1Rising_any (v : Value) (xs : List Int) (n : Nat) (w : World) (hr : IntRow w v xs) (hn : xs.length ≤ 2000000) (_ : n ≤ 100) :
    Calls Try.prog 163 #[v, .int .i64 0, .int .i64 ((n : Int) - 1)] w fun e w' => e = .returned (.bool (setB n xs)) ∧ Below w.heap.size w w' := by
  have HY := Lib.hid (fun h => set_yes (n := n) (xs := xs) h)
  have HN := Lib.hid (fun i (hi : i < xs.length) h => set_no (n := n) hi h)
  generalize setB n xs = r at *
  obtain ⟨a, c, rfl, hr⟩ := hr
  go_enter Try.func163, Try.ntmps163
  go_wp2
  go_loopw [7] (fun i wr => ∃ k : Nat, k ≤ xs.length ∧ i = .int .i64 k ∧ Hid (∀ j, j < k → setE n xs j) ∧ Hid (Below w.heap.size w wr)) (fun i _ => xs.length - (intOf i).toNat)
  case atStart => exact ⟨0, Nat.zero_le _, rfl, Lib.hid (fun j h => by omega), Lib.hid (Below.refl _ _)⟩
  case round =>
    obtain ⟨k, hk, rfl, HL, HW⟩ := hrel
    by_cases hlt : k < xs.length
    · rcases hr with h | ⟨g, off, rfl, hg, hc⟩
      · subst h; simp at hlt
      have hlt' : (k : Int) < (xs.length : Int) := by omega
      have c1 := hc k hlt
      rw [← HW.out.cell (p := ⟨g, off + k, none⟩) hg] at c1
      have HNk := Lib.hid (HN.out k hlt)
      have HLk := Lib.hid (fun (h : setE n xs k) => show ∀ j, j < k + 1 → setE n xs j from fun j hj => by
        by_cases e : j = k
        · rw [e]; exact h
        · exact HL.out j (by omega))
      have LD := Lib.hid (fun n => lo_drewN HW.out n)
      by_cases h0 : 0 < k
      · obtain ⟨m, hm⟩ : ∃ m, k - 1 = m := ⟨_, rfl⟩
        have hk1 : (k : Int) - 1 = (m : Int) := by omega
        have h0' : (0 : Int) < (k : Int) := by omega
        have c0 := hc m (by omega)
        rw [← HW.out.cell (p := ⟨g, off + m, none⟩) hg] at c0
        have hml : m < xs.length := by omega
        have hml' : (m : Int) < (xs.length : Int) := by omega
        have hm0 : (0 : Int) ≤ (m : Int) := by omega
        unfold setE at HNk
        have HLs := Lib.hid (fun h => HLk.out (show setE n xs k from h))
        clear HLk
        rw [hm] at HNk
        have HLt := Lib.hid (fun (h : (0 ≤ xs.getD k 0 ∧ xs.getD k 0 < n) ∧ (0 < k → xs.getD m 0 < xs.getD k 0)) => HLs.out (by unfold setE; rw [hm]; exact h))
        clear HLs
        generalize xs.getD k 0 = x at c1 HNk HLt
        generalize xs.getD m 0 = y at c0 HNk HLt
        clear hc hm
        by_cases hA : 0 ≤ x ∧ x ≤ (n : Int) - 1
        case neg =>
          have A1 := Lib.hid (fun w => l1In_q x 0 ((n : Int) - 1) false (in_no9 hA) w)
          have HF := Lib.hid (HNk.out (fun h => hA ⟨h.1.1, by omega⟩))
          clear hA HNk HLt
          go_wp2_with fail
          go_quiet ((go_at_call 139; with_reducible exact quiet_all9 A1.out _))
          go_wp2
          go_ret
          exact ⟨by rw [HF.out]; rfl, LD.out _⟩
        have A1 := Lib.hid (fun w => l1In_q x 0 ((n : Int) - 1) true (in_yes9 hA) w)
        by_cases hB : x ≤ y
        · have HF := Lib.hid (HNk.out (fun h => by have := h.2 (by omega); omega))
          clear hA HNk HLt
          go_wp2_with fail
          go_quiet ((go_at_call 139; with_reducible exact quiet_all9 A1.out _))
          go_wp2
          go_ret
          exact ⟨by rw [HF.out]; rfl, LD.out _⟩
        · have HS := Lib.hid (HLt.out ⟨⟨hA.1, by omega⟩, fun _ => by omega⟩)
          clear hA HNk HLt
          go_wp2_with fail
          go_quiet ((go_at_call 139; with_reducible exact quiet_all9 A1.out _))
          go_wp2
          go_roundw
          case rel => exact ⟨k + 1, by omega, by go_num, HS, Lib.hid (LD.out _)⟩
          case measure => simp [intOf]; omega
      · have h0' : ¬ (0 : Int) < (k : Int) := by omega
        have H0 := Lib.hid h0
        unfold setE at HNk
        have HLs := Lib.hid (fun (h : (0 ≤ xs.getD k 0 ∧ xs.getD k 0 < n) ∧ (0 < k → xs.getD (k - 1) 0 < xs.getD k 0)) => HLk.out (show setE n xs k from h))
        clear HLk
        generalize xs.getD (k - 1) 0 = y at HNk HLs
        generalize xs.getD k 0 = x at c1 HNk HLs
        clear hc
        by_cases hA : 0 ≤ x ∧ x ≤ (n : Int) - 1
        case neg =>
          have A1 := Lib.hid (fun w => l1In_q x 0 ((n : Int) - 1) false (in_no9 hA) w)
          have HF := Lib.hid (HNk.out (fun h => hA ⟨h.1.1, by omega⟩))
          clear hA HNk HLs
          go_wp2_with fail
          go_quiet ((go_at_call 139; with_reducible exact quiet_all9 A1.out _))
          go_wp2
          go_ret
          exact ⟨by rw [HF.out]; rfl, LD.out _⟩
        have A1 := Lib.hid (fun w => l1In_q x 0 ((n : Int) - 1) true (in_yes9 hA) w)
        have HS := Lib.hid (HLs.out ⟨⟨hA.1, by omega⟩, fun h => absurd h H0.out⟩)
        clear hA HNk HLs
        go_wp2_with fail
        go_quiet ((go_at_call 139; with_reducible exact quiet_all9 A1.out _))
        go_wp2
        go_roundw
        case rel => exact ⟨k + 1, by omega, by go_num, HS, Lib.hid (LD.out _)⟩
        case measure => simp [intOf]; omega
    · obtain rfl : k = xs.length := by omega
      have hge : ¬ (xs.length : Int) < (xs.length : Int) := by omega
      have HF := Lib.hid (HY.out HL.out)
      go_wp2
      go_ret
      exact ⟨by rw [HF.out]; rfl, HW.out⟩
set_option maxRecDepth 100000 in
set_option maxHeartbeats 3200000 in
theorem isItemSet_any (v : Value) (xs : List Int) (n : Nat) (w : World) (hr : IntRow w v xs) (hn : xs.length ≤ 2000000) (_ : n ≤ 100) :
    Calls Try.prog 95 #[.int .i64 (n : Int), v] w fun e w' => e = .returned (.bool (setB n xs)) ∧ Below w.heap.size w w' := by
  have HY := Lib.hid (fun h => set_yes (n := n) (xs := xs) h)
  have HN := Lib.hid (fun i (hi : i < xs.length) h => set_no (n := n) hi h)
  generalize setB n xs = r at *
  obtain ⟨a, c, rfl, hr⟩ := hr
  go_enter Try.func95, Try.ntmps95
  go_wp2
  go_loopw [9] (fun i wr => ∃ k : Nat, k ≤ xs.length ∧ i = .int .i64 k ∧ Hid (∀ j, j < k → setE n xs j) ∧ Hid (Below w.heap.size w wr)) (fun i _ => xs.length - (intOf i).toNat)
  case atStart => exact ⟨0, Nat.zero_le _, rfl, Lib.hid (fun j h => by omega), Lib.hid (Below.refl _ _)⟩
  case round =>
    obtain ⟨k, hk, rfl, HL, HW⟩ := hrel
    by_cases hlt : k < xs.length
    · rcases hr with h | ⟨g, off, rfl, hg, hc⟩
      · subst h; simp at hlt
      have hlt' : (k : Int) < (xs.length : Int) := by omega
      have c1 := hc k hlt
      rw [← HW.out.cell (p := ⟨g, off + k, none⟩) hg] at c1
      have HNk := Lib.hid (HN.out k hlt)
      have HLk := Lib.hid (fun (h : setE n xs k) => show ∀ j, j < k + 1 → setE n xs j from fun j hj => by
        by_cases e : j = k
        · rw [e]; exact h
        · exact HL.out j (by omega))
      by_cases h0 : 0 < k
      · obtain ⟨m, hm⟩ : ∃ m, k - 1 = m := ⟨_, rfl⟩
        have hk1 : (k : Int) - 1 = (m : Int) := by omega
        have h0' : (0 : Int) < (k : Int) := by omega
        have c0 := hc m (by omega)
        rw [← HW.out.cell (p := ⟨g, off + m, none⟩) hg] at c0
        have hml : m < xs.length := by omega
        have hml' : (m : Int) < (xs.length : Int) := by omega
        unfold setE at HNk
        have HLs := Lib.hid (fun h => HLk.out (show setE n xs k from h))
        clear HLk
        rw [hm] at HNk
        have HLt := Lib.hid (fun (h : (0 ≤ xs.getD k 0 ∧ xs.getD k 0 < n) ∧ (0 < k → xs.getD m 0 < xs.getD k 0)) => HLs.out (by unfold setE; rw [hm]; exact h))
        clear HLs
        generalize xs.getD k 0 = x at c1 HNk HLt
        generalize xs.getD m 0 = y at c0 HNk HLt
        clear hc hm
        by_cases hA : x < 0
        · have HF := Lib.hid (HNk.out (fun h => by omega))
          clear HNk HLt
          go_wp2
          go_ret
          exact ⟨by rw [HF.out]; rfl, HW.out⟩
        by_cases hC : (n : Int) ≤ x
        · have HF := Lib.hid (HNk.out (fun h => by omega))
          clear HNk HLt
          go_wp2
          go_ret
          exact ⟨by rw [HF.out]; rfl, HW.out⟩
        by_cases hB : x ≤ y
        · have HF := Lib.hid (HNk.out (fun h => by have := h.2 (by omega); omega))
          clear HNk HLt
          go_wp2
          go_ret
          exact ⟨by rw [HF.out]; rfl, HW.out⟩
        · have HS := Lib.hid (HLt.out ⟨⟨by omega, by omega⟩, fun _ => by omega⟩)
          clear HNk HLt
          go_wp2
          go_roundw
          case rel => exact ⟨k + 1, by omega, by go_num, HS, HW⟩
          case measure => simp [intOf]; omega
      · have h0' : ¬ (0 : Int) < (k : Int) := by omega
        have H0 := Lib.hid h0
        unfold setE at HNk
        have HLs := Lib.hid (fun (h : (0 ≤ xs.getD k 0 ∧ xs.getD k 0 < n) ∧ (0 < k → xs.getD (k - 1) 0 < xs.getD k 0)) => HLk.out (show setE n xs k from h))
        clear HLk
        generalize xs.getD (k - 1) 0 = y at HNk HLs
        generalize xs.getD k 0 = x at c1 HNk HLs
        clear hc
        by_cases hA : x < 0
        · have HF := Lib.hid (HNk.out (fun h => by omega))
          clear HNk HLs
          go_wp2
          go_ret
          exact ⟨by rw [HF.out]; rfl, HW.out⟩
        by_cases hC : (n : Int) ≤ x
        · have HF := Lib.hid (HNk.out (fun h => by omega))
          clear HNk HLs
          go_wp2
          go_ret
          exact ⟨by rw [HF.out]; rfl, HW.out⟩
        have HS := Lib.hid (HLs.out ⟨⟨by omega, by omega⟩, fun h => absurd h H0.out⟩)
        clear HNk HLs
        go_wp2
        go_roundw
        case rel => exact ⟨k + 1, by omega, by go_num, HS, HW⟩
        case measure => simp [intOf]; omega
    · obtain rfl : k = xs.length := by omega
      have hge : ¬ (xs.length : Int) < (xs.length : Int) := by omega
      have HF := Lib.hid (HY.out HL.out)
      go_wp2
      go_ret
      exact ⟨by rw [HF.out]; rfl, HW.out⟩
end Go.Proofs.Ytcfbnadefdcjaaa
