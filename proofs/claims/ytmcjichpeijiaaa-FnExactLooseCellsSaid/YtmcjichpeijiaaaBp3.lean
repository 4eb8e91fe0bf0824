/- The model's PutDown. -/
import Derived.Test.YtmcjichpeijiaaaBp2
namespace Go.Proofs.Ytmcjichpeijiaaa
open Go.RowKit Go.Maps
def In60 (c : Int × Int) : Prop := (-60 ≤ c.1 ∧ c.1 ≤ 60) ∧ -60 ≤ c.2 ∧ c.2 ≤ 60
/-- When a list can be put down as a body. -/
structure PdF (xs : List (Int × Int)) : Prop where
  one : 1 ≤ xs.length
  short : xs.length ≤ 12
  near : ∀ c ∈ xs, In60 c
  bod : BodF (downL xs)
noncomputable def pdB (xs : List (Int × Int)) : Bool := propB (PdF xs)
theorem pdB_iff (xs : List (Int × Int)) : pdB xs = true ↔ PdF xs := propB_iff _
noncomputable def pdL (xs : List (Int × Int)) : List (Int × Int) := if pdB xs = true then downL xs else []
theorem pd_yes {xs : List (Int × Int)} (h : PdF xs) : pdB xs = true ∧ pdL xs = downL xs := by
  have := (pdB_iff xs).2 h
  exact ⟨this, by unfold pdL; rw [if_pos this]⟩
theorem pd_no {xs : List (Int × Int)} (h : ¬ PdF xs) : pdB xs = false ∧ pdL xs = [] := by
  have : pdB xs = false := by cases e : pdB xs with | false => rfl | true => exact absurd ((pdB_iff xs).1 e) h
  exact ⟨this, by unfold pdL; rw [this]; simp⟩
theorem pdL_len (xs : List (Int × Int)) : (pdL xs).length ≤ xs.length := by
  unfold pdL; split
  · rw [downL_len]; exact Nat.le_refl _
  · simp
theorem In60.sm {c : Int × Int} (h : In60 c) : SmC c := by unfold In60 at h; unfold SmC; omega
theorem lit_row (w : World) (t : TypeId) : LoadRow (w.alloc (.cells #[] t)) (.slice (some ⟨w.heap.size, 0, none⟩) 0 0) [] := ⟨_, _, rfl, .inl rfl⟩
set_option maxRecDepth 100000 in
set_option maxHeartbeats 3200000 in
theorem specPutDown_any (v : Value) (xs : List (Int × Int)) (w : World) (hr : LoadRow w v xs) (hn : xs.length ≤ 2000000) :
    Calls Try.prog 24 #[v] w fun e w' => ∃ u0, e = .returned (.tuple #[u0, .bool (pdB xs)]) ∧ LoadRow w' u0 (pdL xs) ∧ Below w.heap.size w w' := by
  have HY := Lib.hid (fun h : PdF xs => pd_yes h)
  have HN := Lib.hid (fun h : ¬ PdF xs => pd_no h)
  generalize pdB xs = b at *
  generalize pdL xs = ys at *
  by_cases h12 : 1 ≤ xs.length ∧ xs.length ≤ 12
  case neg =>
    have C1 := Lib.hid (fun w => l1In_is (xs.length : Int) 1 12 false (in_no (by omega)) w)
    obtain ⟨rfl, rfl⟩ := HN.out (fun h => h12 ⟨h.one, h.short⟩)
    obtain ⟨a, c, rfl, _⟩ := hr
    clear h12
    go_enter Try.func24, Try.ntmps24
    go_wp2_with fail
    refine (C1.out _).mono ?_
    rintro e w' ⟨rfl, rfl⟩
    go_wp2
    go_ret2
    exact ⟨_, rfl, lit_row _ _, below_new _ _⟩
  have C1 := Lib.hid (fun w => l1In_is (xs.length : Int) 1 12 true (in_yes (by omega)) w)
  have HR := Lib.hid hr
  obtain ⟨a, c, rfl, hr⟩ := hr
  rcases hr with h | ⟨g, off, rfl, hg, hc⟩
  · subst h; simp at h12
  have HC := Lib.hid hc
  clear hc
  go_enter Try.func24, Try.ntmps24
  go_wp2_with fail
  refine (C1.out _).mono ?_
  rintro e w' ⟨rfl, rfl⟩
  go_wp2
  go_loopw [4] (fun i wr => ∃ k : Nat, k ≤ xs.length ∧ i = .int .i64 k ∧ Hid (∀ j, j < k → In60 (xs.getD j (0, 0))) ∧ wr = w) (fun i _ => xs.length - (intOf i).toNat)
  case atStart => exact ⟨0, Nat.zero_le _, rfl, Lib.hid (fun j h => by omega), rfl⟩
  case round =>
    obtain ⟨k, hk, rfl, HB, rfl⟩ := hrel
    clear C1
    by_cases hlt : k < xs.length
    · have hlt' : (k : Int) < (xs.length : Int) := by omega
      obtain ⟨c1, c2⟩ := HC.out k hlt
      have HX := Lib.hid (fun h : PdF xs => h.near _ (mem_getD hlt))
      obtain ⟨x, hx⟩ : ∃ x, xs.getD k (0, 0) = x := ⟨_, rfl⟩
      rw [hx] at c1 c2 HX
      have HXE := Lib.hid hx
      clear hx
      obtain ⟨x1, x2⟩ := x
      simp only at c1 c2
      by_cases b1 : -60 ≤ x1 ∧ x1 ≤ 60
      case neg =>
        have A1 := Lib.hid (fun w => l1In_is x1 (-60) 60 false (in_no b1) w)
        obtain ⟨rfl, rfl⟩ := HN.out (fun h => b1 (HX.out h).1)
        clear b1
        go_wp2_with fail
        refine (A1.out _).mono ?_
        rintro e w' ⟨rfl, rfl⟩
        go_wp2
        go_ret2
        exact ⟨_, rfl, lit_row _ _, below_new _ _⟩
      have A1 := Lib.hid (fun w => l1In_is x1 (-60) 60 true (in_yes b1) w)
      by_cases b2 : -60 ≤ x2 ∧ x2 ≤ 60
      case neg =>
        have A2 := Lib.hid (fun w => l1In_is x2 (-60) 60 false (in_no b2) w)
        obtain ⟨rfl, rfl⟩ := HN.out (fun h => b2 (HX.out h).2)
        clear b1 b2
        go_wp2_with fail
        refine (A1.out _).mono ?_
        rintro e w' ⟨rfl, rfl⟩
        go_wp2_with fail
        refine (A2.out _).mono ?_
        rintro e w' ⟨rfl, rfl⟩
        go_wp2
        go_ret2
        exact ⟨_, rfl, lit_row _ _, below_new _ _⟩
      have A2 := Lib.hid (fun w => l1In_is x2 (-60) 60 true (in_yes b2) w)
      have HBn := Lib.hid (show ∀ j, j < k + 1 → In60 (xs.getD j (0, 0)) from fun j hj => by
        by_cases e : j = k
        · subst e; rw [HXE.out]; exact ⟨b1, b2⟩
        · exact HB.out j (by omega))
      clear b1 b2
      go_wp2_with fail
      refine (A1.out _).mono ?_
      rintro e w' ⟨rfl, rfl⟩
      go_wp2_with fail
      refine (A2.out _).mono ?_
      rintro e w' ⟨rfl, rfl⟩
      go_wp2
      go_roundw
      case rel => exact ⟨k + 1, by omega, by go_num, HBn, trivial⟩
      case measure => simp [intOf]; omega
    · obtain rfl : k = xs.length := by omega
      have hge : ¬ (xs.length : Int) < (xs.length : Int) := by omega
      have HIN := Lib.hid (show ∀ c ∈ xs, In60 c from fun c hc => by
        obtain ⟨j, hj, rfl⟩ := getD_mem hc
        exact HB.out j hj)
      have DN := Lib.hid (l8Down_any _ xs wr HR.out (by omega) (fun c hc => (HIN.out c hc).sm) (by omega))
      have BO := Lib.hid (fun (u : Value) (w : World) (hu : LoadRow w u (downL xs)) => l8Body_any u (downL xs) w hu)
      have HBO := Lib.hid (bodB_iff (downL xs))
      have HPY := Lib.hid (fun h : BodF (downL xs) => HY.out ⟨h12.1, h12.2, HIN.out, h⟩)
      have HPN := Lib.hid (fun h : ¬ BodF (downL xs) => HN.out (fun k => h k.bod))
      have HDL := Lib.hid (show 0 < (downL xs).length by rw [downL_len]; omega)
      generalize bodB (downL xs) = t at BO HBO
      go_wp2_with fail
      refine DN.out.mono ?_
      rintro e w1 ⟨u, rfl, ho, l1⟩
      have HO := Lib.hid ho
      have L1 := Lib.hid l1
      have BU := Lib.hid (BO.out u w1 (ownC_row ho))
      obtain ⟨gu, cu, rfl, _⟩ := ownC_form ho HDL.out
      clear ho l1 BO DN
      cases t with
      | true =>
        obtain ⟨rfl, rfl⟩ := HPY.out (HBO.out.1 rfl)
        go_wp2_with fail
        refine BU.out.mono ?_
        rintro e w2 ⟨rfl, l2⟩
        go_wp2
        go_ret2
        exact ⟨_, rfl, (ownC_row HO.out).lo l2, lo_on L1.out l2⟩
      | false =>
        obtain ⟨rfl, rfl⟩ := HPN.out (fun h => by have := HBO.out.2 h; cases this)
        go_wp2_with fail
        refine BU.out.mono ?_
        rintro e w2 ⟨rfl, l2⟩
        go_wp2
        go_ret2
        exact ⟨_, rfl, lit_row _ _, lo_on (lo_on L1.out l2) (below_new _ _)⟩
end Go.Proofs.Ytmcjichpeijiaaa
