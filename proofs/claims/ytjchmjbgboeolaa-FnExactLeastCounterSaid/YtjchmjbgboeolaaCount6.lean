/- What the program's and the model's counters answer alike. -/
import Derived.Test.YtjchmjbgboeolaaCount5
namespace Go.Proofs.Ytjchmjbgboeolaa
open Go.RowKit
theorem standB_row {xs : List (Int × Int)} {a b : Int} {x : Int × Int} (h : standB xs a b x = true) : (rowB xs && baseB a b) = true ∧ xs.length < 12 ∧ (0 ≤ x.1 ∧ x.1 ≤ 60) ∧ 1 ≤ x.2 ∧ x.2 ≤ 99 := by
  unfold standB at h
  rw [Bool.and_eq_true, Bool.and_eq_true] at h
  obtain ⟨⟨h1, h2⟩, _⟩ := h
  have hz := (rowB_iff _).1 h1
  have hs := hz.short
  simp at hs
  refine ⟨by rw [(rowB_app h1).1, h2]; rfl, by omega, hz.each x (by simp)⟩
theorem standB_is {xs : List (Int × Int)} {a b : Int} {x : Int × Int} (hz : RowF xs) (hb : baseB a b = true) (hl : xs.length ≠ 12) (hx : (0 ≤ x.1 ∧ x.1 ≤ 60) ∧ 1 ≤ x.2 ∧ x.2 ≤ 99) : standB xs a b x = decide (sideF a b (xs ++ [x]) = 0) := by
  unfold standB
  rw [(rowB_iff _).2 (rowF_snoc hz (by have := hz.short; omega) hx), hb]
  rfl
theorem places_both (zs : List (Int × Int)) (a b m : Int) : ∃ (x0 x1 : Int) (r : Bool), (∀ v w, SRow w v zs → Calls Try.prog 24 #[v, .int .i64 a, .int .i64 b, .int .i64 m] w fun e w' => e = .returned (.tuple #[.int .i64 x0, .int .i64 x1, .bool r]) ∧ Below w.heap.size w w') ∧
      (∀ v w, SRow w v zs → Calls Try.prog 25 #[v, .int .i64 a, .int .i64 b, .int .i64 m] w fun e w' => e = .returned (.tuple #[.int .i64 x0, .int .i64 x1, .bool r]) ∧ Below w.heap.size w w') := by
  by_cases h : (rowB zs && baseB a b) = false ∨ zs.length = 12 ∨ (decide (1 ≤ m) && decide (m ≤ 99)) = false
  · have hn : ∀ k : Nat, standB zs a b ((k : Int), m) = false := fun k => by
      cases e : standB zs a b ((k : Int), m) with
      | false => rfl
      | true =>
        have hh := standB_row e
        rcases h with h | h | h
        · rw [h] at hh; cases hh.1
        · omega
        · have := hh.2.2.2; simp at h; omega
    have hf := scan_all (fun k : Nat => standB zs a b ((k : Int), m)) 61 (fun j _ => hn j)
    have hl := scan_none (fun k : Nat => standB zs a b ((k : Int), m)) 61 hf
    refine ⟨0, 0, false, fun v w hr => specStand_no v zs a b m w hr.load h, fun v w hr => ?_⟩
    have := standPlaces_is v zs a b m w hr
    rw [hf, hl.1, hl.2] at this
    exact this
  · have h1 : (rowB zs && baseB a b) = true := by
      cases e : (rowB zs && baseB a b) with
      | true => rfl
      | false => exact absurd (.inl e) h
    have h2 : zs.length ≠ 12 := fun e => h (.inr (.inl e))
    have h3 : 1 ≤ m ∧ m ≤ 99 := by
      cases e : (decide (1 ≤ m) && decide (m ≤ 99)) with
      | true => simpa using e
      | false => exact absurd (.inr (.inr e)) h
    rw [Bool.and_eq_true] at h1
    have hz := (rowB_iff zs).1 h1.1
    have hc := scan_congr (st := fun k : Nat => standB zs a b ((k : Int), m)) (su := fun k : Nat => decide (sideF a b (zs ++ [((k : Int), m)]) = 0)) 61 (fun j hj => standB_is hz h1.2 h2 ⟨by simp; omega, h3⟩)
    refine ⟨_, _, _, fun v w hr => specStand_yes v zs a b m w hr hz h1.2 h2 h3, fun v w hr => ?_⟩
    have := standPlaces_is v zs a b m w hr
    rw [hc.1, hc.2.1, hc.2.2] at this
    exact this
theorem least_both (zs : List (Int × Int)) (a b p : Int) : ∃ (x0 : Int) (r : Bool), (∀ v w, SRow w v zs → Calls Try.prog 26 #[v, .int .i64 a, .int .i64 b, .int .i64 p] w fun e w' => e = .returned (.tuple #[.int .i64 x0, .bool r]) ∧ Below w.heap.size w w') ∧
      (∀ v w, SRow w v zs → Calls Try.prog 27 #[v, .int .i64 a, .int .i64 b, .int .i64 p] w fun e w' => e = .returned (.tuple #[.int .i64 x0, .bool r]) ∧ Below w.heap.size w w') := by
  cases h : (rowB zs && baseB a b && (decide (0 ≤ p) && decide (p ≤ 60))) with
  | false => exact ⟨0, false, fun v w hr => specLeast_no v zs a b p w hr.load h, fun v w hr => leastCounter_no v zs a b p w hr.load h⟩
  | true =>
    rw [Bool.and_eq_true, Bool.and_eq_true] at h
    obtain ⟨⟨h1, h2⟩, h3⟩ := h
    have hz := (rowB_iff zs).1 h1
    have hp : 0 ≤ p ∧ p ≤ 60 := by simpa using h3
    by_cases hs : sideF a b zs = 0
    · exact ⟨0, true, fun v w hr => specLeast_zero v zs a b p w hr.load hz h2 h3 hs, fun v w hr => leastCounter_zero v zs a b p w hr.load hz h2 h3 hs⟩
    · by_cases hl : zs.length = 12
      · refine ⟨0, false, fun v w hr => specLeast_full v zs a b p w hr.load hz h2 h3 hs hl, fun v w hr => ?_⟩
        have hn : ∀ k : Nat, standB zs a b (p, (k : Int)) = false := fun k => by
          cases e : standB zs a b (p, (k : Int)) with
          | false => rfl
          | true => have := standB_row e; omega
        have := leastCounter_far v zs a b p w hr hz h2 h3 hs
        rw [lc_none _ hn] at this
        exact this
      · have hc := lc_congr (st := fun k : Nat => standB zs a b (p, (k : Int))) (su := fun k : Nat => decide (sideF a b (zs ++ [(p, (k : Int))]) = 0)) 99 1 (fun j h4 h5 => standB_is hz h2 hl ⟨hp, by simp; omega⟩)
        refine ⟨_, _, fun v w hr => specLeast_far v zs a b p w hr hz h2 h3 hs (by have := hz.short; omega), fun v w hr => ?_⟩
        have := leastCounter_far v zs a b p w hr hz h2 h3 hs
        rw [hc] at this
        exact this
theorem most_both (zs : List (Int × Int)) (a b p : Int) : ∃ (x0 : Int) (r : Bool), (∀ v w, SRow w v zs → Calls Try.prog 28 #[v, .int .i64 a, .int .i64 b, .int .i64 p] w fun e w' => e = .returned (.tuple #[.int .i64 x0, .bool r]) ∧ Below w.heap.size w w') ∧
      (∀ v w, SRow w v zs → Calls Try.prog 29 #[v, .int .i64 a, .int .i64 b, .int .i64 p] w fun e w' => e = .returned (.tuple #[.int .i64 x0, .bool r]) ∧ Below w.heap.size w w') := by
  by_cases h : (rowB zs && baseB a b) = false ∨ sideF a b zs ≠ 0 ∨ zs.length = 12 ∨ (decide (0 ≤ p) && decide (p ≤ 60)) = false
  · exact ⟨0, false, fun v w hr => specMost_no v zs a b p w hr.load h, fun v w hr => mostExtra_no v zs a b p w hr.load h⟩
  · have h1 : (rowB zs && baseB a b) = true := by
      cases e : (rowB zs && baseB a b) with
      | true => rfl
      | false => exact absurd (.inl e) h
    have h2 : sideF a b zs = 0 := by
      by_cases e : sideF a b zs = 0
      · exact e
      · exact absurd (.inr (.inl e)) h
    have h3 : zs.length ≠ 12 := fun e => h (.inr (.inr (.inl e)))
    have h4 : (decide (0 ≤ p) && decide (p ≤ 60)) = true := by
      cases e : (decide (0 ≤ p) && decide (p ≤ 60)) with
      | true => rfl
      | false => exact absurd (.inr (.inr (.inr e))) h
    rw [Bool.and_eq_true] at h1
    have hz := (rowB_iff zs).1 h1.1
    have hp : 0 ≤ p ∧ p ≤ 60 := by simpa using h4
    have hc := mt_congr (st := fun k : Nat => standB zs a b (p, (k : Int))) (su := fun k : Nat => decide (sideF a b (zs ++ [(p, (k : Int))]) = 0)) 99 (fun j h5 h6 => standB_is hz h1.2 h3 ⟨hp, by simp; omega⟩)
    refine ⟨_, true, fun v w hr => specMost_yes v zs a b p w hr hz h1.2 h4 h2 h3, fun v w hr => ?_⟩
    have := mostExtra_yes v zs a b p w hr hz h1.2 h4 h2 h3
    rw [hc] at this
    exact this
end Go.Proofs.Ytjchmjbgboeolaa
