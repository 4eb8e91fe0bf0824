/- What the counters answer, in full. -/
import Derived.Test.YtjchmjbgboeolaaCount6
namespace Go.Proofs.Ytjchmjbgboeolaa
open Go.RowKit
theorem specPlaces_is (v : Value) (zs : List (Int × Int)) (a b m : Int) (w : World) (hr : SRow w v zs) :
    Calls Try.prog 24 #[v, .int .i64 a, .int .i64 b, .int .i64 m] w fun e w' => e = .returned (.tuple #[.int .i64 (loF (fun k => standB zs a b ((k : Int), m)) 61), .int .i64 (hiF (fun k => standB zs a b ((k : Int), m)) 61), .bool (fdF (fun k => standB zs a b ((k : Int), m)) 61)]) ∧ Below w.heap.size w w' := by
  by_cases h : (rowB zs && baseB a b) = false ∨ zs.length = 12 ∨ (decide (1 ≤ m) && decide (m ≤ 99)) = false
  · have hn : ∀ k : Nat, standB zs a b ((k : Int), m) = false := fun k => by
      cases e : standB zs a b ((k : Int), m) with
      | false => rfl
      | true =>
        have hh := standB_row e
        rcases h with h | h | h
        · rw [h] at hh; cases hh.1
        · omega
        · have := hh.2.2.2; simp at h; omega
    have hf := scan_all (fun k : Nat => standB zs a b ((k : Int), m)) 61 (fun j _ => hn j)
    have hl := scan_none (fun k : Nat => standB zs a b ((k : Int), m)) 61 hf
    rw [hf, hl.1, hl.2]
    exact specStand_no v zs a b m w hr.load h
  · have h1 : (rowB zs && baseB a b) = true := by
      cases e : (rowB zs && baseB a b) with
      | true => rfl
      | false => exact absurd (.inl e) h
    have h2 : zs.length ≠ 12 := fun e => h (.inr (.inl e))
    have h3 : 1 ≤ m ∧ m ≤ 99 := by
      cases e : (decide (1 ≤ m) && decide (m ≤ 99)) with
      | true => simpa using e
      | false => exact absurd (.inr (.inr e)) h
    rw [Bool.and_eq_true] at h1
    have hz := (rowB_iff zs).1 h1.1
    have hc := scan_congr (st := fun k : Nat => standB zs a b ((k : Int), m)) (su := fun k : Nat => decide (sideF a b (zs ++ [((k : Int), m)]) = 0)) 61 (fun j hj => standB_is hz h1.2 h2 ⟨by simp; omega, h3⟩)
    rw [hc.1, hc.2.1, hc.2.2]
    exact specStand_yes v zs a b m w hr hz h1.2 h2 h3
/-- What StandPlaces tells. -/
theorem places_told (zs : List (Int × Int)) (a b m : Int) (h : fdF (fun k : Nat => standB zs a b ((k : Int), m)) 61 = true) :
    RowF zs ∧ baseB a b = true ∧ zs.length < 12 ∧ (1 ≤ m ∧ m ≤ 99) ∧ ∀ q : Nat, q ≤ 60 → (sideF a b (zs ++ [((q : Int), m)]) = 0 ↔ loF (fun k : Nat => standB zs a b ((k : Int), m)) 61 ≤ q ∧ (q : Int) ≤ hiF (fun k : Nat => standB zs a b ((k : Int), m)) 61) := by
  obtain ⟨l, hh, e1, e2, e3, e4, e5, e6, e7⟩ := scan_at _ 61 h
  have r := standB_row e5
  have rb := r.1
  rw [Bool.and_eq_true] at rb
  have hz := (rowB_iff zs).1 rb.1
  have hl : zs.length ≠ 12 := by omega
  have isq : ∀ q : Nat, q ≤ 60 → standB zs a b ((q : Int), m) = decide (sideF a b (zs ++ [((q : Int), m)]) = 0) := fun q hq => standB_is hz rb.2 hl ⟨by simp; omega, r.2.2.2⟩
  refine ⟨hz, rb.2, r.2.1, r.2.2.2, fun q hq => ?_⟩
  rw [e1, e2]
  constructor
  · intro hs
    have := e7 q (by omega) (by show standB zs a b ((q : Int), m) = true; rw [isq q hq]; simpa using hs)
    omega
  · rintro ⟨h1, h2⟩
    have s1 : sideF a b (zs ++ [((l : Int), m)]) = 0 := by have := e5; rw [isq l (by omega)] at this; simpa using this
    have s2 : sideF a b (zs ++ [((hh : Int), m)]) = 0 := by have := e6; rw [isq hh (by omega)] at this; simpa using this
    exact stand_between a b m l q hh zs (by have := r.2.2.2; simp at this; omega) h1 h2 s1 s2
/-- What LeastCounter answers. -/
def lcR (zs : List (Int × Int)) (a b p : Int) : Int × Bool :=
  if (rowB zs && baseB a b && (decide (0 ≤ p) && decide (p ≤ 60))) = true then (if sideF a b zs = 0 then (0, true) else lcF (fun k => standB zs a b (p, (k : Int))) 99 1) else (0, false)
theorem least_is (zs : List (Int × Int)) (a b p : Int) (v : Value) (w : World) (hr : SRow w v zs) :
    Calls Try.prog 27 #[v, .int .i64 a, .int .i64 b, .int .i64 p] w fun e w' => e = .returned (.tuple #[.int .i64 (lcR zs a b p).1, .bool (lcR zs a b p).2]) ∧ Below w.heap.size w w' := by
  unfold lcR
  cases h : (rowB zs && baseB a b && (decide (0 ≤ p) && decide (p ≤ 60))) with
  | false => exact leastCounter_no v zs a b p w hr.load h
  | true =>
    rw [Bool.and_eq_true, Bool.and_eq_true] at h
    obtain ⟨⟨h1, h2⟩, h3⟩ := h
    have hz := (rowB_iff zs).1 h1
    rw [if_pos rfl]
    by_cases hs : sideF a b zs = 0
    · rw [if_pos hs]; exact leastCounter_zero v zs a b p w hr.load hz h2 h3 hs
    · rw [if_neg hs]; exact leastCounter_far v zs a b p w hr hz h2 h3 hs
theorem specLeast_is (zs : List (Int × Int)) (a b p : Int) (v : Value) (w : World) (hr : SRow w v zs) :
    Calls Try.prog 26 #[v, .int .i64 a, .int .i64 b, .int .i64 p] w fun e w' => e = .returned (.tuple #[.int .i64 (lcR zs a b p).1, .bool (lcR zs a b p).2]) ∧ Below w.heap.size w w' := by
  unfold lcR
  cases h : (rowB zs && baseB a b && (decide (0 ≤ p) && decide (p ≤ 60))) with
  | false => exact specLeast_no v zs a b p w hr.load h
  | true =>
    rw [Bool.and_eq_true, Bool.and_eq_true] at h
    obtain ⟨⟨h1, h2⟩, h3⟩ := h
    have hz := (rowB_iff zs).1 h1
    have hp : 0 ≤ p ∧ p ≤ 60 := by simpa using h3
    rw [if_pos rfl]
    by_cases hs : sideF a b zs = 0
    · rw [if_pos hs]; exact specLeast_zero v zs a b p w hr.load hz h2 h3 hs
    · rw [if_neg hs]
      by_cases hl : zs.length = 12
      · have hn : ∀ k : Nat, standB zs a b (p, (k : Int)) = false := fun k => by
          cases e : standB zs a b (p, (k : Int)) with
          | false => rfl
          | true => have := standB_row e; omega
        rw [lc_none _ hn]
        exact specLeast_full v zs a b p w hr.load hz h2 h3 hs hl
      · have hc := lc_congr (st := fun k : Nat => standB zs a b (p, (k : Int))) (su := fun k : Nat => decide (sideF a b (zs ++ [(p, (k : Int))]) = 0)) 99 1 (fun j h4 h5 => standB_is hz h2 hl ⟨hp, by simp; omega⟩)
        rw [hc]
        exact specLeast_far v zs a b p w hr hz h2 h3 hs (by have := hz.short; omega)
/-- What LeastCounter tells. -/
theorem least_told (zs : List (Int × Int)) (a b p : Int) (h : (lcR zs a b p).2 = true) :
    RowF zs ∧ baseB a b = true ∧ (0 ≤ p ∧ p ≤ 60) ∧ ((sideF a b zs = 0 ∧ (lcR zs a b p).1 = 0) ∨ (sideF a b zs ≠ 0 ∧ ∃ n : Nat, (lcR zs a b p).1 = n ∧ 1 ≤ n ∧ n ≤ 99 ∧ zs.length < 12 ∧ sideF a b (zs ++ [(p, (n : Int))]) = 0 ∧ (2 ≤ n → sideF a b (zs ++ [(p, ((n - 1 : Nat) : Int))]) ≠ 0))) := by
  unfold lcR at h ⊢
  cases hg : (rowB zs && baseB a b && (decide (0 ≤ p) && decide (p ≤ 60))) with
  | false => rw [hg] at h; simp at h
  | true =>
    rw [hg, if_pos rfl] at h
    rw [if_pos rfl]
    rw [Bool.and_eq_true, Bool.and_eq_true] at hg
    obtain ⟨⟨h1, h2⟩, h3⟩ := hg
    have hz := (rowB_iff zs).1 h1
    have hp : 0 ≤ p ∧ p ≤ 60 := by simpa using h3
    refine ⟨hz, h2, hp, ?_⟩
    by_cases hs : sideF a b zs = 0
    · rw [if_pos hs]; exact .inl ⟨hs, rfl⟩
    · rw [if_neg hs] at h ⊢
      obtain ⟨n, e1, e2, e3, e4, e5⟩ := lc_some _ 99 1 h
      have r := standB_row e4
      have hl : zs.length ≠ 12 := by omega
      have isq : ∀ q : Nat, 1 ≤ q → q ≤ 99 → standB zs a b (p, (q : Int)) = decide (sideF a b (zs ++ [(p, (q : Int))]) = 0) := fun q h4 h5 => standB_is hz h2 hl ⟨hp, by simp; omega⟩
      refine .inr ⟨hs, n, e1, e2, by omega, r.2.1, ?_, fun hn => ?_⟩
      · have := e4; rw [isq n e2 (by omega)] at this; simpa using this
      · have := e5 (n - 1) (by omega) (by omega); rw [isq (n - 1) (by omega) (by omega)] at this; simpa using this
/-- What MostExtra answers. -/
def meR (zs : List (Int × Int)) (a b p : Int) : Int × Bool :=
  if (rowB zs && baseB a b) = false ∨ sideF a b zs ≠ 0 ∨ zs.length = 12 ∨ (decide (0 ≤ p) && decide (p ≤ 60)) = false then (0, false) else (mtF (fun k => standB zs a b (p, (k : Int))) 99, true)
theorem me_parts {zs : List (Int × Int)} {a b p : Int} (h : ¬ ((rowB zs && baseB a b) = false ∨ sideF a b zs ≠ 0 ∨ zs.length = 12 ∨ (decide (0 ≤ p) && decide (p ≤ 60)) = false)) :
    RowF zs ∧ baseB a b = true ∧ sideF a b zs = 0 ∧ zs.length ≠ 12 ∧ (decide (0 ≤ p) && decide (p ≤ 60)) = true := by
  have h1 : (rowB zs && baseB a b) = true := by
    cases e : (rowB zs && baseB a b) with
    | true => rfl
    | false => exact absurd (.inl e) h
  rw [Bool.and_eq_true] at h1
  refine ⟨(rowB_iff zs).1 h1.1, h1.2, ?_, fun e => h (.inr (.inr (.inl e))), ?_⟩
  · by_cases e : sideF a b zs = 0
    · exact e
    · exact absurd (.inr (.inl e)) h
  · cases e : (decide (0 ≤ p) && decide (p ≤ 60)) with
    | true => rfl
    | false => exact absurd (.inr (.inr (.inr e))) h
theorem most_is (zs : List (Int × Int)) (a b p : Int) (v : Value) (w : World) (hr : SRow w v zs) :
    Calls Try.prog 29 #[v, .int .i64 a, .int .i64 b, .int .i64 p] w fun e w' => e = .returned (.tuple #[.int .i64 (meR zs a b p).1, .bool (meR zs a b p).2]) ∧ Below w.heap.size w w' := by
  unfold meR
  by_cases h : (rowB zs && baseB a b) = false ∨ sideF a b zs ≠ 0 ∨ zs.length = 12 ∨ (decide (0 ≤ p) && decide (p ≤ 60)) = false
  · rw [if_pos h]; exact mostExtra_no v zs a b p w hr.load h
  · rw [if_neg h]
    obtain ⟨hz, h1, h2, h3, h4⟩ := me_parts h
    exact mostExtra_yes v zs a b p w hr hz h1 h4 h2 h3
theorem specMost_is (zs : List (Int × Int)) (a b p : Int) (v : Value) (w : World) (hr : SRow w v zs) :
    Calls Try.prog 28 #[v, .int .i64 a, .int .i64 b, .int .i64 p] w fun e w' => e = .returned (.tuple #[.int .i64 (meR zs a b p).1, .bool (meR zs a b p).2]) ∧ Below w.heap.size w w' := by
  unfold meR
  by_cases h : (rowB zs && baseB a b) = false ∨ sideF a b zs ≠ 0 ∨ zs.length = 12 ∨ (decide (0 ≤ p) && decide (p ≤ 60)) = false
  · rw [if_pos h]; exact specMost_no v zs a b p w hr.load h
  · rw [if_neg h]
    obtain ⟨hz, h1, h2, h3, h4⟩ := me_parts h
    have hp : 0 ≤ p ∧ p ≤ 60 := by simpa using h4
    have hc := mt_congr (st := fun k : Nat => standB zs a b (p, (k : Int))) (su := fun k : Nat => decide (sideF a b (zs ++ [(p, (k : Int))]) = 0)) 99 (fun j h5 h6 => standB_is hz h1 h3 ⟨hp, by simp; omega⟩)
    rw [hc]
    exact specMost_yes v zs a b p w hr hz h1 h4 h2 h3
/-- What MostExtra tells. -/
theorem most_told (zs : List (Int × Int)) (a b p : Int) (h : (meR zs a b p).2 = true) :
    RowF zs ∧ baseB a b = true ∧ zs.length < 12 ∧ (0 ≤ p ∧ p ≤ 60) ∧ ∃ n : Nat, (meR zs a b p).1 = n ∧ n ≤ 99 ∧ (n < 99 → sideF a b (zs ++ [(p, ((n + 1 : Nat) : Int))]) ≠ 0) := by
  unfold meR at h ⊢
  by_cases hg : (rowB zs && baseB a b) = false ∨ sideF a b zs ≠ 0 ∨ zs.length = 12 ∨ (decide (0 ≤ p) && decide (p ≤ 60)) = false
  · rw [if_pos hg] at h; cases h
  · rw [if_neg hg]
    obtain ⟨hz, h1, h2, h3, h4⟩ := me_parts hg
    have hp : 0 ≤ p ∧ p ≤ 60 := by simpa using h4
    have hb := mt_bounds (fun k : Nat => standB zs a b (p, (k : Int))) 99
    refine ⟨hz, h1, by have := hz.short; omega, hp, (mtF (fun k : Nat => standB zs a b (p, (k : Int))) 99).toNat, by omega, by omega, fun hn => ?_⟩
    have := mt_above (fun k : Nat => standB zs a b (p, (k : Int))) 99 ((mtF (fun k : Nat => standB zs a b (p, (k : Int))) 99).toNat + 1) (by omega) (by omega)
    rw [standB_is hz h1 h3 ⟨hp, by simp; omega⟩] at this
    simpa using this
end Go.Proofs.Ytjchmjbgboeolaa
