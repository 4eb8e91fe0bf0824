/- The contract of slices.DeleteFunc at a table of lists, for any test. -/
import Derived.Test.YtcfbnadefdcjaaaTabM
import Derived.Test.YtcfbnadefdcjaaaSwP
import Derived.Test.YtcfbnadefdcjaaaIn
import Derived.Laws.IdiomCopy
import Derived.Deep.Upon
namespace Go.Proofs.Ytcfbnadefdcjaaa
open Go.RowKit
/-- The numbers below j that are kept. -/
def kpF (f : Nat → Bool) (j : Nat) : List Nat := (List.range j).filter (fun t => !f t)
theorem kp_next (f : Nat → Bool) (j : Nat) : kpF f (j + 1) = kpF f j ++ (if f j = true then [] else [j]) := by
  unfold kpF
  rw [List.range_succ, List.filter_append]
  congr 1
  cases h : f j <;> simp [h]
theorem kp_all {f : Nat → Bool} {j : Nat} (h : ∀ t, t < j → f t = false) : kpF f j = List.range j := by
  unfold kpF
  rw [List.filter_eq_self]
  intro x hx
  rw [List.mem_range] at hx
  simp [h x hx]
theorem kp_mem {f : Nat → Bool} {j x : Nat} (h : x ∈ kpF f j) : x < j := List.mem_range.1 (List.mem_filter.1 h).1
theorem kp_len (f : Nat → Bool) (j : Nat) : (kpF f j).length ≤ j := by
  have := List.length_filter_le (fun t => !f t) (List.range j)
  rw [List.length_range] at this
  exact this
theorem kp_less {f : Nat → Bool} {i j : Nat} (h : f i = true) (hi : i < j) : (kpF f j).length < j := by
  obtain ⟨d, rfl⟩ : ∃ d, j = i + 1 + d := ⟨j - (i + 1), by omega⟩
  clear hi
  induction d with
  | zero =>
    rw [Nat.add_zero, kp_next, if_pos h, List.append_nil]
    have := kp_len f i
    omega
  | succ d ih =>
    rw [show i + 1 + (d + 1) = (i + 1 + d) + 1 by omega, kp_next, List.length_append]
    split <;> simp <;> omega
theorem only_setCells (C : Nat) (vs : List Value) : ∀ (o : Nat) (w : World), Only C w (w.setCells C o vs) := by
  induction vs with
  | nil => intro o w; exact Only.refl _ _
  | cons v l ih => intro o w; exact (only_set w C o v).trans (ih (o + 1) _)
theorem lo_only {C : Nat} {a b : World} (h : Below a.heap.size a b) : Only C a b := Only.of_lo h
/-- The cells of the table while it is thinned out. -/
structure ThinT (w : World) (g n j i : Nat) (us : Nat → Value) (f : Nat → Bool) : Prop where
  done : ∀ t, t < i → w.cell? ⟨g, t, none⟩ = some (us ((kpF f j).getD t 0))
  rest : ∀ t, j ≤ t → t < n → w.cell? ⟨g, t, none⟩ = some (us t)
  there : ∀ t, t < n → ∃ x, w.cell? ⟨g, t, none⟩ = some x
  open_ : ∀ t, w.frozen? ⟨g, t, none⟩ = false
theorem ThinT.lo {w w' : World} {g n j i : Nat} {us : Nat → Value} {f : Nat → Bool} (h : ThinT w g n j i us f) (hg : g < w.heap.size) (l : Below w.heap.size w w') : ThinT w' g n j i us f :=
  ⟨fun t ht => by rw [l.cell (p := ⟨g, t, none⟩) hg]; exact h.done t ht, fun t h1 h2 => by rw [l.cell (p := ⟨g, t, none⟩) hg]; exact h.rest t h1 h2, fun t ht => by rw [l.cell (p := ⟨g, t, none⟩) hg]; exact h.there t ht, fun t => by rw [l.frozen (p := ⟨g, t, none⟩) hg]; exact h.open_ t⟩
theorem ThinT.skip {w : World} {g n j : Nat} {us : Nat → Value} {f : Nat → Bool} (h : ThinT w g n j (kpF f j).length us f) (hf : f j = true) : ThinT w g n (j + 1) (kpF f (j + 1)).length us f := by
  have e : kpF f (j + 1) = kpF f j := by rw [kp_next, if_pos hf, List.append_nil]
  refine ⟨fun t ht => ?_, fun t h1 h2 => h.rest t (by omega) h2, h.there, h.open_⟩
  rw [e] at ht ⊢
  exact h.done t ht
theorem ThinT.keep {w : World} {g n j : Nat} {us : Nat → Value} {f : Nat → Bool} (h : ThinT w g n j (kpF f j).length us f) (hf : f j = false) (hj : j < n) : ThinT (w.setCell ⟨g, (kpF f j).length, none⟩ (us j)) g n (j + 1) (kpF f (j + 1)).length us f := by
  have hl := kp_len f j
  have e : kpF f (j + 1) = kpF f j ++ [j] := by rw [kp_next, hf]; rfl
  have el : (kpF f (j + 1)).length = (kpF f j).length + 1 := by rw [e, List.length_append]; rfl
  obtain ⟨x, hx⟩ := h.there (kpF f j).length (by omega)
  have TS := one_set w g (kpF f j).length (us j) hx
  refine ⟨fun t ht => ?_, fun t h1 h2 => ?_, fun t ht => ?_, fun t => by rw [World.frozen?_setCell]; exact h.open_ t⟩
  · rw [el] at ht
    by_cases et : t = (kpF f j).length
    · subst et
      rw [TS.1, e]
      simp [List.getD]
    · rw [TS.2 _ et, h.done t (by omega), e]
      simp only [List.getD]
      rw [List.getElem?_append_left (by omega)]
  · rw [TS.2 _ (by omega)]
    exact h.rest t (by omega) h2
  · by_cases et : t = (kpF f j).length
    · subst et; exact ⟨_, TS.1⟩
    · rw [TS.2 _ et]; exact h.there t ht
theorem zero_row (w : World) : (zeroValue 29).run Try.prog w = .ok (.slice none 0 0) w := by kernel_rfl
end Go.Proofs.Ytcfbnadefdcjaaa
