/- Plain facts on merging a row that rises. No program stands here. -/
import Derived.Test.YtmcjichpeijiaaaRowFacts
import Derived.Sort.Statements
namespace Go.Proofs.Ytmcjichpeijiaaa
/-- One more load behind a row: laid on the last one if it is at the same place. -/
def addF (ms : List (Int × Int)) (x : Int × Int) : List (Int × Int) :=
  match ms.getLast? with
  | some l => if l.1 = x.1 then ms.dropLast ++ [(l.1, l.2 + x.2)] else ms ++ [x]
  | none => [x]
theorem merged_perm {xs ys : List (Int × Int)} (h : ∀ p, sumAt p xs = sumAt p ys) : ∀ n, mergedF xs n = mergedF ys n := by
  intro n
  induction n with
  | zero => rfl
  | succ n ih => rw [mergedF, mergedF, ih, h]
theorem sumAt_perm {xs ys : List (Int × Int)} (h : xs.Perm ys) (p : Int) : sumAt p xs = sumAt p ys := by
  induction h with
  | nil => rfl
  | cons x _ ih => simp only [sumAt, ih]
  | swap x y l => simp only [sumAt]; omega
  | trans _ _ h1 h2 => exact h1.trans h2
theorem sumAt_zero (p : Int) (xs : List (Int × Int)) (h : ∀ x ∈ xs, x.1 ≠ p) : sumAt p xs = 0 := by
  induction xs with
  | nil => rfl
  | cons x l ih => simp only [sumAt, if_neg (h x (by simp)), ih (fun y hy => h y (by simp [hy]))]; rfl
theorem sumAt_snoc (p : Int) (xs : List (Int × Int)) (x : Int × Int) : sumAt p (xs ++ [x]) = sumAt p xs + (if x.1 = p then x.2 else 0) := by
  rw [sumAt_app]; simp [sumAt]
theorem merged_high (xs : List (Int × Int)) (p : Nat) (h : ∀ x ∈ xs, x.1 < p) : ∀ n, p ≤ n → mergedF xs n = mergedF xs p := by
  intro n
  induction n with
  | zero => intro hn; rw [show p = 0 by omega]
  | succ n ih =>
    intro hn
    by_cases e : p = n + 1
    · rw [e]
    · rw [mergedF, sumAt_zero n xs (fun x hx => by have := h x hx; omega), ih (by omega)]
      simp
theorem merged_low (xs : List (Int × Int)) (x : Int × Int) : ∀ n : Nat, (n : Int) ≤ x.1 → mergedF (xs ++ [x]) n = mergedF xs n := by
  intro n
  induction n with
  | zero => intro _; rfl
  | succ n ih =>
    intro hn
    have e : sumAt (n : Int) (xs ++ [x]) = sumAt (n : Int) xs := by rw [sumAt_snoc, if_neg (by omega), Int.add_zero]
    rw [mergedF, mergedF, ih (by omega), e]
theorem merged_snoc (xs : List (Int × Int)) (x : Int × Int) (n : Nat) (h0 : 0 ≤ x.1) (hn : x.1 < n) (hp : 0 < x.2) (hle : ∀ y ∈ xs, y.1 ≤ x.1) (hpos : ∀ y ∈ xs, 0 < y.2) :
    mergedF (xs ++ [x]) n = addF (mergedF xs n) x := by
  obtain ⟨p, w⟩ := x
  obtain ⟨q, rfl⟩ := Int.eq_ofNat_of_zero_le h0
  simp only at hn hp hle h0
  have hn' : q + 1 ≤ n := by omega
  have hs : 0 ≤ sumAt (q : Int) xs := by
    clear hle
    induction xs with
    | nil => simp [sumAt]
    | cons y l ih =>
      have h1 := hpos y (by simp)
      have h2 := ih (fun z hz => hpos z (by simp [hz]))
      simp only [sumAt]
      split <;> omega
  rw [merged_high (xs ++ [((q : Int), w)]) (q + 1) (fun y hy => by
    rcases List.mem_append.1 hy with h | h
    · have := hle y h; omega
    · simp at h; subst h; simp; omega) n hn']
  rw [merged_high xs (q + 1) (fun y hy => by have := hle y hy; omega) n hn']
  rw [mergedF, merged_low xs _ q (Int.le_refl _), sumAt_snoc, if_pos rfl, if_pos (by simp; omega), mergedF]
  by_cases h : 0 < sumAt (q : Int) xs
  · rw [if_pos h]
    unfold addF
    rw [List.getLast?_append]
    simp
  · rw [if_neg h, List.append_nil, show sumAt (q : Int) xs = 0 by omega, Int.zero_add]
    unfold addF
    cases e : (mergedF xs q).getLast? with
    | none =>
      have : mergedF xs q = [] := by simpa using e
      rw [this]; rfl
    | some l =>
      have hm : l ∈ mergedF xs q := List.mem_of_getLast? e
      have := merged_below xs q l hm
      simp only
      rw [if_neg (by omega)]
/-- What a sort leaves. -/
theorem perm_of_sort {d d' : Array (Int × Int)} (h : Sort.PermIn 0 d.size d d') : d'.toList.Perm d.toList := by
  obtain ⟨hs, _, hp⟩ := h
  have e : d'.extract 0 d.size = d' := by rw [← hs]; exact Array.extract_size
  rw [e, Array.extract_size] at hp
  exact hp
theorem rise_of_sort {d d' : Array (Int × Int)} {lt : (Int × Int) → (Int × Int) → Bool} (hlt : ∀ x y, lt x y = decide (x.1 < y.1)) (h : Sort.SortedIn lt 0 d.size d') (hs : d'.size = d.size) :
    ∀ i j, i < j → j < d'.toList.length → (d'.toList.getD i (0, 0)).1 ≤ (d'.toList.getD j (0, 0)).1 := by
  intro i j hij hj
  have hj' : j < d'.size := by simpa using hj
  have := h i j (Nat.zero_le _) hij (by omega)
  rw [hlt] at this
  have e1 : d'[i]! = d'.toList.getD i (0, 0) := by
    rw [getElem!_pos d' i (by omega), List.getD, List.getElem?_eq_getElem (by simpa using (by omega : i < d'.size))]; simp
  have e2 : d'[j]! = d'.toList.getD j (0, 0) := by
    rw [getElem!_pos d' j (by omega), List.getD, List.getElem?_eq_getElem hj]; simp
  rw [e1, e2] at this
  have h2 := of_decide_eq_false this
  omega
/-- The loop over the sorted loads, by one step. -/
theorem merged_step (xs : List (Int × Int)) (k : Nat) (hk : k < xs.length) (hr : ∀ i j, i < j → j < xs.length → (xs.getD i (0, 0)).1 ≤ (xs.getD j (0, 0)).1) (hx : ∀ x ∈ xs, (0 ≤ x.1 ∧ x.1 ≤ 60) ∧ 1 ≤ x.2 ∧ x.2 ≤ 99) :
    mergedF (xs.take (k + 1)) 61 = addF (mergedF (xs.take k) 61) (xs.getD k (0, 0)) := by
  have hm : xs.getD k (0, 0) ∈ xs := by simp only [List.getD, List.getElem?_eq_getElem hk, Option.getD_some]; exact List.getElem_mem hk
  have hb := hx _ hm
  have e : xs.take (k + 1) = xs.take k ++ [xs.getD k (0, 0)] := by
    rw [List.take_add_one, List.getElem?_eq_getElem hk, List.getD, List.getElem?_eq_getElem hk]; rfl
  rw [e]
  refine merged_snoc _ _ 61 hb.1.1 (by omega) (by omega) (fun y hy => ?_) (fun y hy => ?_)
  · obtain ⟨i, hi, rfl⟩ := List.mem_iff_getElem.1 hy
    have hi' : i < k := by simp at hi; omega
    have := hr i k hi' hk
    rw [List.getElem_take]
    simpa [List.getD, List.getElem?_eq_getElem (show i < xs.length by omega)] using this
  · have := hx y (List.mem_of_mem_take hy); omega
end Go.Proofs.Ytmcjichpeijiaaa
