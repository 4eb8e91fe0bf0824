/- Plain facts on the sums that weights can make, and on lists that are sorted. No program stands here. -/
import Derived.Test.YtghpacgbkknhbaaKitPlain
import Derived.Maps.Views
import Derived.WideAt
namespace Go.Proofs.Ytghpacgbkknhbaa
/-- The sums that the first k weights make, each with a sign of lo .. 1. -/
def ReachF (lo : Int) (xs : List Int) : Nat → Int → Prop
  | 0, z => z = 0
  | k + 1, z => ∃ s g, ReachF lo xs k s ∧ lo ≤ g ∧ g ≤ 1 ∧ z = s + g * xs.getD k 0
theorem sign_cases {lo g : Int} (hl : lo = 0 ∨ lo = -1) (h1 : lo ≤ g) (h2 : g ≤ 1) : (g = -1 ∧ lo = -1) ∨ g = 0 ∨ g = 1 := by omega
theorem reach_bound {lo : Int} {xs : List Int} (hl : lo = 0 ∨ lo = -1) (hk : ∀ j, j < xs.length → 1 ≤ xs.getD j 0 ∧ xs.getD j 0 ≤ 99) : ∀ k, k ≤ xs.length → ∀ z, ReachF lo xs k z → -(sumF (xs.take k)) ≤ z ∧ z ≤ sumF (xs.take k) ∧ (lo = 0 → 0 ≤ z) := by
  intro k
  induction k with
  | zero => intro _ z h; cases h; simp [sumF]
  | succ k ih =>
    intro hkl z h
    obtain ⟨s, g, hs, g0, g1, rfl⟩ := h
    obtain ⟨a, b, c⟩ := ih (by omega) s hs
    have hx := hk k (by omega)
    rw [sumF_take xs k (by omega)]
    rcases sign_cases hl g0 g1 with ⟨rfl, rfl⟩ | rfl | rfl
    · refine ⟨by omega, by omega, fun h => by omega⟩
    · refine ⟨by omega, by omega, fun h => by have := c h; omega⟩
    · refine ⟨by omega, by omega, fun h => by have := c h; omega⟩
theorem sum_small {xs : List Int} (hk : ∀ j, j < xs.length → 1 ≤ xs.getD j 0 ∧ xs.getD j 0 ≤ 99) : ∀ k, k ≤ xs.length → (k : Int) ≤ sumF (xs.take k) ∧ sumF (xs.take k) ≤ 99 * k := by
  intro k
  induction k with
  | zero => intro _; simp [sumF]
  | succ k ih =>
    intro hkl
    have h1 := ih (by omega)
    have h2 := hk k (by omega)
    rw [sumF_take xs k (by omega)]
    omega
theorem reach_small {lo : Int} {xs : List Int} (hl : lo = 0 ∨ lo = -1) (K : KitF xs) {k : Nat} (hk : k ≤ xs.length) {z : Int} (h : ReachF lo xs k z) : -600 ≤ z ∧ z ≤ 600 := by
  obtain ⟨a, b, _⟩ := reach_bound hl K.each k hk z h
  have := sum_small K.each k hk
  have := K.short
  omega
theorem reach_first {lo : Int} {xs : List Int} (hl : lo = 0 ∨ lo = -1) : ∀ k, ReachF lo xs (k + 1) (xs.getD 0 0) := by
  intro k
  induction k with
  | zero => exact ⟨0, 1, rfl, by omega, by omega, by rw [Int.zero_add, Int.one_mul]⟩
  | succ k ih => exact ⟨_, 0, ih, by omega, by omega, by rw [Int.zero_mul, Int.add_zero]⟩
/-- The numbers that can be weighed, in ascending order. -/
noncomputable def toldF (lo : Int) (xs : List Int) : List Int := ((List.range (sumF xs).toNat).map (fun i : Nat => (i : Int) + 1)).filter (fun z => propB (ReachF lo xs xs.length z))
theorem told_mem {lo : Int} {xs : List Int} (hl : lo = 0 ∨ lo = -1) (K : KitF xs) (z : Int) : z ∈ toldF lo xs ↔ 1 ≤ z ∧ ReachF lo xs xs.length z := by
  unfold toldF
  simp only [List.mem_filter, List.mem_map, List.mem_range, propB_iff]
  constructor
  · rintro ⟨⟨i, _, rfl⟩, h⟩
    exact ⟨by omega, h⟩
  · rintro ⟨h1, h2⟩
    have := (reach_bound hl K.each xs.length (Nat.le_refl _) z h2).2.1
    rw [List.take_length] at this
    exact ⟨⟨(z - 1).toNat, by omega, by omega⟩, h2⟩
theorem told_rise (lo : Int) (xs : List Int) : (toldF lo xs).Pairwise (· < ·) := by
  unfold toldF
  refine List.Pairwise.filter _ ?_
  rw [List.pairwise_map]
  refine List.Pairwise.imp (R := (· < ·)) (fun {a b} h => by omega) ?_
  exact List.pairwise_lt_range
theorem lt_unique : ∀ (a b : List Int), a.Pairwise (· < ·) → b.Pairwise (· < ·) → (∀ z, z ∈ a ↔ z ∈ b) → a = b
  | [], [], _, _, _ => rfl
  | [], y :: b, _, _, h => absurd ((h y).2 List.mem_cons_self) (by simp)
  | x :: a, [], _, _, h => absurd ((h x).1 List.mem_cons_self) (by simp)
  | x :: a, y :: b, ha, hb, h => by
    rw [List.pairwise_cons] at ha hb
    have e : x = y := by
      rcases List.mem_cons.1 ((h x).1 List.mem_cons_self) with e | h1
      · exact e
      · rcases List.mem_cons.1 ((h y).2 List.mem_cons_self) with e | h2
        · exact e.symm
        · have := ha.1 y h2; have := hb.1 x h1; omega
    subst e
    rw [lt_unique a b ha.2 hb.2 (fun z => ⟨fun hz => by
      rcases List.mem_cons.1 ((h z).1 (List.mem_cons_of_mem _ hz)) with e | h1
      · subst e; exact absurd (ha.1 z hz) (by omega)
      · exact h1, fun hz => by
      rcases List.mem_cons.1 ((h z).2 (List.mem_cons_of_mem _ hz)) with e | h1
      · subst e; exact absurd (hb.1 z hz) (by omega)
      · exact h1⟩)]
theorem sorted_is (ys zs : List Int) (hn : ys.Nodup) (hz : zs.Pairwise (· < ·)) (h : ∀ z, z ∈ ys ↔ z ∈ zs) : ys.mergeSort (fun x y => decide (x ≤ y)) = zs := by
  refine lt_unique _ _ ?_ hz (fun z => by rw [List.mem_mergeSort]; exact h z)
  have h1 := List.pairwise_mergeSort (le := fun x y : Int => decide (x ≤ y)) (fun a b c h1 h2 => by simp at *; omega) (fun a b => by simp; omega) ys
  have h2 : (ys.mergeSort (fun x y => decide (x ≤ y))).Nodup := ((List.mergeSort_perm ys _).nodup_iff).2 hn
  have h3 := h1.and h2
  exact h3.imp (fun {a b} h => by have := h.1; have := h.2; simp at *; omega)
section
open Go.Maps
variable {H : Type}
theorem int_same (s z : Int) : (Lit.int .i64 s).sameKey (.int .i64 z) = decide (s = z) := by
  by_cases e : s = z
  · subst e; rw [WideAt.sameKey_self (a := .int .i64 s) (show WideAt.IsKeyLit (.int .i64 s) from trivial)]; simp
  · rw [sameKey_ne (fun h => e (by cases h; rfl))]; simp [e]
theorem has_put_int {D : DataW H} (hm : IsMap D) (s : Int) (d : DataW H) (z : Int) : has (D.put (.int .i64 s) d) (.int .i64 z) = true ↔ z = s ∨ has D (.int .i64 z) = true := by
  by_cases e : z = s
  · subst e; rw [has_put_same (k := .int .i64 z) hm (show WideAt.IsKeyLit (.int .i64 z) from trivial)]; simp
  · rw [has_put_other (fun h => e (by cases h; rfl))]; simp [e]
theorem sums_step {D D1 D2 : DataW H} {left : Lit → Bool} {lo x s0 : Int}
    (hE : ∀ z, has D1 (.int .i64 z) = true ↔ ∃ s g, (has D (.int .i64 s) = true ∧ left (.int .i64 s) = false) ∧ lo ≤ g ∧ g ≤ 1 ∧ z = s + g * x) (hs : has D (.int .i64 s0) = true)
    (hN : ∀ z, has D2 (.int .i64 z) = true ↔ has D1 (.int .i64 z) = true ∨ ∃ g, lo ≤ g ∧ g < 2 ∧ z = s0 + g * x) :
    ∀ z, has D2 (.int .i64 z) = true ↔ ∃ s g, (has D (.int .i64 s) = true ∧ (left (.int .i64 s) && !(Lit.int .i64 s).sameKey (.int .i64 s0)) = false) ∧ lo ≤ g ∧ g ≤ 1 ∧ z = s + g * x := by
  intro z
  rw [hN, hE]
  constructor
  · rintro (⟨s, g, ⟨h1, h2⟩, h3⟩ | ⟨g, g0, g1, e⟩)
    · exact ⟨s, g, ⟨h1, by rw [h2]; rfl⟩, h3⟩
    · exact ⟨s0, g, ⟨hs, by rw [int_same]; simp⟩, g0, by omega, e⟩
  · rintro ⟨s, g, ⟨h1, h2⟩, g0, g1, e⟩
    by_cases es : s = s0
    · subst es; exact .inr ⟨g, g0, by omega, e⟩
    · refine .inl ⟨s, g, ⟨h1, ?_⟩, g0, g1, e⟩
      rw [int_same, decide_eq_false es] at h2
      simpa using h2
end
end Go.Proofs.Ytghpacgbkknhbaa
