/- Plain facts on cells that hang together, and on bodies. No program stands here. -/
import Derived.Test.YtmcjichpeijiaaaKitPlain
namespace Go.Proofs.Ytmcjichpeijiaaa
/-- One cell comes before another one. -/
def bfC (a b : Int × Int) : Bool := decide (a.1 < b.1) || (decide (a.1 = b.1) && decide (a.2 < b.2))
theorem bfC_iff (a b : Int × Int) : bfC a b = true ↔ a.1 < b.1 ∨ a.1 = b.1 ∧ a.2 < b.2 := by simp [bfC]
theorem bfC_not (a b : Int × Int) : bfC a b = false ↔ b.1 < a.1 ∨ b.1 = a.1 ∧ b.2 ≤ a.2 := by
  rw [← Bool.not_eq_true, bfC_iff]; omega
theorem bfC_irr (a : Int × Int) : bfC a a = false := by rw [bfC_not]; omega
theorem bfC_trans {a b c : Int × Int} (h : bfC a b = true) (k : bfC b c = true) : bfC a c = true := by
  rw [bfC_iff] at *; omega
theorem cell_ext {a b : Int × Int} (h : a.1 = b.1) (k : a.2 = b.2) : a = b := by
  cases a; cases b; simp at *; exact ⟨h, k⟩
theorem bfC_tri {a b : Int × Int} (h : bfC a b = false) (k : bfC b a = false) : a = b := by
  rw [bfC_not] at *; exact cell_ext (by omega) (by omega)
/-- Two cells are neighbors. -/
def nearB (a b : Int × Int) : Bool := decide ((a.1 - b.1).natAbs + (a.2 - b.2).natAbs = 1)
theorem nearB_iff (a b : Int × Int) : nearB a b = true ↔ (a.1 - b.1).natAbs + (a.2 - b.2).natAbs = 1 := by simp [nearB]
theorem nearB_symm {a b : Int × Int} (h : nearB a b = true) : nearB b a = true := by rw [nearB_iff] at *; omega
/-- From one cell to another one by neighbors. -/
inductive PathC (xs : List (Int × Int)) (c : Int × Int) : Int × Int → Prop
  | refl : PathC xs c c
  | step {d e : Int × Int} : PathC xs c d → e ∈ xs → nearB d e = true → PathC xs c e
theorem PathC.trans {xs : List (Int × Int)} {a b c : Int × Int} (h : PathC xs a b) (k : PathC xs b c) : PathC xs a c := by
  induction k with
  | refl => exact h
  | step _ he hn ih => exact .step ih he hn
theorem PathC.mem {xs : List (Int × Int)} {a b : Int × Int} (h : PathC xs a b) (ha : a ∈ xs) : b ∈ xs := by
  cases h with
  | refl => exact ha
  | step _ he _ => exact he
theorem PathC.symm {xs : List (Int × Int)} {a b : Int × Int} (h : PathC xs a b) (ha : a ∈ xs) : PathC xs b a := by
  induction h with
  | refl => exact .refl
  | step hp he hn ih => exact PathC.trans (.step .refl (PathC.mem hp ha) (nearB_symm hn)) ih
theorem PathC.sub {xs ys : List (Int × Int)} (hs : ∀ c ∈ xs, c ∈ ys) {a b : Int × Int} (h : PathC xs a b) : PathC ys a b := by
  induction h with
  | refl => exact .refl
  | step _ he hn ih => exact .step ih (hs _ he) hn
/-- All cells hang together. -/
def ConnC (xs : List (Int × Int)) : Prop := ∀ c ∈ xs, ∀ d ∈ xs, PathC xs c d
theorem ConnC.same {xs ys : List (Int × Int)} (h : ConnC xs) (hs : ∀ c, c ∈ xs ↔ c ∈ ys) : ConnC ys := fun c hc d hd =>
  ((h c ((hs c).2 hc) d ((hs d).2 hd))).sub fun e he => (hs e).1 he
theorem connC_of {xs : List (Int × Int)} {a : Int × Int} (ha : a ∈ xs) (h : ∀ d ∈ xs, PathC xs a d) : ConnC xs := fun c hc d hd =>
  ((h c hc).symm ha).trans (h d hd)
/-- What is closed under neighbors and has one cell has all that can be come to from it. -/
theorem closed_path {xs rs : List (Int × Int)} (hc : ∀ r ∈ rs, ∀ d ∈ xs, nearB r d = true → d ∈ rs) {a b : Int × Int} (ha : a ∈ rs) (h : PathC xs a b) : b ∈ rs := by
  induction h with
  | refl => exact ha
  | step _ he hn ih => exact hc _ ih _ he hn
theorem PathC.image {xs ys : List (Int × Int)} (f : Int × Int → Int × Int) (hf : ∀ c ∈ xs, f c ∈ ys) (hn : ∀ c d, nearB c d = true → nearB (f c) (f d) = true) {a b : Int × Int} (h : PathC xs a b) : PathC ys (f a) (f b) := by
  induction h with
  | refl => exact .refl
  | step _ he hd ih => exact .step ih (hf _ he) (hn _ _ hd)
theorem ConnC.image {xs ys : List (Int × Int)} (f : Int × Int → Int × Int) (hy : ∀ d, d ∈ ys ↔ ∃ c ∈ xs, f c = d) (hn : ∀ c d, nearB c d = true → nearB (f c) (f d) = true) (h : ConnC xs) : ConnC ys := by
  intro c hc d hd
  obtain ⟨a, ha, rfl⟩ := (hy c).1 hc
  obtain ⟨b, hb, rfl⟩ := (hy d).1 hd
  exact (h a ha b hb).image f (fun e he => (hy _).2 ⟨e, he, rfl⟩) hn
/-- Different ones of a list are no more than it has. -/
theorem nodup_le {α : Type} [DecidableEq α] : ∀ (rs xs : List α), rs.Nodup → (∀ r ∈ rs, r ∈ xs) → rs.length ≤ xs.length := by
  intro rs
  induction rs with
  | nil => intro xs _ _; simp
  | cons r l ih =>
    intro xs hn hs
    rw [List.nodup_cons] at hn
    have hr := hs r (by simp)
    have := ih (xs.erase r) hn.2 (fun x hx => by
      have hne : x ≠ r := fun h => hn.1 (h ▸ hx)
      exact (List.mem_erase_of_ne hne).2 (hs x (by simp [hx])))
    rw [List.length_erase_of_mem hr] at this
    have hp : 0 < xs.length := List.length_pos_of_mem hr
    simp only [List.length_cons]; omega
theorem nodup_all {α : Type} [DecidableEq α] {rs xs : List α} (hn : rs.Nodup) (hs : ∀ r ∈ rs, r ∈ xs) (hl : rs.length = xs.length) : xs.Nodup ∧ ∀ x ∈ xs, x ∈ rs := by
  have hall : ∀ x ∈ xs, x ∈ rs := by
    intro x hx
    refine Classical.byContradiction fun h => ?_
    have := nodup_le (x :: rs) xs (List.nodup_cons.2 ⟨h, hn⟩) (fun y hy => by
      rcases List.mem_cons.1 hy with rfl | hy
      · exact hx
      · exact hs y hy)
    simp only [List.length_cons] at this; omega
  refine ⟨?_, hall⟩
  refine Classical.byContradiction fun h => ?_
  have key : ∀ (zs : List α), ¬ zs.Nodup → ∃ z, z ∈ zs ∧ ∀ x ∈ zs, x ∈ zs.erase z := by
    intro zs
    induction zs with
    | nil => intro h; exact absurd List.nodup_nil h
    | cons z l ih =>
      intro h
      by_cases hz : z ∈ l
      · refine ⟨z, by simp, fun x hx => ?_⟩
        rw [List.erase_cons_head]
        rcases List.mem_cons.1 hx with rfl | hx
        · exact hz
        · exact hx
      · have hl : ¬ l.Nodup := fun hl => h (List.nodup_cons.2 ⟨hz, hl⟩)
        obtain ⟨y, hy, hall⟩ := ih hl
        refine ⟨y, by simp [hy], fun x hx => ?_⟩
        have hne : z ≠ y := fun e => hz (e ▸ hy)
        rw [List.erase_cons_tail (by simpa using hne)]
        rcases List.mem_cons.1 hx with rfl | hx
        · simp
        · simp [hall x hx]
  obtain ⟨z, hz, hall2⟩ := key xs h
  have := nodup_le rs (xs.erase z) hn (fun r hr => hall2 r (hs r hr))
  rw [List.length_erase_of_mem hz] at this
  have := List.length_pos_of_mem hz
  omega
/-- The cells one comes to from one of them, all of them found. -/
theorem reach_all {xs rs : List (Int × Int)} {a : Int × Int} (ha : a ∈ xs) (hr : a ∈ rs) (hn : rs.Nodup) (hs : ∀ r ∈ rs, r ∈ xs) (hp : ∀ r ∈ rs, PathC xs a r) (hc : ∀ r ∈ rs, ∀ d ∈ xs, nearB r d = true → d ∈ rs) :
    rs.length = xs.length ↔ xs.Nodup ∧ ConnC xs := by
  constructor
  · intro hl
    have h := nodup_all hn hs hl
    exact ⟨h.1, connC_of ha fun d hd => hp d (h.2 d hd)⟩
  · rintro ⟨h1, h2⟩
    exact Nat.le_antisymm (nodup_le _ _ hn hs) (nodup_le _ _ h1 fun d hd => closed_path hc hr (h2 a ha d hd))
/-- What rises strictly. -/
def RiseC (xs : List (Int × Int)) : Prop := xs.Pairwise fun a b => bfC a b = true
theorem RiseC.nodup {xs : List (Int × Int)} (h : RiseC xs) : xs.Nodup := List.Pairwise.imp (fun {a b} hab e => by subst e; rw [bfC_irr] at hab; cases hab) h
/-- Two lists that rise with the same cells are one. -/
theorem rise_same : ∀ (xs ys : List (Int × Int)), RiseC xs → RiseC ys → (∀ c, c ∈ xs ↔ c ∈ ys) → xs = ys := by
  intro xs
  induction xs with
  | nil =>
    intro ys _ _ h
    cases ys with
    | nil => rfl
    | cons y l => exact absurd ((h y).2 (by simp)) (by simp)
  | cons x l ih =>
    intro ys hx hy h
    cases ys with
    | nil => exact absurd ((h x).1 (by simp)) (by simp)
    | cons y m =>
      unfold RiseC at hx hy
      rw [List.pairwise_cons] at hx hy
      have e : x = y := by
        rcases List.mem_cons.1 ((h x).1 (by simp)) with e | hxm
        · exact e
        · rcases List.mem_cons.1 ((h y).2 (by simp)) with e | hyl
          · exact e.symm
          · have a1 := hy.1 x hxm
            have a2 := hx.1 y hyl
            have := bfC_trans a1 a2
            rw [bfC_irr] at this; cases this
      subst e
      congr 1
      refine ih m hx.2 hy.2 fun c => ?_
      constructor
      · intro hc
        rcases List.mem_cons.1 ((h c).1 (by simp [hc])) with e | hm
        · subst e; have := hx.1 c hc; rw [bfC_irr] at this; cases this
        · exact hm
      · intro hc
        rcases List.mem_cons.1 ((h c).2 (by simp [hc])) with e | hm
        · subst e; have := hy.1 c hc; rw [bfC_irr] at this; cases this
        · exact hm
/-- Does a list rise, by its neighbors? -/
theorem rise_iff : ∀ (xs : List (Int × Int)), RiseC xs ↔ ∀ j, j + 1 < xs.length → bfC (xs.getD j (0, 0)) (xs.getD (j + 1) (0, 0)) = true := by
  intro xs
  induction xs with
  | nil => simp [RiseC]
  | cons x l ih =>
    unfold RiseC at *
    rw [List.pairwise_cons]
    constructor
    · rintro ⟨h1, h2⟩ j hj
      cases j with
      | zero =>
        simp only [List.length_cons] at hj
        have h0 : 0 < l.length := by omega
        simpa [List.getD, List.getElem?_eq_getElem h0] using h1 _ (List.getElem_mem h0)
      | succ j =>
        have := ih.1 h2 j (by simp only [List.length_cons] at hj; omega)
        simpa using this
    · intro h
      have h2 := ih.2 fun j hj => by simpa using h (j + 1) (by simp only [List.length_cons]; omega)
      refine ⟨fun y hy => ?_, h2⟩
      cases l with
      | nil => simp at hy
      | cons z m =>
        have h0 : bfC x z = true := by simpa using h 0 (by simp)
        rcases List.mem_cons.1 hy with rfl | hm
        · exact h0
        · exact bfC_trans h0 ((List.pairwise_cons.1 h2).1 y hm)
theorem mem_getD {xs : List (Int × Int)} {k : Nat} (h : k < xs.length) : xs.getD k (0, 0) ∈ xs := by
  simp only [List.getD, List.getElem?_eq_getElem h, Option.getD_some]; exact List.getElem_mem h
theorem getD_mem {xs : List (Int × Int)} {c : Int × Int} (h : c ∈ xs) : ∃ k, k < xs.length ∧ xs.getD k (0, 0) = c := by
  obtain ⟨k, hk, e⟩ := List.mem_iff_getElem.1 h
  exact ⟨k, hk, by simp only [List.getD, List.getElem?_eq_getElem hk, Option.getD_some, e]⟩
/-- What a body is. -/
structure BodF (xs : List (Int × Int)) : Prop where
  one : 1 ≤ xs.length
  short : xs.length ≤ 12
  rise : RiseC xs
  lo : ∀ c ∈ xs, 0 ≤ c.1 ∧ 0 ≤ c.2
  left : ∃ c ∈ xs, c.1 = 0
  down : ∃ c ∈ xs, c.2 = 0
  conn : ConnC xs
noncomputable def bodB (xs : List (Int × Int)) : Bool := propB (BodF xs)
theorem bodB_iff (xs : List (Int × Int)) : bodB xs = true ↔ BodF xs := propB_iff _
/-- In what hangs together, each number between two ones is there. -/
theorem path_between {xs : List (Int × Int)} (f : Int × Int → Int) (hf : ∀ c d, nearB c d = true → f d ≤ f c + 1) {a b : Int × Int} (ha : a ∈ xs) (h : PathC xs a b) : ∀ v, f a ≤ v → v ≤ f b → ∃ e ∈ xs, f e = v := by
  induction h with
  | refl => intro v h1 h2; exact ⟨a, ha, by omega⟩
  | @step d e hp he hn ih =>
    intro v h1 h2
    have := hf _ _ hn
    by_cases hv : v ≤ f d
    · exact ih v h1 hv
    · exact ⟨e, he, by omega⟩
theorem conn_wide {xs : List (Int × Int)} (f : Int × Int → Int) (hf : ∀ c d, nearB c d = true → f d ≤ f c + 1) (hc : ConnC xs) {a b : Int × Int} (ha : a ∈ xs) (hb : b ∈ xs) : f b - f a < xs.length := by
  have hbet := path_between f hf ha (hc a ha b hb)
  have hex : ∀ k : Nat, ∃ e : Int × Int, (f a + k ≤ f b → e ∈ xs ∧ f e = f a + k) := by
    intro k
    by_cases hk : f a + k ≤ f b
    · obtain ⟨e, he, h⟩ := hbet (f a + k) (by omega) hk
      exact ⟨e, fun _ => ⟨he, h⟩⟩
    · exact ⟨a, fun h => absurd h hk⟩
  obtain ⟨g, hg⟩ := Classical.axiomOfChoice hex
  rcases Int.lt_or_le (f b) (f a) with h | h
  · omega
  · obtain ⟨n, hn⟩ := Int.eq_ofNat_of_zero_le (show 0 ≤ f b - f a by omega)
    have := nodup_le ((List.range (n + 1)).map g) xs (by
      rw [List.Nodup, List.pairwise_map]
      refine List.Pairwise.imp_of_mem (fun {i j} hi hj hne e => ?_) List.nodup_range
      have h1 := (hg i (by simp at hi; omega)).2
      have h2 := (hg j (by simp at hj; omega)).2
      rw [e] at h1; omega) (fun r hr => by
      obtain ⟨i, hi, rfl⟩ := List.mem_map.1 hr
      exact (hg i (by simp at hi; omega)).1)
    simp at this; omega
theorem near_one (c d : Int × Int) (h : nearB c d = true) : d.1 ≤ c.1 + 1 ∧ d.2 ≤ c.2 + 1 := by rw [nearB_iff] at h; omega
theorem BodF.hi {xs : List (Int × Int)} (h : BodF xs) : ∀ c ∈ xs, (0 ≤ c.1 ∧ c.1 ≤ 11) ∧ 0 ≤ c.2 ∧ c.2 ≤ 11 := by
  intro c hc
  obtain ⟨a, ha, e⟩ := h.left
  obtain ⟨b, hb, e2⟩ := h.down
  have h1 := conn_wide (fun c => c.1) (fun c d h => (near_one c d h).1) h.conn ha hc
  have h2 := conn_wide (fun c => c.2) (fun c d h => (near_one c d h).2) h.conn hb hc
  have h3 := h.lo c hc
  have h4 := h.short
  omega
/-- The least number of the cells of a list. -/
def mnF (f : Int × Int → Int) : List (Int × Int) → Int
  | [] => 0
  | [x] => f x
  | x :: l => min (f x) (mnF f l)
theorem mnF_cons (f : Int × Int → Int) (x : Int × Int) (l : List (Int × Int)) (h : l ≠ []) : mnF f (x :: l) = min (f x) (mnF f l) := by
  cases l with
  | nil => exact absurd rfl h
  | cons y m => rfl
theorem mnF_snoc (f : Int × Int → Int) (x : Int × Int) (l : List (Int × Int)) (h : l ≠ []) : mnF f (l ++ [x]) = min (mnF f l) (f x) := by
  induction l with
  | nil => exact absurd rfl h
  | cons y m ih =>
    cases m with
    | nil => rfl
    | cons z k =>
      have e := ih (by simp)
      rw [List.cons_append, mnF_cons f y _ (by simp), e, mnF_cons f y _ (by simp), Int.min_assoc]
theorem mnF_le (f : Int × Int → Int) (l : List (Int × Int)) : ∀ c ∈ l, mnF f l ≤ f c := by
  induction l with
  | nil => simp
  | cons x m ih =>
    intro c hc
    cases m with
    | nil => simp at hc; subst hc; exact Int.le_refl _
    | cons y k =>
      rw [mnF_cons f x _ (by simp)]
      rcases List.mem_cons.1 hc with rfl | h
      · omega
      · have := ih c h; omega
theorem mnF_mem (f : Int × Int → Int) (l : List (Int × Int)) (h : l ≠ []) : ∃ c ∈ l, f c = mnF f l := by
  induction l with
  | nil => exact absurd rfl h
  | cons x m ih =>
    cases m with
    | nil => exact ⟨x, by simp, rfl⟩
    | cons y k =>
      obtain ⟨c, hc, e⟩ := ih (by simp)
      rw [mnF_cons f x _ (by simp)]
      by_cases hle : f x ≤ mnF f (y :: k)
      · exact ⟨x, by simp, by omega⟩
      · exact ⟨c, by simp [hc], by omega⟩
theorem mnF_take (f : Int × Int → Int) (xs : List (Int × Int)) (k : Nat) (hk : k < xs.length) (h0 : 0 < k) : mnF f (xs.take (k + 1)) = min (mnF f (xs.take k)) (f (xs.getD k (0, 0))) := by
  have e : xs.take (k + 1) = xs.take k ++ [xs.getD k (0, 0)] := by
    rw [List.take_add_one, List.getElem?_eq_getElem hk, List.getD, List.getElem?_eq_getElem hk]; rfl
  rw [e, mnF_snoc f _ _ (by intro h; have := congrArg List.length h; rw [List.length_take, List.length_nil] at this; omega)]
theorem mnF_same (f : Int × Int → Int) {xs ys : List (Int × Int)} (hx : xs ≠ []) (hs : ∀ c, c ∈ xs ↔ c ∈ ys) : mnF f xs = mnF f ys := by
  obtain ⟨c, hc, e⟩ := mnF_mem f xs hx
  have hy : ys ≠ [] := fun h => by have := (hs c).1 hc; rw [h] at this; simp at this
  obtain ⟨d, hd, e2⟩ := mnF_mem f ys hy
  have := mnF_le f ys c ((hs c).1 hc)
  have := mnF_le f xs d ((hs d).2 hd)
  omega
/-- The test of a body by its least cell. -/
theorem bod_of_min {xs : List (Int × Int)} (h1 : 1 ≤ xs.length) (h2 : xs.length ≤ 12) (hr : RiseC xs) (hx : mnF Prod.fst xs = 0) (hy : mnF Prod.snd xs = 0) (hc : ConnC xs) : BodF xs := by
  have hne : xs ≠ [] := by intro h; subst h; simp at h1
  obtain ⟨c, hc1, e1⟩ := mnF_mem Prod.fst xs hne
  obtain ⟨d, hd1, e2⟩ := mnF_mem Prod.snd xs hne
  refine ⟨h1, h2, hr, fun e he => ?_, ⟨c, hc1, by rw [e1, hx]⟩, ⟨d, hd1, by rw [e2, hy]⟩, hc⟩
  have a1 := mnF_le Prod.fst xs e he
  have a2 := mnF_le Prod.snd xs e he
  exact ⟨by rw [hx] at a1; exact a1, by rw [hy] at a2; exact a2⟩
theorem BodF.mins {xs : List (Int × Int)} (h : BodF xs) : mnF Prod.fst xs = 0 ∧ mnF Prod.snd xs = 0 := by
  have hne : xs ≠ [] := by intro e; subst e; have := h.one; simp at this
  obtain ⟨c, hc, e1⟩ := h.left
  obtain ⟨d, hd, e2⟩ := h.down
  obtain ⟨c', hc', e1'⟩ := mnF_mem Prod.fst xs hne
  obtain ⟨d', hd', e2'⟩ := mnF_mem Prod.snd xs hne
  have a1 := mnF_le Prod.fst xs c hc
  have a2 := mnF_le Prod.snd xs d hd
  have a3 := (h.lo c' hc').1
  have a4 := (h.lo d' hd').2
  constructor <;> omega
end Go.Proofs.Ytmcjichpeijiaaa
