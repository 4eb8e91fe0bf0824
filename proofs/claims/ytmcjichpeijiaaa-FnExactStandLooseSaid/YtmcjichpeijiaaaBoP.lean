/- Plain facts on cells that hang together, and on bodies. No program stands here. Plain facts on bodies put down, turned, mirrored and tumbled, and on their ground. No program stands here. Plain facts on bodies without a cell, with one more, and stacked. No program stands here. Plain facts on searches over cells that hang together. No program stands here. -/
import Derived.Test.YtmcjichpeijiaaaKitPlain
import Derived.Test.YtmcjichpeijiaaaScan
namespace Go.Proofs.Ytmcjichpeijiaaa
/-- One cell comes before another one. -/
def bfC (a b : Int × Int) : Bool := decide (a.1 < b.1) || (decide (a.1 = b.1) && decide (a.2 < b.2))
theorem bfC_iff (a b : Int × Int) : bfC a b = true ↔ a.1 < b.1 ∨ a.1 = b.1 ∧ a.2 < b.2 := by simp [bfC]
theorem bfC_not (a b : Int × Int) : bfC a b = false ↔ b.1 < a.1 ∨ b.1 = a.1 ∧ b.2 ≤ a.2 := by
  rw [← Bool.not_eq_true, bfC_iff]; omega
theorem bfC_irr (a : Int × Int) : bfC a a = false := by rw [bfC_not]; omega
theorem bfC_trans {a b c : Int × Int} (h : bfC a b = true) (k : bfC b c = true) : bfC a c = true := by
  rw [bfC_iff] at *; omega
theorem cell_ext {a b : Int × Int} (h : a.1 = b.1) (k : a.2 = b.2) : a = b := by
  cases a; cases b; simp at *; exact ⟨h, k⟩
theorem bfC_tri {a b : Int × Int} (h : bfC a b = false) (k : bfC b a = false) : a = b := by
  rw [bfC_not] at *; exact cell_ext (by omega) (by omega)
/-- Two cells are neighbors. -/
def nearB (a b : Int × Int) : Bool := decide ((a.1 - b.1).natAbs + (a.2 - b.2).natAbs = 1)
theorem nearB_iff (a b : Int × Int) : nearB a b = true ↔ (a.1 - b.1).natAbs + (a.2 - b.2).natAbs = 1 := by simp [nearB]
theorem nearB_symm {a b : Int × Int} (h : nearB a b = true) : nearB b a = true := by rw [nearB_iff] at *; omega
/-- From one cell to another one by neighbors. -/
inductive PathC (xs : List (Int × Int)) (c : Int × Int) : Int × Int → Prop
  | refl : PathC xs c c
  | step {d e : Int × Int} : PathC xs c d → e ∈ xs → nearB d e = true → PathC xs c e
theorem PathC.trans {xs : List (Int × Int)} {a b c : Int × Int} (h : PathC xs a b) (k : PathC xs b c) : PathC xs a c := by
  induction k with
  | refl => exact h
  | step _ he hn ih => exact .step ih he hn
theorem PathC.mem {xs : List (Int × Int)} {a b : Int × Int} (h : PathC xs a b) (ha : a ∈ xs) : b ∈ xs := by
  cases h with
  | refl => exact ha
  | step _ he _ => exact he
theorem PathC.symm {xs : List (Int × Int)} {a b : Int × Int} (h : PathC xs a b) (ha : a ∈ xs) : PathC xs b a := by
  induction h with
  | refl => exact .refl
  | step hp he hn ih => exact PathC.trans (.step .refl (PathC.mem hp ha) (nearB_symm hn)) ih
theorem PathC.sub {xs ys : List (Int × Int)} (hs : ∀ c ∈ xs, c ∈ ys) {a b : Int × Int} (h : PathC xs a b) : PathC ys a b := by
  induction h with
  | refl => exact .refl
  | step _ he hn ih => exact .step ih (hs _ he) hn
/-- All cells hang together. -/
def ConnC (xs : List (Int × Int)) : Prop := ∀ c ∈ xs, ∀ d ∈ xs, PathC xs c d
theorem ConnC.same {xs ys : List (Int × Int)} (h : ConnC xs) (hs : ∀ c, c ∈ xs ↔ c ∈ ys) : ConnC ys := fun c hc d hd =>
  ((h c ((hs c).2 hc) d ((hs d).2 hd))).sub fun e he => (hs e).1 he
theorem connC_of {xs : List (Int × Int)} {a : Int × Int} (ha : a ∈ xs) (h : ∀ d ∈ xs, PathC xs a d) : ConnC xs := fun c hc d hd =>
  ((h c hc).symm ha).trans (h d hd)
/-- What is closed under neighbors and has one cell has all that can be come to from it. -/
theorem closed_path {xs rs : List (Int × Int)} (hc : ∀ r ∈ rs, ∀ d ∈ xs, nearB r d = true → d ∈ rs) {a b : Int × Int} (ha : a ∈ rs) (h : PathC xs a b) : b ∈ rs := by
  induction h with
  | refl => exact ha
  | step _ he hn ih => exact hc _ ih _ he hn
theorem PathC.image {xs ys : List (Int × Int)} (f : Int × Int → Int × Int) (hf : ∀ c ∈ xs, f c ∈ ys) (hn : ∀ c d, nearB c d = true → nearB (f c) (f d) = true) {a b : Int × Int} (h : PathC xs a b) : PathC ys (f a) (f b) := by
  induction h with
  | refl => exact .refl
  | step _ he hd ih => exact .step ih (hf _ he) (hn _ _ hd)
theorem ConnC.image {xs ys : List (Int × Int)} (f : Int × Int → Int × Int) (hy : ∀ d, d ∈ ys ↔ ∃ c ∈ xs, f c = d) (hn : ∀ c d, nearB c d = true → nearB (f c) (f d) = true) (h : ConnC xs) : ConnC ys := by
  intro c hc d hd
  obtain ⟨a, ha, rfl⟩ := (hy c).1 hc
  obtain ⟨b, hb, rfl⟩ := (hy d).1 hd
  exact (h a ha b hb).image f (fun e he => (hy _).2 ⟨e, he, rfl⟩) hn
/-- Different ones of a list are no more than it has. -/
theorem nodup_le {α : Type} [DecidableEq α] : ∀ (rs xs : List α), rs.Nodup → (∀ r ∈ rs, r ∈ xs) → rs.length ≤ xs.length := by
  intro rs
  induction rs with
  | nil => intro xs _ _; simp
  | cons r l ih =>
    intro xs hn hs
    rw [List.nodup_cons] at hn
    have hr := hs r (by simp)
    have := ih (xs.erase r) hn.2 (fun x hx => by
      have hne : x ≠ r := fun h => hn.1 (h ▸ hx)
      exact (List.mem_erase_of_ne hne).2 (hs x (by simp [hx])))
    rw [List.length_erase_of_mem hr] at this
    have hp : 0 < xs.length := List.length_pos_of_mem hr
    simp only [List.length_cons]; omega
theorem nodup_all {α : Type} [DecidableEq α] {rs xs : List α} (hn : rs.Nodup) (hs : ∀ r ∈ rs, r ∈ xs) (hl : rs.length = xs.length) : xs.Nodup ∧ ∀ x ∈ xs, x ∈ rs := by
  have hall : ∀ x ∈ xs, x ∈ rs := by
    intro x hx
    refine Classical.byContradiction fun h => ?_
    have := nodup_le (x :: rs) xs (List.nodup_cons.2 ⟨h, hn⟩) (fun y hy => by
      rcases List.mem_cons.1 hy with rfl | hy
      · exact hx
      · exact hs y hy)
    simp only [List.length_cons] at this; omega
  refine ⟨?_, hall⟩
  refine Classical.byContradiction fun h => ?_
  have key : ∀ (zs : List α), ¬ zs.Nodup → ∃ z, z ∈ zs ∧ ∀ x ∈ zs, x ∈ zs.erase z := by
    intro zs
    induction zs with
    | nil => intro h; exact absurd List.nodup_nil h
    | cons z l ih =>
      intro h
      by_cases hz : z ∈ l
      · refine ⟨z, by simp, fun x hx => ?_⟩
        rw [List.erase_cons_head]
        rcases List.mem_cons.1 hx with rfl | hx
        · exact hz
        · exact hx
      · have hl : ¬ l.Nodup := fun hl => h (List.nodup_cons.2 ⟨hz, hl⟩)
        obtain ⟨y, hy, hall⟩ := ih hl
        refine ⟨y, by simp [hy], fun x hx => ?_⟩
        have hne : z ≠ y := fun e => hz (e ▸ hy)
        rw [List.erase_cons_tail (by simpa using hne)]
        rcases List.mem_cons.1 hx with rfl | hx
        · simp
        · simp [hall x hx]
  obtain ⟨z, hz, hall2⟩ := key xs h
  have := nodup_le rs (xs.erase z) hn (fun r hr => hall2 r (hs r hr))
  rw [List.length_erase_of_mem hz] at this
  have := List.length_pos_of_mem hz
  omega
/-- The cells one comes to from one of them, all of them found. -/
theorem reach_all {xs rs : List (Int × Int)} {a : Int × Int} (ha : a ∈ xs) (hr : a ∈ rs) (hn : rs.Nodup) (hs : ∀ r ∈ rs, r ∈ xs) (hp : ∀ r ∈ rs, PathC xs a r) (hc : ∀ r ∈ rs, ∀ d ∈ xs, nearB r d = true → d ∈ rs) :
    rs.length = xs.length ↔ xs.Nodup ∧ ConnC xs := by
  constructor
  · intro hl
    have h := nodup_all hn hs hl
    exact ⟨h.1, connC_of ha fun d hd => hp d (h.2 d hd)⟩
  · rintro ⟨h1, h2⟩
    exact Nat.le_antisymm (nodup_le _ _ hn hs) (nodup_le _ _ h1 fun d hd => closed_path hc hr (h2 a ha d hd))
/-- What rises strictly. -/
def RiseC (xs : List (Int × Int)) : Prop := xs.Pairwise fun a b => bfC a b = true
theorem RiseC.nodup {xs : List (Int × Int)} (h : RiseC xs) : xs.Nodup := List.Pairwise.imp (fun {a b} hab e => by subst e; rw [bfC_irr] at hab; cases hab) h
/-- Two lists that rise with the same cells are one. -/
theorem rise_same : ∀ (xs ys : List (Int × Int)), RiseC xs → RiseC ys → (∀ c, c ∈ xs ↔ c ∈ ys) → xs = ys := by
  intro xs
  induction xs with
  | nil =>
    intro ys _ _ h
    cases ys with
    | nil => rfl
    | cons y l => exact absurd ((h y).2 (by simp)) (by simp)
  | cons x l ih =>
    intro ys hx hy h
    cases ys with
    | nil => exact absurd ((h x).1 (by simp)) (by simp)
    | cons y m =>
      unfold RiseC at hx hy
      rw [List.pairwise_cons] at hx hy
      have e : x = y := by
        rcases List.mem_cons.1 ((h x).1 (by simp)) with e | hxm
        · exact e
        · rcases List.mem_cons.1 ((h y).2 (by simp)) with e | hyl
          · exact e.symm
          · have a1 := hy.1 x hxm
            have a2 := hx.1 y hyl
            have := bfC_trans a1 a2
            rw [bfC_irr] at this; cases this
      subst e
      congr 1
      refine ih m hx.2 hy.2 fun c => ?_
      constructor
      · intro hc
        rcases List.mem_cons.1 ((h c).1 (by simp [hc])) with e | hm
        · subst e; have := hx.1 c hc; rw [bfC_irr] at this; cases this
        · exact hm
      · intro hc
        rcases List.mem_cons.1 ((h c).2 (by simp [hc])) with e | hm
        · subst e; have := hy.1 c hc; rw [bfC_irr] at this; cases this
        · exact hm
/-- Does a list rise, by its neighbors? -/
theorem rise_iff : ∀ (xs : List (Int × Int)), RiseC xs ↔ ∀ j, j + 1 < xs.length → bfC (xs.getD j (0, 0)) (xs.getD (j + 1) (0, 0)) = true := by
  intro xs
  induction xs with
  | nil => simp [RiseC]
  | cons x l ih =>
    unfold RiseC at *
    rw [List.pairwise_cons]
    constructor
    · rintro ⟨h1, h2⟩ j hj
      cases j with
      | zero =>
        simp only [List.length_cons] at hj
        have h0 : 0 < l.length := by omega
        simpa [List.getD, List.getElem?_eq_getElem h0] using h1 _ (List.getElem_mem h0)
      | succ j =>
        have := ih.1 h2 j (by simp only [List.length_cons] at hj; omega)
        simpa using this
    · intro h
      have h2 := ih.2 fun j hj => by simpa using h (j + 1) (by simp only [List.length_cons]; omega)
      refine ⟨fun y hy => ?_, h2⟩
      cases l with
      | nil => simp at hy
      | cons z m =>
        have h0 : bfC x z = true := by simpa using h 0 (by simp)
        rcases List.mem_cons.1 hy with rfl | hm
        · exact h0
        · exact bfC_trans h0 ((List.pairwise_cons.1 h2).1 y hm)
theorem mem_getD {xs : List (Int × Int)} {k : Nat} (h : k < xs.length) : xs.getD k (0, 0) ∈ xs := by
  simp only [List.getD, List.getElem?_eq_getElem h, Option.getD_some]; exact List.getElem_mem h
theorem getD_mem {xs : List (Int × Int)} {c : Int × Int} (h : c ∈ xs) : ∃ k, k < xs.length ∧ xs.getD k (0, 0) = c := by
  obtain ⟨k, hk, e⟩ := List.mem_iff_getElem.1 h
  exact ⟨k, hk, by simp only [List.getD, List.getElem?_eq_getElem hk, Option.getD_some, e]⟩
/-- What a body is. -/
structure BodF (xs : List (Int × Int)) : Prop where
  one : 1 ≤ xs.length
  short : xs.length ≤ 12
  rise : RiseC xs
  lo : ∀ c ∈ xs, 0 ≤ c.1 ∧ 0 ≤ c.2
  left : ∃ c ∈ xs, c.1 = 0
  down : ∃ c ∈ xs, c.2 = 0
  conn : ConnC xs
noncomputable def bodB (xs : List (Int × Int)) : Bool := propB (BodF xs)
theorem bodB_iff (xs : List (Int × Int)) : bodB xs = true ↔ BodF xs := propB_iff _
/-- In what hangs together, each number between two ones is there. -/
theorem path_between {xs : List (Int × Int)} (f : Int × Int → Int) (hf : ∀ c d, nearB c d = true → f d ≤ f c + 1) {a b : Int × Int} (ha : a ∈ xs) (h : PathC xs a b) : ∀ v, f a ≤ v → v ≤ f b → ∃ e ∈ xs, f e = v := by
  induction h with
  | refl => intro v h1 h2; exact ⟨a, ha, by omega⟩
  | @step d e hp he hn ih =>
    intro v h1 h2
    have := hf _ _ hn
    by_cases hv : v ≤ f d
    · exact ih v h1 hv
    · exact ⟨e, he, by omega⟩
theorem conn_wide {xs : List (Int × Int)} (f : Int × Int → Int) (hf : ∀ c d, nearB c d = true → f d ≤ f c + 1) (hc : ConnC xs) {a b : Int × Int} (ha : a ∈ xs) (hb : b ∈ xs) : f b - f a < xs.length := by
  have hbet := path_between f hf ha (hc a ha b hb)
  have hex : ∀ k : Nat, ∃ e : Int × Int, (f a + k ≤ f b → e ∈ xs ∧ f e = f a + k) := by
    intro k
    by_cases hk : f a + k ≤ f b
    · obtain ⟨e, he, h⟩ := hbet (f a + k) (by omega) hk
      exact ⟨e, fun _ => ⟨he, h⟩⟩
    · exact ⟨a, fun h => absurd h hk⟩
  obtain ⟨g, hg⟩ := Classical.axiomOfChoice hex
  rcases Int.lt_or_le (f b) (f a) with h | h
  · omega
  · obtain ⟨n, hn⟩ := Int.eq_ofNat_of_zero_le (show 0 ≤ f b - f a by omega)
    have := nodup_le ((List.range (n + 1)).map g) xs (by
      rw [List.Nodup, List.pairwise_map]
      refine List.Pairwise.imp_of_mem (fun {i j} hi hj hne e => ?_) List.nodup_range
      have h1 := (hg i (by simp at hi; omega)).2
      have h2 := (hg j (by simp at hj; omega)).2
      rw [e] at h1; omega) (fun r hr => by
      obtain ⟨i, hi, rfl⟩ := List.mem_map.1 hr
      exact (hg i (by simp at hi; omega)).1)
    simp at this; omega
theorem near_one (c d : Int × Int) (h : nearB c d = true) : d.1 ≤ c.1 + 1 ∧ d.2 ≤ c.2 + 1 := by rw [nearB_iff] at h; omega
theorem BodF.hi {xs : List (Int × Int)} (h : BodF xs) : ∀ c ∈ xs, (0 ≤ c.1 ∧ c.1 ≤ 11) ∧ 0 ≤ c.2 ∧ c.2 ≤ 11 := by
  intro c hc
  obtain ⟨a, ha, e⟩ := h.left
  obtain ⟨b, hb, e2⟩ := h.down
  have h1 := conn_wide (fun c => c.1) (fun c d h => (near_one c d h).1) h.conn ha hc
  have h2 := conn_wide (fun c => c.2) (fun c d h => (near_one c d h).2) h.conn hb hc
  have h3 := h.lo c hc
  have h4 := h.short
  omega
/-- The least number of the cells of a list. -/
def mnF (f : Int × Int → Int) : List (Int × Int) → Int
  | [] => 0
  | [x] => f x
  | x :: l => min (f x) (mnF f l)
theorem mnF_cons (f : Int × Int → Int) (x : Int × Int) (l : List (Int × Int)) (h : l ≠ []) : mnF f (x :: l) = min (f x) (mnF f l) := by
  cases l with
  | nil => exact absurd rfl h
  | cons y m => rfl
theorem mnF_snoc (f : Int × Int → Int) (x : Int × Int) (l : List (Int × Int)) (h : l ≠ []) : mnF f (l ++ [x]) = min (mnF f l) (f x) := by
  induction l with
  | nil => exact absurd rfl h
  | cons y m ih =>
    cases m with
    | nil => rfl
    | cons z k =>
      have e := ih (by simp)
      rw [List.cons_append, mnF_cons f y _ (by simp), e, mnF_cons f y _ (by simp), Int.min_assoc]
theorem mnF_le (f : Int × Int → Int) (l : List (Int × Int)) : ∀ c ∈ l, mnF f l ≤ f c := by
  induction l with
  | nil => simp
  | cons x m ih =>
    intro c hc
    cases m with
    | nil => simp at hc; subst hc; exact Int.le_refl _
    | cons y k =>
      rw [mnF_cons f x _ (by simp)]
      rcases List.mem_cons.1 hc with rfl | h
      · omega
      · have := ih c h; omega
theorem mnF_mem (f : Int × Int → Int) (l : List (Int × Int)) (h : l ≠ []) : ∃ c ∈ l, f c = mnF f l := by
  induction l with
  | nil => exact absurd rfl h
  | cons x m ih =>
    cases m with
    | nil => exact ⟨x, by simp, rfl⟩
    | cons y k =>
      obtain ⟨c, hc, e⟩ := ih (by simp)
      rw [mnF_cons f x _ (by simp)]
      by_cases hle : f x ≤ mnF f (y :: k)
      · exact ⟨x, by simp, by omega⟩
      · exact ⟨c, by simp [hc], by omega⟩
theorem mnF_take (f : Int × Int → Int) (xs : List (Int × Int)) (k : Nat) (hk : k < xs.length) (h0 : 0 < k) : mnF f (xs.take (k + 1)) = min (mnF f (xs.take k)) (f (xs.getD k (0, 0))) := by
  have e : xs.take (k + 1) = xs.take k ++ [xs.getD k (0, 0)] := by
    rw [List.take_add_one, List.getElem?_eq_getElem hk, List.getD, List.getElem?_eq_getElem hk]; rfl
  rw [e, mnF_snoc f _ _ (by intro h; have := congrArg List.length h; rw [List.length_take, List.length_nil] at this; omega)]
theorem mnF_same (f : Int × Int → Int) {xs ys : List (Int × Int)} (hx : xs ≠ []) (hs : ∀ c, c ∈ xs ↔ c ∈ ys) : mnF f xs = mnF f ys := by
  obtain ⟨c, hc, e⟩ := mnF_mem f xs hx
  have hy : ys ≠ [] := fun h => by have := (hs c).1 hc; rw [h] at this; simp at this
  obtain ⟨d, hd, e2⟩ := mnF_mem f ys hy
  have := mnF_le f ys c ((hs c).1 hc)
  have := mnF_le f xs d ((hs d).2 hd)
  omega
/-- The test of a body by its least cell. -/
theorem bod_of_min {xs : List (Int × Int)} (h1 : 1 ≤ xs.length) (h2 : xs.length ≤ 12) (hr : RiseC xs) (hx : mnF Prod.fst xs = 0) (hy : mnF Prod.snd xs = 0) (hc : ConnC xs) : BodF xs := by
  have hne : xs ≠ [] := by intro h; subst h; simp at h1
  obtain ⟨c, hc1, e1⟩ := mnF_mem Prod.fst xs hne
  obtain ⟨d, hd1, e2⟩ := mnF_mem Prod.snd xs hne
  refine ⟨h1, h2, hr, fun e he => ?_, ⟨c, hc1, by rw [e1, hx]⟩, ⟨d, hd1, by rw [e2, hy]⟩, hc⟩
  have a1 := mnF_le Prod.fst xs e he
  have a2 := mnF_le Prod.snd xs e he
  exact ⟨by rw [hx] at a1; exact a1, by rw [hy] at a2; exact a2⟩
theorem BodF.mins {xs : List (Int × Int)} (h : BodF xs) : mnF Prod.fst xs = 0 ∧ mnF Prod.snd xs = 0 := by
  have hne : xs ≠ [] := by intro e; subst e; have := h.one; simp at this
  obtain ⟨c, hc, e1⟩ := h.left
  obtain ⟨d, hd, e2⟩ := h.down
  obtain ⟨c', hc', e1'⟩ := mnF_mem Prod.fst xs hne
  obtain ⟨d', hd', e2'⟩ := mnF_mem Prod.snd xs hne
  have a1 := mnF_le Prod.fst xs c hc
  have a2 := mnF_le Prod.snd xs d hd
  have a3 := (h.lo c' hc').1
  have a4 := (h.lo d' hd').2
  constructor <;> omega
end Go.Proofs.Ytmcjichpeijiaaa
namespace Go.Proofs.Ytmcjichpeijiaaa
/-- A cell put to its place. -/
def putL (ys : List (Int × Int)) (c : Int × Int) : List (Int × Int) := ys.takeWhile (fun y => bfC y c) ++ c :: ys.dropWhile (fun y => bfC y c)
/-- Cells in order. -/
def sortL (xs : List (Int × Int)) : List (Int × Int) := xs.foldl putL []
theorem sortL_snoc (xs : List (Int × Int)) (c : Int × Int) : sortL (xs ++ [c]) = putL (sortL xs) c := by simp [sortL, List.foldl_append]
theorem putL_perm (ys : List (Int × Int)) (c : Int × Int) : (putL ys c).Perm (ys ++ [c]) := by
  unfold putL
  refine List.perm_middle.trans ?_
  rw [List.takeWhile_append_dropWhile]
  exact (List.perm_append_singleton c ys).symm
theorem putL_len (ys : List (Int × Int)) (c : Int × Int) : (putL ys c).length = ys.length + 1 := by rw [(putL_perm ys c).length_eq]; simp
theorem sortL_perm (xs : List (Int × Int)) : (sortL xs).Perm xs := by
  have key : ∀ (l acc : List (Int × Int)), (l.foldl putL acc).Perm (acc ++ l) := by
    intro l
    induction l with
    | nil => intro acc; simp
    | cons x m ih =>
      intro acc
      refine (ih (putL acc x)).trans ?_
      have := (putL_perm acc x).append_right m
      simpa using this
  have := key xs []
  unfold sortL; simpa using this
theorem sortL_len (xs : List (Int × Int)) : (sortL xs).length = xs.length := (sortL_perm xs).length_eq
/-- What does not fall. -/
def SortW (xs : List (Int × Int)) : Prop := xs.Pairwise fun a b => bfC b a = false
theorem bfC_asym {a b : Int × Int} (h : bfC a b = true) : bfC b a = false := by rw [bfC_iff] at h; rw [bfC_not]; omega
theorem RiseC.weak {xs : List (Int × Int)} (h : RiseC xs) : SortW xs := List.Pairwise.imp (fun hab => bfC_asym hab) h
theorem SortW.rise {xs : List (Int × Int)} (h : SortW xs) (hn : xs.Nodup) : RiseC xs := by
  have := List.Pairwise.and h hn
  refine List.Pairwise.imp (fun {a b} hab => ?_) this
  cases e : bfC a b with
  | true => rfl
  | false => exact absurd (bfC_tri e hab.1) hab.2
theorem putL_sort {ys : List (Int × Int)} (h : SortW ys) (c : Int × Int) : SortW (putL ys c) := by
  unfold putL
  induction ys with
  | nil => simp [SortW]
  | cons y l ih =>
    unfold SortW at h ih ⊢
    rw [List.pairwise_cons] at h
    cases e : bfC y c with
    | true =>
      rw [List.takeWhile_cons_of_pos (by exact e), List.dropWhile_cons_of_pos (by exact e), List.cons_append, List.pairwise_cons]
      refine ⟨fun z hz => ?_, ih h.2⟩
      have hm : z ∈ l ++ [c] := (putL_perm l c).mem_iff.1 hz
      rcases List.mem_append.1 hm with hz | hz
      · exact h.1 z hz
      · simp at hz; subst hz; exact bfC_asym e
    | false =>
      rw [List.takeWhile_cons_of_neg (by simp [e]), List.dropWhile_cons_of_neg (by simp [e]), List.nil_append, List.pairwise_cons]
      refine ⟨fun z hz => ?_, List.pairwise_cons.2 h⟩
      rcases List.mem_cons.1 hz with rfl | hz
      · exact e
      · have a1 := h.1 z hz
        rw [bfC_not] at *; omega
theorem sortL_sort (xs : List (Int × Int)) : SortW (sortL xs) := by
  have key : ∀ (l acc : List (Int × Int)), SortW acc → SortW (l.foldl putL acc) := by
    intro l
    induction l with
    | nil => intro acc h; exact h
    | cons x m ih => intro acc h; exact ih _ (putL_sort h x)
  exact key xs [] List.Pairwise.nil
/-- Two lists that do not fall, one the other in another order, are one. -/
theorem sort_same : ∀ (xs ys : List (Int × Int)), SortW xs → SortW ys → xs.Perm ys → xs = ys := by
  intro xs
  induction xs with
  | nil => intro ys _ _ h; exact (List.nil_perm.1 h).symm
  | cons x l ih =>
    intro ys hx hy h
    cases ys with
    | nil => exact absurd h.length_eq (by simp)
    | cons y m =>
      unfold SortW at hx hy
      rw [List.pairwise_cons] at hx hy
      have e : x = y := by
        rcases List.mem_cons.1 (h.mem_iff.1 (List.mem_cons_self (a := x) (l := l))) with e | hxm
        · exact e
        · rcases List.mem_cons.1 (h.mem_iff.2 (List.mem_cons_self (a := y) (l := m))) with e | hyl
          · exact e.symm
          · exact bfC_tri (hy.1 x hxm) (hx.1 y hyl)
      subst e
      rw [ih m hx.2 hy.2 (List.Perm.cons_inv h)]
theorem sortL_eq {xs ys : List (Int × Int)} (h : SortW ys) (hp : ys.Perm xs) : ys = sortL xs := sort_same _ _ h (sortL_sort xs) (hp.trans (sortL_perm xs).symm)
theorem sortL_of {xs ys : List (Int × Int)} (hp : xs.Perm ys) : sortL xs = sortL ys := sortL_eq (sortL_sort xs) ((sortL_perm xs).trans hp)
/-- A cell moved. -/
def mvC (a b : Int) (c : Int × Int) : Int × Int := (c.1 + a, c.2 + b)
theorem mvC_inj {a b : Int} {c d : Int × Int} (h : mvC a b c = mvC a b d) : c = d := by
  unfold mvC at h
  have h1 := congrArg Prod.fst h
  have h2 := congrArg Prod.snd h
  simp only at h1 h2
  exact cell_ext (by omega) (by omega)
theorem mvC_near (a b : Int) (c d : Int × Int) : nearB (mvC a b c) (mvC a b d) = nearB c d := by
  unfold nearB mvC; congr 2; simp only; rw [show c.1 + a - (d.1 + a) = c.1 - d.1 by omega, show c.2 + b - (d.2 + b) = c.2 - d.2 by omega]
def downM (xs : List (Int × Int)) : List (Int × Int) := xs.map (mvC (-mnF Prod.fst xs) (-mnF Prod.snd xs))
/-- Cells put down. -/
def downL (xs : List (Int × Int)) : List (Int × Int) := sortL (downM xs)
theorem downL_len (xs : List (Int × Int)) : (downL xs).length = xs.length := by unfold downL downM; rw [sortL_len, List.length_map]
theorem downL_perm (xs : List (Int × Int)) : (downL xs).Perm (downM xs) := sortL_perm _
theorem downL_of {xs ys : List (Int × Int)} (hp : xs.Perm ys) : downL xs = downL ys := by
  unfold downL
  refine sortL_of ?_
  unfold downM
  by_cases h : xs = []
  · subst h
    rw [List.nil_perm.1 hp]
  · rw [mnF_same Prod.fst h (fun c => hp.mem_iff), mnF_same Prod.snd h (fun c => hp.mem_iff)]
    exact hp.map _
theorem mnF_map (f : Int × Int → Int) (g : Int × Int → Int × Int) (k : Int) (h : ∀ c, f (g c) = f c + k) : ∀ xs : List (Int × Int), xs ≠ [] → mnF f (xs.map g) = mnF f xs + k := by
  intro xs
  induction xs with
  | nil => intro h; exact absurd rfl h
  | cons x l ih =>
    intro _
    cases l with
    | nil => exact h x
    | cons y m =>
      rw [List.map_cons, mnF_cons f _ _ (by simp), ih (by simp), mnF_cons f x _ (by simp), h]
      omega
theorem downL_mv (a b : Int) (xs : List (Int × Int)) : downL (xs.map (mvC a b)) = downL xs := by
  by_cases h : xs = []
  · subst h; rfl
  · unfold downL downM
    rw [mnF_map Prod.fst (mvC a b) a (fun c => rfl) xs h, mnF_map Prod.snd (mvC a b) b (fun c => rfl) xs h, List.map_map]
    congr 1
    refine List.map_congr_left fun c _ => ?_
    unfold mvC
    simp only [Function.comp]
    exact cell_ext (by simp only; omega) (by simp only; omega)
/-- A change of cells that keeps neighbors and moves what is moved. -/
structure IsoC (f : Int × Int → Int × Int) : Prop where
  near : ∀ c d, nearB (f c) (f d) = nearB c d
  inj : ∀ c d, f c = f d → c = d
  lin : ∀ a b, ∃ a' b', ∀ c, f (mvC a b c) = mvC a' b' (f c)
theorem downL_down {f : Int × Int → Int × Int} (hf : IsoC f) (xs : List (Int × Int)) : downL ((downL xs).map f) = downL (xs.map f) := by
  rw [downL_of ((downL_perm xs).map f)]
  unfold downM
  obtain ⟨a, b, h⟩ := hf.lin (-mnF Prod.fst xs) (-mnF Prod.snd xs)
  rw [List.map_map, show xs.map (f ∘ mvC (-mnF Prod.fst xs) (-mnF Prod.snd xs)) = (xs.map f).map (mvC a b) from by
    rw [List.map_map]; exact List.map_congr_left fun c _ => h c, downL_mv]
theorem mem_downM {xs : List (Int × Int)} {d : Int × Int} : d ∈ downL xs ↔ ∃ c ∈ xs, mvC (-mnF Prod.fst xs) (-mnF Prod.snd xs) c = d := by
  rw [(downL_perm xs).mem_iff]; unfold downM; rw [List.mem_map]
theorem conn_map {f : Int × Int → Int × Int} (hn : ∀ c d, nearB (f c) (f d) = nearB c d) (hi : ∀ c d, f c = f d → c = d) {xs : List (Int × Int)} : ConnC (xs.map f) ↔ ConnC xs := by
  constructor
  · intro h
    have back : ∀ c d, PathC (xs.map f) c d → ∀ a, a ∈ xs → f a = c → ∃ b ∈ xs, f b = d ∧ PathC xs a b := by
      intro c d hp
      induction hp with
      | refl => intro a ha e; exact ⟨a, ha, e, .refl⟩
      | step _ he hd ih =>
        intro a ha e
        obtain ⟨b, hb, rfl, hpb⟩ := ih a ha e
        obtain ⟨g, hg, rfl⟩ := List.mem_map.1 he
        exact ⟨g, hg, rfl, .step hpb hg (by rw [← hn]; exact hd)⟩
    intro c hc d hd
    obtain ⟨b, _, e, hp⟩ := back _ _ (h (f c) (List.mem_map_of_mem hc) (f d) (List.mem_map_of_mem hd)) c hc rfl
    rw [← hi _ _ e]; exact hp
  · intro h
    exact h.image f (fun d => List.mem_map) (fun c d h => by rw [hn]; exact h)
theorem nodup_map {f : Int × Int → Int × Int} (hi : ∀ c d, f c = f d → c = d) {xs : List (Int × Int)} : (xs.map f).Nodup ↔ xs.Nodup := by
  unfold List.Nodup
  rw [List.pairwise_map]
  constructor
  · exact List.Pairwise.imp (fun h e => h (by rw [e]))
  · exact List.Pairwise.imp (fun h e => h (hi _ _ e))
/-- When cells that are put down are a body. -/
theorem down_bod {xs : List (Int × Int)} : BodF (downL xs) ↔ (1 ≤ xs.length ∧ xs.length ≤ 12) ∧ xs.Nodup ∧ ConnC xs := by
  have hm : ∀ c, c ∈ downL xs ↔ c ∈ downM xs := fun c => (downL_perm xs).mem_iff
  have hc : ConnC (downL xs) ↔ ConnC xs := by
    have hcm := conn_map (f := mvC (-mnF Prod.fst xs) (-mnF Prod.snd xs)) (mvC_near _ _) (fun _ _ => mvC_inj) (xs := xs)
    exact ⟨fun h => hcm.1 (ConnC.same h hm), fun h => ConnC.same (hcm.2 h) fun c => (hm c).symm⟩
  have hn : (downL xs).Nodup ↔ xs.Nodup := by
    rw [(downL_perm xs).nodup_iff]
    exact nodup_map (fun _ _ => mvC_inj)
  constructor
  · intro h
    refine ⟨?_, hn.1 h.rise.nodup, hc.1 h.conn⟩
    have := h.one; have := h.short
    rw [downL_len] at *; omega
  · rintro ⟨⟨h1, h2⟩, h3, h4⟩
    have hne : xs ≠ [] := by intro e; subst e; simp at h1
    obtain ⟨c, hcx, e1⟩ := mnF_mem Prod.fst xs hne
    obtain ⟨d, hdx, e2⟩ := mnF_mem Prod.snd xs hne
    refine ⟨by rw [downL_len]; exact h1, by rw [downL_len]; exact h2, (sortL_sort _).rise (hn.2 h3), fun e he => ?_, ⟨_, mem_downM.2 ⟨c, hcx, rfl⟩, ?_⟩, ⟨_, mem_downM.2 ⟨d, hdx, rfl⟩, ?_⟩, hc.2 h4⟩
    · obtain ⟨g, hg, rfl⟩ := mem_downM.1 he
      have a1 := mnF_le Prod.fst xs g hg
      have a2 := mnF_le Prod.snd xs g hg
      unfold mvC; simp only; omega
    · unfold mvC; simp only; omega
    · unfold mvC; simp only; omega
theorem BodF.ne {xs : List (Int × Int)} (h : BodF xs) : xs ≠ [] := by intro e; subst e; have := h.one; simp at this
theorem BodF.same_down {xs : List (Int × Int)} (h : BodF xs) : downL xs = xs := by
  unfold downL downM
  rw [h.mins.1, h.mins.2, show xs.map (mvC (-0) (-0)) = xs from by
    rw [show (mvC (-0) (-0)) = id from funext fun c => cell_ext (by simp [mvC]) (by simp [mvC])]; simp]
  exact (sortL_eq h.rise.weak (List.Perm.refl _)).symm
theorem iso_bod {f : Int × Int → Int × Int} (hf : IsoC f) {xs : List (Int × Int)} (h : BodF xs) : BodF (downL (xs.map f)) := by
  rw [down_bod]
  exact ⟨by rw [List.length_map]; exact ⟨h.one, h.short⟩, (nodup_map hf.inj).2 h.rise.nodup, (conn_map hf.near hf.inj).2 h.conn⟩
theorem IsoC.comp {f g : Int × Int → Int × Int} (hf : IsoC f) (hg : IsoC g) : IsoC (f ∘ g) :=
  ⟨fun c d => by simp only [Function.comp, hf.near, hg.near], fun c d e => hg.inj _ _ (hf.inj _ _ e), fun a b => by
    obtain ⟨a1, b1, h1⟩ := hg.lin a b
    obtain ⟨a2, b2, h2⟩ := hf.lin a1 b1
    exact ⟨a2, b2, fun c => by simp only [Function.comp, h1, h2]⟩⟩
/-- A cell turned to a side, and mirrored. -/
def tuC (s : Int) (c : Int × Int) : Int × Int := (s * c.2, -s * c.1)
def miC (c : Int × Int) : Int × Int := (-c.1, c.2)
theorem tuC_iso (s : Int) (hs : s = 1 ∨ s = -1) : IsoC (tuC s) := by
  rcases hs with rfl | rfl
  · refine ⟨fun c d => ?_, fun c d e => ?_, fun a b => ⟨b, -a, fun c => ?_⟩⟩
    · unfold nearB tuC; congr 1; simp only; apply propext; omega
    · unfold tuC at e
      have h1 := congrArg Prod.fst e
      have h2 := congrArg Prod.snd e
      simp only at h1 h2
      exact cell_ext (by omega) (by omega)
    · unfold tuC mvC; exact cell_ext (by simp only; omega) (by simp only; omega)
  · refine ⟨fun c d => ?_, fun c d e => ?_, fun a b => ⟨-b, a, fun c => ?_⟩⟩
    · unfold nearB tuC; congr 1; simp only; apply propext; omega
    · unfold tuC at e
      have h1 := congrArg Prod.fst e
      have h2 := congrArg Prod.snd e
      simp only at h1 h2
      exact cell_ext (by omega) (by omega)
    · unfold tuC mvC; exact cell_ext (by simp only; omega) (by simp only; omega)
theorem miC_iso : IsoC miC := by
  refine ⟨fun c d => ?_, fun c d e => ?_, fun a b => ⟨-a, b, fun c => ?_⟩⟩
  · unfold nearB miC; congr 1; simp only; apply propext; omega
  · unfold miC at e
    have h1 := congrArg Prod.fst e
    have h2 := congrArg Prod.snd e
    simp only at h1 h2
    exact cell_ext (by omega) (by omega)
  · unfold miC mvC; exact cell_ext (by simp only; omega) rfl
def turnL (s : Int) (xs : List (Int × Int)) : List (Int × Int) := downL (xs.map (tuC s))
def mirL (xs : List (Int × Int)) : List (Int × Int) := downL (xs.map miC)
theorem turnL_bod {s : Int} (hs : s = 1 ∨ s = -1) {xs : List (Int × Int)} (h : BodF xs) : BodF (turnL s xs) := iso_bod (tuC_iso s hs) h
theorem mirL_bod {xs : List (Int × Int)} (h : BodF xs) : BodF (mirL xs) := iso_bod miC_iso h
theorem turn_turn {s t : Int} (hs : s = 1 ∨ s = -1) (xs : List (Int × Int)) : turnL s (turnL t xs) = downL (xs.map (tuC s ∘ tuC t)) := by
  unfold turnL; rw [downL_down (tuC_iso s hs), List.map_map]
theorem turn_back {s : Int} (hs : s = 1 ∨ s = -1) {xs : List (Int × Int)} (h : BodF xs) : turnL (-s) (turnL s xs) = xs := by
  rw [turn_turn (by omega), show xs.map (tuC (-s) ∘ tuC s) = xs from by
    rw [show tuC (-s) ∘ tuC s = id from funext fun c => by rcases hs with rfl | rfl <;> exact cell_ext (by simp [tuC]) (by simp [tuC])]; simp]
  exact h.same_down
/-- Turned to the right so often. -/
def rotL (xs : List (Int × Int)) : Nat → List (Int × Int)
  | 0 => xs
  | n + 1 => turnL 1 (rotL xs n)
theorem rotL_bod {xs : List (Int × Int)} (h : BodF xs) : ∀ n, BodF (rotL xs n) := by
  intro n
  induction n with
  | zero => exact h
  | succ n ih => exact turnL_bod (.inl rfl) ih
theorem rot_four {xs : List (Int × Int)} (h : BodF xs) : rotL xs 4 = xs := by
  show turnL 1 (turnL 1 (turnL 1 (turnL 1 xs))) = xs
  rw [turn_turn (.inl rfl) xs, turn_turn (.inl rfl)]
  rw [downL_down ((tuC_iso 1 (.inl rfl)).comp (tuC_iso 1 (.inl rfl))), List.map_map, show xs.map ((tuC 1 ∘ tuC 1) ∘ tuC 1 ∘ tuC 1) = xs from by
    rw [show (tuC 1 ∘ tuC 1) ∘ tuC 1 ∘ tuC 1 = id from funext fun c => cell_ext (by simp [tuC]) (by simp [tuC])]; simp]
  exact h.same_down
theorem turn_left {xs : List (Int × Int)} (h : BodF xs) (n : Nat) : turnL (-1) (rotL xs (n + 1)) = rotL xs n := by
  have := turn_back (s := 1) (.inl rfl) (rotL_bod h n)
  exact this
theorem turn_left0 {xs : List (Int × Int)} (h : BodF xs) : turnL (-1) xs = rotL xs 3 := by
  have := turn_left h 3
  rw [rot_four h] at this
  exact this
/-- Two times the middles of all cells, summed. -/
def midF (f : Int × Int → Int) : List (Int × Int) → Int
  | [] => 0
  | x :: l => (2 * f x + 1) + midF f l
theorem midF_snoc (f : Int × Int → Int) (xs : List (Int × Int)) (x : Int × Int) : midF f (xs ++ [x]) = midF f xs + 2 * f x + 1 := by
  induction xs with
  | nil => simp [midF]
  | cons y l ih => simp only [List.cons_append, midF, ih]; omega
theorem midF_take (f : Int × Int → Int) (xs : List (Int × Int)) (k : Nat) (hk : k < xs.length) : midF f (xs.take (k + 1)) = midF f (xs.take k) + 2 * f (xs.getD k (0, 0)) + 1 := by
  rw [show xs.take (k + 1) = xs.take k ++ [xs.getD k (0, 0)] from by rw [List.take_add_one, List.getElem?_eq_getElem hk, List.getD, List.getElem?_eq_getElem hk]; rfl, midF_snoc]
theorem midF_bound (f : Int × Int → Int) (m : Int) (xs : List (Int × Int)) (h : ∀ c ∈ xs, -m ≤ f c ∧ f c ≤ m) : -(2 * m * xs.length) ≤ midF f xs ∧ midF f xs ≤ (2 * m + 1) * xs.length := by
  induction xs with
  | nil => simp [midF]
  | cons x l ih =>
    have h1 := h x (by simp)
    have h2 := ih fun c hc => h c (by simp [hc])
    simp only [midF, List.length_cons]
    have e1 : (2 * m * ((l.length + 1 : Nat) : Int)) = 2 * m * l.length + 2 * m := by rw [Int.natCast_add, Int.mul_add]; simp
    have e2 : ((2 * m + 1) * ((l.length + 1 : Nat) : Int)) = (2 * m + 1) * l.length + (2 * m + 1) := by rw [Int.natCast_add, Int.mul_add]; simp
    omega
/-- Where the ground begins and ends, told as the cells come. -/
def gloF (xs : List (Int × Int)) : Int := xs.foldl (fun l c => if c.2 = 0 ∧ l < 0 then c.1 else l) (-1)
def ghiF (xs : List (Int × Int)) : Int := xs.foldl (fun h c => if c.2 = 0 then c.1 + 1 else h) (-1)
theorem gloF_snoc (xs : List (Int × Int)) (c : Int × Int) : gloF (xs ++ [c]) = if c.2 = 0 ∧ gloF xs < 0 then c.1 else gloF xs := by unfold gloF; rw [List.foldl_append]; rfl
theorem ghiF_snoc (xs : List (Int × Int)) (c : Int × Int) : ghiF (xs ++ [c]) = if c.2 = 0 then c.1 + 1 else ghiF xs := by unfold ghiF; rw [List.foldl_append]; rfl
theorem take_snocC (xs : List (Int × Int)) (k : Nat) (hk : k < xs.length) : xs.take (k + 1) = xs.take k ++ [xs.getD k (0, 0)] := by rw [List.take_add_one, List.getElem?_eq_getElem hk, List.getD, List.getElem?_eq_getElem hk]; rfl
/-- The side outside of a range. -/
def ovF (sum n lo hi : Int) : Int := if sum < 2 * n * lo then -1 else if 2 * n * hi < sum then 1 else 0
def sideL (xs : List (Int × Int)) : Int := ovF (midF Prod.fst xs) xs.length (gloF xs) (ghiF xs)
theorem ovF_is (s n l h : Int) : ovF s n l h = 0 ∨ ovF s n l h = 1 ∨ ovF s n l h = -1 := by unfold ovF; split <;> (try split) <;> simp
/-- What the ground is: the least and the greatest x of cells below. -/
theorem ground_is : ∀ (k : Nat) (xs : List (Int × Int)), xs.length = k → RiseC xs → (∀ c ∈ xs, 0 ≤ c.1) → 
    ((∀ c ∈ xs, c.2 ≠ 0) ∧ gloF xs = -1 ∧ ghiF xs = -1) ∨ ((gloF xs, 0) ∈ xs ∧ (ghiF xs - 1, 0) ∈ xs ∧ ∀ c ∈ xs, c.2 = 0 → gloF xs ≤ c.1 ∧ c.1 ≤ ghiF xs - 1) := by
  intro k
  induction k with
  | zero =>
    intro xs hl _ _
    rw [List.length_eq_zero_iff] at hl
    subst hl
    exact .inl ⟨by simp, rfl, rfl⟩
  | succ k ih =>
    intro xs hl hr h0
    have hne : xs ≠ [] := by intro e; subst e; simp at hl
    have e := List.dropLast_concat_getLast hne
    generalize xs.getLast hne = c at e
    generalize xs.dropLast = l at e
    subst e
    unfold RiseC at hr
    rw [List.pairwise_append] at hr
    obtain ⟨r1, _, r3⟩ := hr
    have hc0 := h0 c (by simp)
    rw [gloF_snoc, ghiF_snoc]
    rcases ih l (by simp at hl; omega) r1 (fun d hd => h0 d (by simp [hd])) with ⟨a1, a2, a3⟩ | ⟨a1, a2, a3⟩
    · by_cases hc : c.2 = 0
      · rw [a2, if_pos ⟨hc, by omega⟩, if_pos hc]
        refine .inr ⟨?_, ?_, fun d hd hd0 => ?_⟩
        · rw [List.mem_append]; right; rw [List.mem_singleton]; exact cell_ext rfl hc.symm
        · rw [List.mem_append]; right; rw [List.mem_singleton]; exact cell_ext (by simp only; omega) hc.symm
        · rcases List.mem_append.1 hd with h | h
          · exact absurd hd0 (a1 d h)
          · simp at h; subst h; omega
      · rw [if_neg (by intro h; exact hc h.1), if_neg hc]
        refine .inl ⟨fun d hd => ?_, a2, a3⟩
        rcases List.mem_append.1 hd with h | h
        · exact a1 d h
        · simp at h; subst h; exact hc
    · have hg0 := h0 _ (List.mem_append_left [c] a1)
      simp only at hg0
      rw [if_neg (by omega)]
      by_cases hc : c.2 = 0
      · rw [if_pos hc]
        refine .inr ⟨by simp [a1], ?_, fun d hd hd0 => ?_⟩
        · rw [List.mem_append]; right; rw [List.mem_singleton]; exact cell_ext (by simp only; omega) hc.symm
        · rcases List.mem_append.1 hd with h | h
          · have b1 := a3 d h hd0
            have b2 := r3 d h c (by simp)
            rw [bfC_iff] at b2; omega
          · simp at h; subst h
            have b2 := r3 _ a1 d (by simp)
            rw [bfC_iff] at b2
            simp only at b2; omega
      · rw [if_neg hc]
        refine .inr ⟨by simp [a1], by simp [a2], fun d hd hd0 => ?_⟩
        rcases List.mem_append.1 hd with h | h
        · exact a3 d h hd0
        · simp at h; subst h; exact absurd hd0 hc
theorem BodF.ground {xs : List (Int × Int)} (h : BodF xs) : (gloF xs, 0) ∈ xs ∧ (ghiF xs - 1, 0) ∈ xs ∧ ∀ c ∈ xs, c.2 = 0 → gloF xs ≤ c.1 ∧ c.1 ≤ ghiF xs - 1 := by
  rcases ground_is _ xs rfl h.rise (fun c hc => (h.lo c hc).1) with ⟨a, _, _⟩ | h'
  · obtain ⟨d, hd, e⟩ := h.down
    exact absurd e (a d hd)
  · exact h'
/-- What tumbles comes to stand within three turns, or never. -/
def tumL (xs : List (Int × Int)) : Nat → List (Int × Int)
  | 0 => xs
  | n + 1 => turnL (sideL (tumL xs n)) (tumL xs n)
theorem tum_four {xs : List (Int × Int)} (h : BodF xs) (h0 : sideL (tumL xs 0) ≠ 0) (h1 : sideL (tumL xs 1) ≠ 0) (h2 : sideL (tumL xs 2) ≠ 0) (h3 : sideL (tumL xs 3) ≠ 0) : sideL (tumL xs 4) ≠ 0 := by
  have s : ∀ n, sideL (rotL xs n) = 0 ∨ sideL (rotL xs n) = 1 ∨ sideL (rotL xs n) = -1 := fun n => ovF_is _ _ _ _
  have r : ∀ n k, tumL xs n = rotL xs k → sideL (rotL xs k) = 1 → tumL xs (n + 1) = rotL xs (k + 1) := fun n k e g => by
    rw [tumL, e, g]; rfl
  have l : ∀ n k, tumL xs n = rotL xs (k + 1) → sideL (rotL xs (k + 1)) = -1 → tumL xs (n + 1) = rotL xs k := fun n k e g => by
    rw [tumL, e, g, turn_left h]
  have l0 : ∀ n, tumL xs n = rotL xs 0 → sideL (rotL xs 0) = -1 → tumL xs (n + 1) = rotL xs 3 := fun n e g => by
    rw [tumL, e, g]; exact turn_left0 h
  have r3 : ∀ n, tumL xs n = rotL xs 3 → sideL (rotL xs 3) = 1 → tumL xs (n + 1) = rotL xs 0 := fun n e g => by
    rw [r n 3 e g, rot_four h]; rfl
  have e0 : tumL xs 0 = rotL xs 0 := rfl
  have hs : ∀ n k, tumL xs n = rotL xs k → sideL (tumL xs n) ≠ 0 → sideL (rotL xs k) = 1 ∨ sideL (rotL xs k) = -1 := fun n k e g => by
    rw [e] at g
    rcases s k with a | a
    · exact absurd a g
    · exact a
  rcases hs 0 0 e0 h0 with g0 | g0
  · have e1 := r 0 0 e0 g0
    rcases hs 1 1 e1 h1 with g1 | g1
    · have e2 := r 1 1 e1 g1
      rcases hs 2 2 e2 h2 with g2 | g2
      · have e3 := r 2 2 e2 g2
        rcases hs 3 3 e3 h3 with g3 | g3
        · rw [r3 3 e3 g3, g0]; decide
        · rw [l 3 2 e3 g3, g2]; decide
      · have e3 := l 2 1 e2 g2
        rw [r 3 1 e3 g1, g2]; decide
    · have e2 := l 1 0 e1 g1
      have e3 := r 2 0 e2 g0
      rw [l 3 0 e3 g1, g0]; decide
  · have e1 := l0 0 e0 g0
    rcases hs 1 3 e1 h1 with g1 | g1
    · have e2 := r3 1 e1 g1
      have e3 := l0 2 e2 g0
      rw [r3 3 e3 g1, g0]; decide
    · have e2 := l 1 2 e1 g1
      rcases hs 2 2 e2 h2 with g2 | g2
      · have e3 := r 2 2 e2 g2
        rw [l 3 2 e3 g1, g2]; decide
      · have e3 := l 2 1 e2 g2
        rcases hs 3 1 e3 h3 with g3 | g3
        · rw [r 3 1 e3 g3, g2]; decide
        · rw [l 3 0 e3 g3, g0]; decide
theorem tumL_bod {xs : List (Int × Int)} (h : BodF xs) : ∀ n, (∀ k, k < n → sideL (tumL xs k) ≠ 0) → BodF (tumL xs n) := by
  intro n
  induction n with
  | zero => intro _; exact h
  | succ n ih =>
    intro hk
    have h1 := ih fun k hkn => hk k (by omega)
    have h2 := hk n (by omega)
    rcases ovF_is (midF Prod.fst (tumL xs n)) (tumL xs n).length (gloF (tumL xs n)) (ghiF (tumL xs n)) with e | e
    · exact absurd e h2
    · exact turnL_bod e h1
end Go.Proofs.Ytmcjichpeijiaaa
namespace Go.Proofs.Ytmcjichpeijiaaa
/-- All cells but one. -/
def otL (xs : List (Int × Int)) (i : Nat) : List (Int × Int) := xs.take i ++ xs.drop (i + 1)
theorem otL_len {xs : List (Int × Int)} {i : Nat} (h : i < xs.length) : (otL xs i).length + 1 = xs.length := by
  unfold otL; rw [List.length_append, List.length_take, List.length_drop]; omega
theorem otL_sub (xs : List (Int × Int)) (i : Nat) : (otL xs i).Sublist xs := by
  unfold otL
  have h : (xs.take i ++ xs.drop (i + 1)).Sublist (xs.take i ++ xs.drop i) := by
    refine List.Sublist.append (List.Sublist.refl _) ?_
    rw [show xs.drop (i + 1) = (xs.drop i).drop 1 from by rw [List.drop_drop]]
    exact List.drop_sublist _ _
  rwa [List.take_append_drop] at h
theorem otL_nodup {xs : List (Int × Int)} (h : RiseC xs) (i : Nat) : (otL xs i).Nodup := List.Nodup.sublist (otL_sub xs i) h.nodup
/-- When a body without a cell is one. -/
theorem ot_bod {xs : List (Int × Int)} (h : BodF xs) {i : Nat} (hi : i < xs.length) : BodF (downL (otL xs i)) ↔ 1 ≤ (otL xs i).length ∧ ConnC (otL xs i) := by
  rw [down_bod]
  have := otL_len hi
  have := h.short
  exact ⟨fun k => ⟨k.1.1, k.2.2⟩, fun k => ⟨⟨k.1, by omega⟩, otL_nodup h.rise i, k.2⟩⟩
noncomputable def looB (stand : Bool) (xs : List (Int × Int)) (i : Nat) : Bool := bodB (downL (otL xs i)) && (!stand || decide (sideL (downL (otL xs i)) = 0))
/-- The places of all loose cells. -/
noncomputable def looL (stand : Bool) (xs : List (Int × Int)) (n : Nat) : List Int := ((List.range n).filter (looB stand xs)).map fun i : Nat => (i : Int)
theorem looL_succ (stand : Bool) (xs : List (Int × Int)) (n : Nat) : looL stand xs (n + 1) = looL stand xs n ++ (if looB stand xs n = true then [(n : Int)] else []) := by
  unfold looL
  rw [List.range_succ, List.filter_append, List.map_append]
  congr 1
  cases e : looB stand xs n <;> simp [e]
theorem looL_len (stand : Bool) (xs : List (Int × Int)) (n : Nat) : (looL stand xs n).length ≤ n := by
  unfold looL
  rw [List.length_map]
  exact Nat.le_trans (List.length_filter_le _ _) (by simp)
/-- A neighbor of a cell that is not in a list. -/
def edgB (xs : List (Int × Int)) (c : Int × Int) : Bool := xs.any (fun b => nearB b c) && !(xs.contains c)
theorem edgB_iff (xs : List (Int × Int)) (c : Int × Int) : edgB xs c = true ↔ (∃ b ∈ xs, nearB b c = true) ∧ c ∉ xs := by
  unfold edgB
  rw [Bool.and_eq_true, List.any_eq_true, Bool.not_eq_true']
  simp
/-- One column of places aa far aa -1 and 12, told aa the model goes. -/
def colL (p : Int × Int → Bool) (x : Int) (n : Nat) : List (Int × Int) := ((List.range n).map fun j : Nat => (x, (j : Int) - 1)).filter p
def gridL (p : Int × Int → Bool) (n : Nat) : List (Int × Int) := (List.range n).flatMap fun i : Nat => colL p ((i : Int) - 1) 14
theorem colL_succ (p : Int × Int → Bool) (x : Int) (n : Nat) : colL p x (n + 1) = colL p x n ++ (if p (x, (n : Int) - 1) = true then [(x, (n : Int) - 1)] else []) := by
  unfold colL
  rw [List.range_succ, List.map_append, List.filter_append]
  congr 1
  cases e : p (x, (n : Int) - 1) <;> simp [e]
theorem gridL_succ (p : Int × Int → Bool) (n : Nat) : gridL p (n + 1) = gridL p n ++ colL p ((n : Int) - 1) 14 := by
  unfold gridL; rw [List.range_succ, List.flatMap_append]; simp
theorem mem_colL {p : Int × Int → Bool} {x : Int} {n : Nat} {c : Int × Int} : c ∈ colL p x n ↔ p c = true ∧ c.1 = x ∧ -1 ≤ c.2 ∧ c.2 < (n : Int) - 1 := by
  unfold colL
  rw [List.mem_filter, List.mem_map]
  constructor
  · rintro ⟨⟨j, hj, rfl⟩, h⟩
    rw [List.mem_range] at hj
    exact ⟨h, rfl, by simp only; omega, by simp only; omega⟩
  · rintro ⟨h, h1, h2, h3⟩
    exact ⟨⟨(c.2 + 1).toNat, by rw [List.mem_range]; omega, cell_ext h1.symm (by simp only; omega)⟩, h⟩
theorem mem_gridL {p : Int × Int → Bool} {n : Nat} {c : Int × Int} : c ∈ gridL p n ↔ p c = true ∧ (-1 ≤ c.1 ∧ c.1 < (n : Int) - 1) ∧ -1 ≤ c.2 ∧ c.2 ≤ 12 := by
  unfold gridL
  rw [List.mem_flatMap]
  constructor
  · rintro ⟨i, hi, h⟩
    rw [List.mem_range] at hi
    rw [mem_colL] at h
    exact ⟨h.1, by omega, by omega, by omega⟩
  · rintro ⟨h, ⟨h1, h2⟩, h3, h4⟩
    exact ⟨(c.1 + 1).toNat, by rw [List.mem_range]; omega, mem_colL.2 ⟨h, by omega, h3, by omega⟩⟩
theorem colL_rise (p : Int × Int → Bool) (x : Int) (n : Nat) : RiseC (colL p x n) := by
  unfold colL RiseC
  refine List.Pairwise.filter _ ?_
  rw [List.pairwise_map]
  refine List.Pairwise.imp (fun {a b} h => ?_) List.pairwise_lt_range
  rw [bfC_iff]; exact .inr ⟨rfl, by simp only; omega⟩
theorem gridL_rise (p : Int × Int → Bool) (n : Nat) : RiseC (gridL p n) := by
  induction n with
  | zero => simp [gridL, RiseC]
  | succ n ih =>
    rw [gridL_succ]
    unfold RiseC
    rw [List.pairwise_append]
    refine ⟨ih, colL_rise _ _ _, fun a ha b hb => ?_⟩
    rw [mem_gridL] at ha
    rw [mem_colL] at hb
    rw [bfC_iff]; omega
theorem colL_len (p : Int × Int → Bool) (x : Int) (n : Nat) : (colL p x n).length ≤ n := by
  unfold colL; exact Nat.le_trans (List.length_filter_le _ _) (by simp)
theorem gridL_len (p : Int × Int → Bool) (n : Nat) : (gridL p n).length ≤ 14 * n := by
  induction n with
  | zero => simp [gridL]
  | succ n ih => rw [gridL_succ, List.length_append]; have := colL_len p ((n : Int) - 1) 14; omega
/-- All neighbors of a body's cells that are not in it. -/
def edgL (xs : List (Int × Int)) : List (Int × Int) := gridL (edgB xs) 14
theorem BodF.mem_edg {xs : List (Int × Int)} (h : BodF xs) (c : Int × Int) : c ∈ edgL xs ↔ (∃ b ∈ xs, nearB b c = true) ∧ c ∉ xs := by
  unfold edgL
  rw [mem_gridL, edgB_iff]
  constructor
  · exact fun k => k.1
  · intro k
    obtain ⟨b, hb, hn⟩ := k.1
    have := h.hi b hb
    rw [nearB_iff] at hn
    exact ⟨k, by omega, by omega, by omega⟩
theorem edgL_rise (xs : List (Int × Int)) : RiseC (edgL xs) := gridL_rise _ _
/-- One cell more. -/
theorem grow_conn {xs : List (Int × Int)} (h : ConnC xs) {c b : Int × Int} (hb : b ∈ xs) (hn : nearB b c = true) : ConnC (xs ++ [c]) := by
  refine connC_of (a := b) (by simp [hb]) fun d hd => ?_
  rcases List.mem_append.1 hd with hd | hd
  · exact (h b hb d hd).sub fun e he => by simp [he]
  · rw [List.mem_singleton] at hd; subst hd
    exact .step .refl (by simp) hn
theorem grow_bod {xs : List (Int × Int)} (h : BodF xs) (hl : xs.length < 12) {c : Int × Int} (he : edgB xs c = true) : BodF (downL (xs ++ [c])) := by
  rw [edgB_iff] at he
  obtain ⟨⟨b, hb, hn⟩, hc⟩ := he
  rw [down_bod]
  refine ⟨by rw [List.length_append]; simp; omega, ?_, grow_conn h.conn hb hn⟩
  rw [List.nodup_append]
  refine ⟨h.rise.nodup, by simp, fun x hx y hy e => ?_⟩
  rw [List.mem_singleton] at hy
  subst hy; subst e; exact hc hx
theorem grow_same (xs : List (Int × Int)) (c : Int × Int) : downL (putL xs c) = downL (xs ++ [c]) := downL_of (putL_perm xs c)
/-- The cells with one of which more a body stands. -/
def ctsB (xs : List (Int × Int)) (c : Int × Int) : Bool := decide (0 ≤ c.2) && decide (sideL (downL (xs ++ [c])) = 0)
def ctsL (xs : List (Int × Int)) : List (Int × Int) := (edgL xs).filter (ctsB xs)
/-- The four neighbors of a cell, and those of the cells of a list that are not in another one. -/
def nb4 (c : Int × Int) : List (Int × Int) := [(c.1 - 1, c.2), (c.1, c.2 - 1), (c.1, c.2 + 1), (c.1 + 1, c.2)]
theorem mem_nb4 (c d : Int × Int) : d ∈ nb4 c ↔ nearB c d = true := by
  rw [nearB_iff]
  unfold nb4
  simp only [List.mem_cons, List.not_mem_nil, or_false]
  constructor
  · rintro (rfl | rfl | rfl | rfl) <;> simp only <;> omega
  · intro h
    obtain ⟨a, b⟩ := c
    obtain ⟨x, y⟩ := d
    simp only [Prod.mk.injEq] at *
    omega
def nbL (xs : List (Int × Int)) (k : Nat) : List (Int × Int) := (xs.take k).flatMap fun c => (nb4 c).filter fun d => !(xs.contains d)
theorem nbL_succ (xs : List (Int × Int)) (k : Nat) (h : k < xs.length) : nbL xs (k + 1) = nbL xs k ++ (nb4 (xs.getD k (0, 0))).filter fun d => !(xs.contains d) := by
  unfold nbL; rw [take_snocC xs k h, List.flatMap_append]; simp
theorem nbL_len (xs : List (Int × Int)) : ∀ k, (nbL xs k).length ≤ 4 * k := by
  intro k
  unfold nbL
  have key : ∀ l : List (Int × Int), (l.flatMap fun c => (nb4 c).filter fun d => !(xs.contains d)).length ≤ 4 * l.length := by
    intro l
    induction l with
    | nil => simp
    | cons c m ih =>
      rw [List.flatMap_cons, List.length_append, List.length_cons]
      have := List.length_filter_le (fun d => !(xs.contains d)) (nb4 c)
      have e : (nb4 c).length = 4 := rfl
      omega
  have := key (xs.take k)
  rw [List.length_take] at this
  omega
theorem mem_nbL {xs : List (Int × Int)} {d : Int × Int} : d ∈ nbL xs xs.length ↔ (∃ b ∈ xs, nearB b d = true) ∧ d ∉ xs := by
  unfold nbL
  rw [List.take_length, List.mem_flatMap]
  constructor
  · rintro ⟨c, hc, h⟩
    rw [List.mem_filter, mem_nb4] at h
    exact ⟨⟨c, hc, h.1⟩, by simpa using h.2⟩
  · rintro ⟨⟨c, hc, h⟩, hn⟩
    exact ⟨c, hc, List.mem_filter.2 ⟨(mem_nb4 _ _).2 h, by simpa using hn⟩⟩
/-- What rises and has the neighbors of a body's cells is the model's list. -/
theorem edg_same {xs ys : List (Int × Int)} (h : BodF xs) (hr : RiseC ys) (hm : ∀ c, c ∈ ys ↔ c ∈ nbL xs xs.length) : ys = edgL xs :=
  rise_same _ _ hr (edgL_rise xs) fun c => by rw [hm, mem_nbL, h.mem_edg]
/-- By how much a cell must be lifted over another one in the same column, moved to the right by d. -/
def upF (d : Int) (c a : Int × Int) : Int := if a.1 = c.1 + d then a.2 + 1 - c.2 else 0
def lift1 (d : Int) (aa : List (Int × Int)) (c : Int × Int) : Int := aa.foldl (fun u a => if a.1 = c.1 + d then max u (a.2 + 1 - c.2) else u) 0
def meetB (d u : Int) (aa bb : List (Int × Int)) : Bool := bb.any fun c => aa.any fun a => decide (a.1 = c.1 + d) && decide (c.2 + u ≤ a.2)
def liftF (d : Int) (aa bb : List (Int × Int)) : Int := bb.foldl (fun u c => aa.foldl (fun u a => if a.1 = c.1 + d then max u (a.2 + 1 - c.2) else u) u) 0
theorem lift_in (d : Int) (c : Int × Int) : ∀ (aa : List (Int × Int)) (u : Int), u ≤ aa.foldl (fun u a => if a.1 = c.1 + d then max u (a.2 + 1 - c.2) else u) u ∧
    (∀ a ∈ aa, a.1 = c.1 + d → a.2 + 1 - c.2 ≤ aa.foldl (fun u a => if a.1 = c.1 + d then max u (a.2 + 1 - c.2) else u) u) ∧
    (aa.foldl (fun u a => if a.1 = c.1 + d then max u (a.2 + 1 - c.2) else u) u = u ∨ ∃ a ∈ aa, a.1 = c.1 + d ∧ aa.foldl (fun u a => if a.1 = c.1 + d then max u (a.2 + 1 - c.2) else u) u = a.2 + 1 - c.2) := by
  intro aa
  induction aa with
  | nil => intro u; exact ⟨Int.le_refl _, by simp, .inl rfl⟩
  | cons a l ih =>
    intro u
    simp only [List.foldl_cons]
    by_cases h : a.1 = c.1 + d
    · rw [if_pos h]
      obtain ⟨h1, h2, h3⟩ := ih (max u (a.2 + 1 - c.2))
      refine ⟨by omega, fun b hb e => ?_, ?_⟩
      · rcases List.mem_cons.1 hb with rfl | hb
        · omega
        · exact h2 b hb e
      · rcases h3 with h3 | ⟨b, hb, e, h3⟩
        · by_cases hu : a.2 + 1 - c.2 ≤ u
          · exact .inl (by rw [h3]; omega)
          · exact .inr ⟨a, by simp, h, by rw [h3]; omega⟩
        · exact .inr ⟨b, by simp [hb], e, h3⟩
    · rw [if_neg h]
      obtain ⟨h1, h2, h3⟩ := ih u
      refine ⟨h1, fun b hb e => ?_, ?_⟩
      · rcases List.mem_cons.1 hb with rfl | hb
        · exact absurd e h
        · exact h2 b hb e
      · rcases h3 with h3 | ⟨b, hb, e, h3⟩
        · exact .inl h3
        · exact .inr ⟨b, by simp [hb], e, h3⟩
theorem lift_out (d : Int) (aa : List (Int × Int)) : ∀ (bb : List (Int × Int)) (u : Int), u ≤ bb.foldl (fun u c => aa.foldl (fun u a => if a.1 = c.1 + d then max u (a.2 + 1 - c.2) else u) u) u ∧
    (∀ c ∈ bb, ∀ a ∈ aa, a.1 = c.1 + d → a.2 + 1 - c.2 ≤ bb.foldl (fun u c => aa.foldl (fun u a => if a.1 = c.1 + d then max u (a.2 + 1 - c.2) else u) u) u) ∧
    (bb.foldl (fun u c => aa.foldl (fun u a => if a.1 = c.1 + d then max u (a.2 + 1 - c.2) else u) u) u = u ∨ ∃ c ∈ bb, ∃ a ∈ aa, a.1 = c.1 + d ∧ bb.foldl (fun u c => aa.foldl (fun u a => if a.1 = c.1 + d then max u (a.2 + 1 - c.2) else u) u) u = a.2 + 1 - c.2) := by
  intro bb
  induction bb with
  | nil => intro u; exact ⟨Int.le_refl _, by simp, .inl rfl⟩
  | cons c l ih =>
    intro u
    simp only [List.foldl_cons]
    obtain ⟨g1, g2, g3⟩ := lift_in d c aa u
    generalize aa.foldl (fun u a => if a.1 = c.1 + d then max u (a.2 + 1 - c.2) else u) u = v at g1 g2 g3 ⊢
    obtain ⟨h1, h2, h3⟩ := ih v
    refine ⟨by omega, fun b hb a ha e => ?_, ?_⟩
    · rcases List.mem_cons.1 hb with rfl | hb
      · have := g2 a ha e; omega
      · exact h2 b hb a ha e
    · rcases h3 with h3 | ⟨b, hb, a, ha, e, h3⟩
      · rcases g3 with g3 | ⟨a, ha, e, g3⟩
        · exact .inl (by rw [h3, g3])
        · exact .inr ⟨c, by simp, a, ha, e, by rw [h3, g3]⟩
      · exact .inr ⟨b, by simp [hb], a, ha, e, h3⟩
theorem meet_iff (d u : Int) (aa bb : List (Int × Int)) : meetB d u aa bb = true ↔ ∃ c ∈ bb, ∃ a ∈ aa, a.1 = c.1 + d ∧ c.2 + u ≤ a.2 := by
  unfold meetB
  rw [List.any_eq_true]
  simp only [List.any_eq_true, Bool.and_eq_true, decide_eq_true_eq]
/-- A body meets the other one exactly below the lift. -/
theorem lift_meet (d : Int) (aa bb : List (Int × Int)) : 0 ≤ liftF d aa bb ∧ ∀ u, 0 ≤ u → (meetB d u aa bb = true ↔ u < liftF d aa bb) := by
  unfold liftF
  obtain ⟨h1, h2, h3⟩ := lift_out d aa bb 0
  refine ⟨h1, fun u hu => ?_⟩
  rw [meet_iff]
  constructor
  · rintro ⟨c, hc, a, ha, e, h⟩
    have := h2 c hc a ha e; omega
  · intro h
    rcases h3 with h3 | ⟨c, hc, a, ha, e, h3⟩
    · omega
    · exact ⟨c, hc, a, ha, e, by omega⟩
theorem lift_small {d : Int} {aa bb : List (Int × Int)} (ha : ∀ c ∈ aa, c.2 ≤ 11) (hb : ∀ c ∈ bb, 0 ≤ c.2) : liftF d aa bb ≤ 12 := by
  unfold liftF
  obtain ⟨h1, h2, h3⟩ := lift_out d aa bb 0
  rcases h3 with h3 | ⟨c, hc, a, ha', e, h3⟩
  · omega
  · have := ha a ha'; have := hb c hc; omega
/-- All cells of the stack. -/
def stkL (d : Int) (aa bb : List (Int × Int)) : List (Int × Int) := aa ++ bb.map (mvC d (liftF d aa bb))
theorem stk_nodup {d : Int} {aa bb : List (Int × Int)} (ha : aa.Nodup) (hb : bb.Nodup) : (stkL d aa bb).Nodup := by
  unfold stkL
  rw [List.nodup_append]
  refine ⟨ha, (nodup_map (fun _ _ => mvC_inj)).2 hb, fun x hx y hy e => ?_⟩
  subst e
  obtain ⟨c, hc, rfl⟩ := List.mem_map.1 hy
  obtain ⟨h0, hm⟩ := lift_meet d aa bb
  have := (hm (liftF d aa bb) h0).1 ((meet_iff _ _ _ _).2 ⟨c, hc, _, hx, rfl, by unfold mvC; simp only; omega⟩)
  omega
theorem stk_bod {d : Int} {aa bb : List (Int × Int)} (ha : BodF aa) (hb : BodF bb) : BodF (downL (stkL d aa bb)) ↔ (stkL d aa bb).length ≤ 12 ∧ ConnC (stkL d aa bb) := by
  rw [down_bod]
  have h1 := ha.one
  have e : (stkL d aa bb).length = aa.length + bb.length := by simp [stkL]
  exact ⟨fun h => ⟨h.1.2, h.2.2⟩, fun h => ⟨⟨by omega, h.1⟩, stk_nodup ha.rise.nodup hb.rise.nodup, h.2⟩⟩
end Go.Proofs.Ytmcjichpeijiaaa
namespace Go.Proofs.Ytmcjichpeijiaaa
/-- How far the model's search over places has come: the places found, n of them done, and of the next one's neighbors those below i. -/
structure BfsI (xs : List (Int × Int)) (L : List Nat) (n i : Nat) : Prop where
  lt : ∀ j ∈ L, j < xs.length
  nd : L.Nodup
  zero : 0 ∈ L
  path : ∀ j ∈ L, PathC xs (xs.getD 0 (0, 0)) (xs.getD j (0, 0))
  done : ∀ m, m < n → ∀ k, k < xs.length → nearB (xs.getD k (0, 0)) (xs.getD (L.getD m 0) (0, 0)) = true → k ∈ L
  part : ∀ k, k < i → nearB (xs.getD k (0, 0)) (xs.getD (L.getD n 0) (0, 0)) = true → k ∈ L
theorem nat_mem {L : List Nat} {m : Nat} (h : m < L.length) : L.getD m 0 ∈ L := by
  simp only [List.getD, List.getElem?_eq_getElem h, Option.getD_some]; exact List.getElem_mem h
theorem nat_app {L : List Nat} {m i : Nat} (h : m < L.length) : (L ++ [i]).getD m 0 = L.getD m 0 := by
  simp only [List.getD]; rw [List.getElem?_append_left h]
theorem BfsI.start {xs : List (Int × Int)} (h : 0 < xs.length) : BfsI xs [0] 0 0 :=
  ⟨fun j hj => by rw [List.mem_singleton] at hj; omega, by simp, by simp, fun j hj => by rw [List.mem_singleton] at hj; subst hj; exact .refl, fun m hm => by omega, fun k hk => by omega⟩
theorem BfsI.skip {xs : List (Int × Int)} {L : List Nat} {n i : Nat} (h : BfsI xs L n i) (hs : nearB (xs.getD i (0, 0)) (xs.getD (L.getD n 0) (0, 0)) = true → i ∈ L) : BfsI xs L n (i + 1) :=
  ⟨h.lt, h.nd, h.zero, h.path, h.done, fun k hk hn => by
    by_cases e : k = i
    · subst e; exact hs hn
    · exact h.part k (by omega) hn⟩
theorem BfsI.add {xs : List (Int × Int)} {L : List Nat} {n i : Nat} (h : BfsI xs L n i) (hi : i < xs.length) (hn : n < L.length) (hm : i ∉ L) (hs : nearB (xs.getD i (0, 0)) (xs.getD (L.getD n 0) (0, 0)) = true) : BfsI xs (L ++ [i]) n (i + 1) := by
  refine ⟨fun j hj => ?_, ?_, by simp [h.zero], fun j hj => ?_, fun m hmn k hk hh => ?_, fun k hk hh => ?_⟩
  · rcases List.mem_append.1 hj with hj | hj
    · exact h.lt j hj
    · rw [List.mem_singleton] at hj; omega
  · rw [List.nodup_append]
    refine ⟨h.nd, by simp, fun x hx y hy e => ?_⟩
    rw [List.mem_singleton] at hy
    subst hy; subst e; exact hm hx
  · rcases List.mem_append.1 hj with hj | hj
    · exact h.path j hj
    · rw [List.mem_singleton] at hj; subst hj
      exact .step (h.path _ (nat_mem hn)) (mem_getD hi) (nearB_symm hs)
  · rw [nat_app (by omega)] at hh
    exact List.mem_append_left _ (h.done m hmn k hk hh)
  · rw [nat_app hn] at hh
    by_cases e : k = i
    · subst e; simp
    · exact List.mem_append_left _ (h.part k (by omega) hh)
theorem BfsI.next {xs : List (Int × Int)} {L : List Nat} {n : Nat} (h : BfsI xs L n xs.length) : BfsI xs L (n + 1) 0 :=
  ⟨h.lt, h.nd, h.zero, h.path, fun m hm k hk hh => by
    by_cases e : m = n
    · subst e; exact h.part k hk hh
    · exact h.done m (by omega) k hk hh, fun k hk => by omega⟩
theorem BfsI.len {xs : List (Int × Int)} {L : List Nat} {n i : Nat} (h : BfsI xs L n i) : L.length ≤ xs.length := by
  have := nodup_le L (List.range xs.length) h.nd (fun j hj => by rw [List.mem_range]; exact h.lt j hj)
  simpa using this
theorem getD_inj {xs : List (Int × Int)} (hx : xs.Nodup) {i j : Nat} (hi : i < xs.length) (hj : j < xs.length) (h : xs.getD i (0, 0) = xs.getD j (0, 0)) : i = j := by
  simp only [List.getD, List.getElem?_eq_getElem hi, List.getElem?_eq_getElem hj, Option.getD_some] at h
  exact (List.getElem_inj hx).1 h
theorem BfsI.finish {xs : List (Int × Int)} {L : List Nat} (h : BfsI xs L L.length 0) (h0 : 0 < xs.length) (hx : xs.Nodup) : L.length = xs.length ↔ ConnC xs := by
  have e : (L.map fun j => xs.getD j (0, 0)).length = L.length := List.length_map _
  rw [← e, reach_all (xs := xs) (rs := L.map fun j => xs.getD j (0, 0)) (a := xs.getD 0 (0, 0)) (mem_getD h0) (List.mem_map_of_mem h.zero)]
  · exact ⟨fun k => k.2, fun k => ⟨hx, k⟩⟩
  · rw [List.Nodup, List.pairwise_map]
    exact List.Pairwise.imp_of_mem (fun {i j} hi hj hne e => hne (getD_inj hx (h.lt i hi) (h.lt j hj) e)) h.nd
  · intro r hr
    obtain ⟨j, hj, rfl⟩ := List.mem_map.1 hr
    exact mem_getD (h.lt j hj)
  · intro r hr
    obtain ⟨j, hj, rfl⟩ := List.mem_map.1 hr
    exact h.path j hj
  · intro r hr d hd hn
    obtain ⟨j, hj, rfl⟩ := List.mem_map.1 hr
    obtain ⟨k, hk, rfl⟩ := getD_mem hd
    obtain ⟨m, hm, e2⟩ := List.mem_iff_getElem.1 hj
    have e3 : L.getD m 0 = j := by simp only [List.getD, List.getElem?_eq_getElem hm, Option.getD_some, e2]
    exact List.mem_map_of_mem (f := fun j => xs.getD j (0, 0)) (h.done m hm k hk (by rw [e3]; exact nearB_symm hn))
/-- How far the program's search over cells has come. -/
structure BfsM (xs R : List (Int × Int)) (n i : Nat) : Prop where
  sub : ∀ r ∈ R, r ∈ xs
  nd : R.Nodup
  head : xs.getD 0 (0, 0) ∈ R
  path : ∀ r ∈ R, PathC xs (xs.getD 0 (0, 0)) r
  done : ∀ m, m < n → ∀ d ∈ nb4 (R.getD m (0, 0)), d ∈ xs → d ∈ R
  part : ∀ j, j < i → (nb4 (R.getD n (0, 0))).getD j (0, 0) ∈ xs → (nb4 (R.getD n (0, 0))).getD j (0, 0) ∈ R
theorem cell_app {R : List (Int × Int)} {m : Nat} {c : Int × Int} (h : m < R.length) : (R ++ [c]).getD m (0, 0) = R.getD m (0, 0) := by
  simp only [List.getD]; rw [List.getElem?_append_left h]
theorem nb4_at {c : Int × Int} {j : Nat} (h : j < 4) : nearB c ((nb4 c).getD j (0, 0)) = true := by
  rw [← mem_nb4]
  exact mem_getD (by show j < 4; exact h)
theorem BfsM.start {xs : List (Int × Int)} (h : 0 < xs.length) : BfsM xs [xs.getD 0 (0, 0)] 0 0 :=
  ⟨fun r hr => by rw [List.mem_singleton] at hr; subst hr; exact mem_getD h, by simp, by simp, fun r hr => by rw [List.mem_singleton] at hr; subst hr; exact .refl, fun m hm => by omega, fun j hj => by omega⟩
theorem BfsM.skip {xs R : List (Int × Int)} {n i : Nat} (h : BfsM xs R n i) (hs : (nb4 (R.getD n (0, 0))).getD i (0, 0) ∈ xs → (nb4 (R.getD n (0, 0))).getD i (0, 0) ∈ R) : BfsM xs R n (i + 1) :=
  ⟨h.sub, h.nd, h.head, h.path, h.done, fun j hj hn => by
    by_cases e : j = i
    · subst e; exact hs hn
    · exact h.part j (by omega) hn⟩
theorem BfsM.add {xs R : List (Int × Int)} {n i : Nat} (h : BfsM xs R n i) (hi : i < 4) (hn : n < R.length) (hx : (nb4 (R.getD n (0, 0))).getD i (0, 0) ∈ xs) (hm : (nb4 (R.getD n (0, 0))).getD i (0, 0) ∉ R) : BfsM xs (R ++ [(nb4 (R.getD n (0, 0))).getD i (0, 0)]) n (i + 1) := by
  refine ⟨fun r hr => ?_, ?_, List.mem_append_left _ h.head, fun r hr => ?_, fun m hmn d hd hdx => ?_, fun j hj hjx => ?_⟩
  · rcases List.mem_append.1 hr with hr | hr
    · exact h.sub r hr
    · rw [List.mem_singleton] at hr; subst hr; exact hx
  · rw [List.nodup_append]
    refine ⟨h.nd, by simp, fun x hx y hy e => ?_⟩
    rw [List.mem_singleton] at hy
    subst hy; subst e; exact hm hx
  · rcases List.mem_append.1 hr with hr | hr
    · exact h.path r hr
    · rw [List.mem_singleton] at hr; subst hr
      exact .step (h.path _ (mem_getD hn)) hx (nb4_at hi)
  · rw [cell_app (by omega)] at hd
    exact List.mem_append_left _ (h.done m hmn d hd hdx)
  · rw [cell_app hn] at hjx ⊢
    by_cases e : j = i
    · subst e; simp
    · exact List.mem_append_left _ (h.part j (by omega) hjx)
theorem BfsM.next {xs R : List (Int × Int)} {n : Nat} (h : BfsM xs R n 4) : BfsM xs R (n + 1) 0 :=
  ⟨h.sub, h.nd, h.head, h.path, fun m hm d hd hdx => by
    by_cases e : m = n
    · subst e
      obtain ⟨j, hj, rfl⟩ := getD_mem hd
      exact h.part j hj hdx
    · exact h.done m (by omega) d hd hdx, fun k hk => by omega⟩
theorem BfsM.len {xs R : List (Int × Int)} {n i : Nat} (h : BfsM xs R n i) : R.length ≤ xs.length := nodup_le _ _ h.nd h.sub
theorem BfsM.finish {xs R : List (Int × Int)} (h : BfsM xs R R.length 0) (h0 : 0 < xs.length) : R.length = xs.length ↔ xs.Nodup ∧ ConnC xs := by
  refine reach_all (mem_getD h0) h.head h.nd h.sub h.path fun r hr d hd hn => ?_
  obtain ⟨m, hm, rfl⟩ := getD_mem hr
  exact h.done m hm d ((mem_nb4 _ _).2 hn) hd
noncomputable def connB (xs : List (Int × Int)) : Bool := propB (ConnC xs)
theorem connB_iff (xs : List (Int × Int)) : connB xs = true ↔ ConnC xs := propB_iff _
noncomputable def hangB2 (xs : List (Int × Int)) : Bool := propB (xs.Nodup ∧ ConnC xs)
theorem hangB2_iff (xs : List (Int × Int)) : hangB2 xs = true ↔ xs.Nodup ∧ ConnC xs := propB_iff _
theorem BfsI.said {xs : List (Int × Int)} {L : List Nat} (h : BfsI xs L L.length 0) (h0 : 0 < xs.length) (hx : xs.Nodup) : decide (L.length = xs.length) = connB xs := by
  have := h.finish h0 hx
  cases e : connB xs with
  | true => rw [decide_eq_true_iff]; exact this.2 ((connB_iff _).1 e)
  | false => rw [decide_eq_false_iff_not]; intro k; rw [(connB_iff _).2 (this.1 k)] at e; cases e
theorem BfsM.said {xs R : List (Int × Int)} (h : BfsM xs R R.length 0) (h0 : 0 < xs.length) : decide (R.length = xs.length) = hangB2 xs := by
  have := h.finish h0
  cases e : hangB2 xs with
  | true => rw [decide_eq_true_iff]; exact this.2 ((hangB2_iff _).1 e)
  | false => rw [decide_eq_false_iff_not]; intro k; rw [(hangB2_iff _).2 (this.1 k)] at e; cases e
end Go.Proofs.Ytmcjichpeijiaaa
