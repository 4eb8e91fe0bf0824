/- Plain facts on bodies put down, turned, mirrored and tumbled, and on their ground. No program stands here. -/
import Derived.Test.YtmcjichpeijiaaaBoP
import Derived.Test.YtmcjichpeijiaaaScan
namespace Go.Proofs.Ytmcjichpeijiaaa
/-- A cell put to its place. -/
def putL (ys : List (Int × Int)) (c : Int × Int) : List (Int × Int) := ys.takeWhile (fun y => bfC y c) ++ c :: ys.dropWhile (fun y => bfC y c)
/-- Cells in order. -/
def sortL (xs : List (Int × Int)) : List (Int × Int) := xs.foldl putL []
theorem sortL_snoc (xs : List (Int × Int)) (c : Int × Int) : sortL (xs ++ [c]) = putL (sortL xs) c := by simp [sortL, List.foldl_append]
theorem putL_perm (ys : List (Int × Int)) (c : Int × Int) : (putL ys c).Perm (ys ++ [c]) := by
  unfold putL
  refine List.perm_middle.trans ?_
  rw [List.takeWhile_append_dropWhile]
  exact (List.perm_append_singleton c ys).symm
theorem putL_len (ys : List (Int × Int)) (c : Int × Int) : (putL ys c).length = ys.length + 1 := by rw [(putL_perm ys c).length_eq]; simp
theorem sortL_perm (xs : List (Int × Int)) : (sortL xs).Perm xs := by
  have key : ∀ (l acc : List (Int × Int)), (l.foldl putL acc).Perm (acc ++ l) := by
    intro l
    induction l with
    | nil => intro acc; simp
    | cons x m ih =>
      intro acc
      refine (ih (putL acc x)).trans ?_
      have := (putL_perm acc x).append_right m
      simpa using this
  have := key xs []
  unfold sortL; simpa using this
theorem sortL_len (xs : List (Int × Int)) : (sortL xs).length = xs.length := (sortL_perm xs).length_eq
/-- What does not fall. -/
def SortW (xs : List (Int × Int)) : Prop := xs.Pairwise fun a b => bfC b a = false
theorem bfC_asym {a b : Int × Int} (h : bfC a b = true) : bfC b a = false := by rw [bfC_iff] at h; rw [bfC_not]; omega
theorem RiseC.weak {xs : List (Int × Int)} (h : RiseC xs) : SortW xs := List.Pairwise.imp (fun hab => bfC_asym hab) h
theorem SortW.rise {xs : List (Int × Int)} (h : SortW xs) (hn : xs.Nodup) : RiseC xs := by
  have := List.Pairwise.and h hn
  refine List.Pairwise.imp (fun {a b} hab => ?_) this
  cases e : bfC a b with
  | true => rfl
  | false => exact absurd (bfC_tri e hab.1) hab.2
theorem putL_sort {ys : List (Int × Int)} (h : SortW ys) (c : Int × Int) : SortW (putL ys c) := by
  unfold putL
  induction ys with
  | nil => simp [SortW]
  | cons y l ih =>
    unfold SortW at h ih ⊢
    rw [List.pairwise_cons] at h
    cases e : bfC y c with
    | true =>
      rw [List.takeWhile_cons_of_pos (by exact e), List.dropWhile_cons_of_pos (by exact e), List.cons_append, List.pairwise_cons]
      refine ⟨fun z hz => ?_, ih h.2⟩
      have hm : z ∈ l ++ [c] := (putL_perm l c).mem_iff.1 hz
      rcases List.mem_append.1 hm with hz | hz
      · exact h.1 z hz
      · simp at hz; subst hz; exact bfC_asym e
    | false =>
      rw [List.takeWhile_cons_of_neg (by simp [e]), List.dropWhile_cons_of_neg (by simp [e]), List.nil_append, List.pairwise_cons]
      refine ⟨fun z hz => ?_, List.pairwise_cons.2 h⟩
      rcases List.mem_cons.1 hz with rfl | hz
      · exact e
      · have a1 := h.1 z hz
        rw [bfC_not] at *; omega
theorem sortL_sort (xs : List (Int × Int)) : SortW (sortL xs) := by
  have key : ∀ (l acc : List (Int × Int)), SortW acc → SortW (l.foldl putL acc) := by
    intro l
    induction l with
    | nil => intro acc h; exact h
    | cons x m ih => intro acc h; exact ih _ (putL_sort h x)
  exact key xs [] List.Pairwise.nil
/-- Two lists that do not fall, one the other in another order, are one. -/
theorem sort_same : ∀ (xs ys : List (Int × Int)), SortW xs → SortW ys → xs.Perm ys → xs = ys := by
  intro xs
  induction xs with
  | nil => intro ys _ _ h; exact (List.nil_perm.1 h).symm
  | cons x l ih =>
    intro ys hx hy h
    cases ys with
    | nil => exact absurd h.length_eq (by simp)
    | cons y m =>
      unfold SortW at hx hy
      rw [List.pairwise_cons] at hx hy
      have e : x = y := by
        rcases List.mem_cons.1 (h.mem_iff.1 (List.mem_cons_self (a := x) (l := l))) with e | hxm
        · exact e
        · rcases List.mem_cons.1 (h.mem_iff.2 (List.mem_cons_self (a := y) (l := m))) with e | hyl
          · exact e.symm
          · exact bfC_tri (hy.1 x hxm) (hx.1 y hyl)
      subst e
      rw [ih m hx.2 hy.2 (List.Perm.cons_inv h)]
theorem sortL_eq {xs ys : List (Int × Int)} (h : SortW ys) (hp : ys.Perm xs) : ys = sortL xs := sort_same _ _ h (sortL_sort xs) (hp.trans (sortL_perm xs).symm)
theorem sortL_of {xs ys : List (Int × Int)} (hp : xs.Perm ys) : sortL xs = sortL ys := sortL_eq (sortL_sort xs) ((sortL_perm xs).trans hp)
/-- A cell moved. -/
def mvC (a b : Int) (c : Int × Int) : Int × Int := (c.1 + a, c.2 + b)
theorem mvC_inj {a b : Int} {c d : Int × Int} (h : mvC a b c = mvC a b d) : c = d := by
  unfold mvC at h
  have h1 := congrArg Prod.fst h
  have h2 := congrArg Prod.snd h
  simp only at h1 h2
  exact cell_ext (by omega) (by omega)
theorem mvC_near (a b : Int) (c d : Int × Int) : nearB (mvC a b c) (mvC a b d) = nearB c d := by
  unfold nearB mvC; congr 2; simp only; rw [show c.1 + a - (d.1 + a) = c.1 - d.1 by omega, show c.2 + b - (d.2 + b) = c.2 - d.2 by omega]
def downM (xs : List (Int × Int)) : List (Int × Int) := xs.map (mvC (-mnF Prod.fst xs) (-mnF Prod.snd xs))
/-- Cells put down. -/
def downL (xs : List (Int × Int)) : List (Int × Int) := sortL (downM xs)
theorem downL_len (xs : List (Int × Int)) : (downL xs).length = xs.length := by unfold downL downM; rw [sortL_len, List.length_map]
theorem downL_perm (xs : List (Int × Int)) : (downL xs).Perm (downM xs) := sortL_perm _
theorem downL_of {xs ys : List (Int × Int)} (hp : xs.Perm ys) : downL xs = downL ys := by
  unfold downL
  refine sortL_of ?_
  unfold downM
  by_cases h : xs = []
  · subst h
    rw [List.nil_perm.1 hp]
  · rw [mnF_same Prod.fst h (fun c => hp.mem_iff), mnF_same Prod.snd h (fun c => hp.mem_iff)]
    exact hp.map _
theorem mnF_map (f : Int × Int → Int) (g : Int × Int → Int × Int) (k : Int) (h : ∀ c, f (g c) = f c + k) : ∀ xs : List (Int × Int), xs ≠ [] → mnF f (xs.map g) = mnF f xs + k := by
  intro xs
  induction xs with
  | nil => intro h; exact absurd rfl h
  | cons x l ih =>
    intro _
    cases l with
    | nil => exact h x
    | cons y m =>
      rw [List.map_cons, mnF_cons f _ _ (by simp), ih (by simp), mnF_cons f x _ (by simp), h]
      omega
theorem downL_mv (a b : Int) (xs : List (Int × Int)) : downL (xs.map (mvC a b)) = downL xs := by
  by_cases h : xs = []
  · subst h; rfl
  · unfold downL downM
    rw [mnF_map Prod.fst (mvC a b) a (fun c => rfl) xs h, mnF_map Prod.snd (mvC a b) b (fun c => rfl) xs h, List.map_map]
    congr 1
    refine List.map_congr_left fun c _ => ?_
    unfold mvC
    simp only [Function.comp]
    exact cell_ext (by simp only; omega) (by simp only; omega)
/-- A change of cells that keeps neighbors and moves what is moved. -/
structure IsoC (f : Int × Int → Int × Int) : Prop where
  near : ∀ c d, nearB (f c) (f d) = nearB c d
  inj : ∀ c d, f c = f d → c = d
  lin : ∀ a b, ∃ a' b', ∀ c, f (mvC a b c) = mvC a' b' (f c)
theorem downL_down {f : Int × Int → Int × Int} (hf : IsoC f) (xs : List (Int × Int)) : downL ((downL xs).map f) = downL (xs.map f) := by
  rw [downL_of ((downL_perm xs).map f)]
  unfold downM
  obtain ⟨a, b, h⟩ := hf.lin (-mnF Prod.fst xs) (-mnF Prod.snd xs)
  rw [List.map_map, show xs.map (f ∘ mvC (-mnF Prod.fst xs) (-mnF Prod.snd xs)) = (xs.map f).map (mvC a b) from by
    rw [List.map_map]; exact List.map_congr_left fun c _ => h c, downL_mv]
theorem mem_downM {xs : List (Int × Int)} {d : Int × Int} : d ∈ downL xs ↔ ∃ c ∈ xs, mvC (-mnF Prod.fst xs) (-mnF Prod.snd xs) c = d := by
  rw [(downL_perm xs).mem_iff]; unfold downM; rw [List.mem_map]
theorem conn_map {f : Int × Int → Int × Int} (hn : ∀ c d, nearB (f c) (f d) = nearB c d) (hi : ∀ c d, f c = f d → c = d) {xs : List (Int × Int)} : ConnC (xs.map f) ↔ ConnC xs := by
  constructor
  · intro h
    have back : ∀ c d, PathC (xs.map f) c d → ∀ a, a ∈ xs → f a = c → ∃ b ∈ xs, f b = d ∧ PathC xs a b := by
      intro c d hp
      induction hp with
      | refl => intro a ha e; exact ⟨a, ha, e, .refl⟩
      | step _ he hd ih =>
        intro a ha e
        obtain ⟨b, hb, rfl, hpb⟩ := ih a ha e
        obtain ⟨g, hg, rfl⟩ := List.mem_map.1 he
        exact ⟨g, hg, rfl, .step hpb hg (by rw [← hn]; exact hd)⟩
    intro c hc d hd
    obtain ⟨b, _, e, hp⟩ := back _ _ (h (f c) (List.mem_map_of_mem hc) (f d) (List.mem_map_of_mem hd)) c hc rfl
    rw [← hi _ _ e]; exact hp
  · intro h
    exact h.image f (fun d => List.mem_map) (fun c d h => by rw [hn]; exact h)
theorem nodup_map {f : Int × Int → Int × Int} (hi : ∀ c d, f c = f d → c = d) {xs : List (Int × Int)} : (xs.map f).Nodup ↔ xs.Nodup := by
  unfold List.Nodup
  rw [List.pairwise_map]
  constructor
  · exact List.Pairwise.imp (fun h e => h (by rw [e]))
  · exact List.Pairwise.imp (fun h e => h (hi _ _ e))
/-- When cells that are put down are a body. -/
theorem down_bod {xs : List (Int × Int)} : BodF (downL xs) ↔ (1 ≤ xs.length ∧ xs.length ≤ 12) ∧ xs.Nodup ∧ ConnC xs := by
  have hm : ∀ c, c ∈ downL xs ↔ c ∈ downM xs := fun c => (downL_perm xs).mem_iff
  have hc : ConnC (downL xs) ↔ ConnC xs := by
    have hcm := conn_map (f := mvC (-mnF Prod.fst xs) (-mnF Prod.snd xs)) (mvC_near _ _) (fun _ _ => mvC_inj) (xs := xs)
    exact ⟨fun h => hcm.1 (ConnC.same h hm), fun h => ConnC.same (hcm.2 h) fun c => (hm c).symm⟩
  have hn : (downL xs).Nodup ↔ xs.Nodup := by
    rw [(downL_perm xs).nodup_iff]
    exact nodup_map (fun _ _ => mvC_inj)
  constructor
  · intro h
    refine ⟨?_, hn.1 h.rise.nodup, hc.1 h.conn⟩
    have := h.one; have := h.short
    rw [downL_len] at *; omega
  · rintro ⟨⟨h1, h2⟩, h3, h4⟩
    have hne : xs ≠ [] := by intro e; subst e; simp at h1
    obtain ⟨c, hcx, e1⟩ := mnF_mem Prod.fst xs hne
    obtain ⟨d, hdx, e2⟩ := mnF_mem Prod.snd xs hne
    refine ⟨by rw [downL_len]; exact h1, by rw [downL_len]; exact h2, (sortL_sort _).rise (hn.2 h3), fun e he => ?_, ⟨_, mem_downM.2 ⟨c, hcx, rfl⟩, ?_⟩, ⟨_, mem_downM.2 ⟨d, hdx, rfl⟩, ?_⟩, hc.2 h4⟩
    · obtain ⟨g, hg, rfl⟩ := mem_downM.1 he
      have a1 := mnF_le Prod.fst xs g hg
      have a2 := mnF_le Prod.snd xs g hg
      unfold mvC; simp only; omega
    · unfold mvC; simp only; omega
    · unfold mvC; simp only; omega
theorem BodF.ne {xs : List (Int × Int)} (h : BodF xs) : xs ≠ [] := by intro e; subst e; have := h.one; simp at this
theorem BodF.same_down {xs : List (Int × Int)} (h : BodF xs) : downL xs = xs := by
  unfold downL downM
  rw [h.mins.1, h.mins.2, show xs.map (mvC (-0) (-0)) = xs from by
    rw [show (mvC (-0) (-0)) = id from funext fun c => cell_ext (by simp [mvC]) (by simp [mvC])]; simp]
  exact (sortL_eq h.rise.weak (List.Perm.refl _)).symm
theorem iso_bod {f : Int × Int → Int × Int} (hf : IsoC f) {xs : List (Int × Int)} (h : BodF xs) : BodF (downL (xs.map f)) := by
  rw [down_bod]
  exact ⟨by rw [List.length_map]; exact ⟨h.one, h.short⟩, (nodup_map hf.inj).2 h.rise.nodup, (conn_map hf.near hf.inj).2 h.conn⟩
theorem IsoC.comp {f g : Int × Int → Int × Int} (hf : IsoC f) (hg : IsoC g) : IsoC (f ∘ g) :=
  ⟨fun c d => by simp only [Function.comp, hf.near, hg.near], fun c d e => hg.inj _ _ (hf.inj _ _ e), fun a b => by
    obtain ⟨a1, b1, h1⟩ := hg.lin a b
    obtain ⟨a2, b2, h2⟩ := hf.lin a1 b1
    exact ⟨a2, b2, fun c => by simp only [Function.comp, h1, h2]⟩⟩
/-- A cell turned to a side, and mirrored. -/
def tuC (s : Int) (c : Int × Int) : Int × Int := (s * c.2, -s * c.1)
def miC (c : Int × Int) : Int × Int := (-c.1, c.2)
theorem tuC_iso (s : Int) (hs : s = 1 ∨ s = -1) : IsoC (tuC s) := by
  rcases hs with rfl | rfl
  · refine ⟨fun c d => ?_, fun c d e => ?_, fun a b => ⟨b, -a, fun c => ?_⟩⟩
    · unfold nearB tuC; congr 1; simp only; apply propext; omega
    · unfold tuC at e
      have h1 := congrArg Prod.fst e
      have h2 := congrArg Prod.snd e
      simp only at h1 h2
      exact cell_ext (by omega) (by omega)
    · unfold tuC mvC; exact cell_ext (by simp only; omega) (by simp only; omega)
  · refine ⟨fun c d => ?_, fun c d e => ?_, fun a b => ⟨-b, a, fun c => ?_⟩⟩
    · unfold nearB tuC; congr 1; simp only; apply propext; omega
    · unfold tuC at e
      have h1 := congrArg Prod.fst e
      have h2 := congrArg Prod.snd e
      simp only at h1 h2
      exact cell_ext (by omega) (by omega)
    · unfold tuC mvC; exact cell_ext (by simp only; omega) (by simp only; omega)
theorem miC_iso : IsoC miC := by
  refine ⟨fun c d => ?_, fun c d e => ?_, fun a b => ⟨-a, b, fun c => ?_⟩⟩
  · unfold nearB miC; congr 1; simp only; apply propext; omega
  · unfold miC at e
    have h1 := congrArg Prod.fst e
    have h2 := congrArg Prod.snd e
    simp only at h1 h2
    exact cell_ext (by omega) (by omega)
  · unfold miC mvC; exact cell_ext (by simp only; omega) rfl
def turnL (s : Int) (xs : List (Int × Int)) : List (Int × Int) := downL (xs.map (tuC s))
def mirL (xs : List (Int × Int)) : List (Int × Int) := downL (xs.map miC)
theorem turnL_bod {s : Int} (hs : s = 1 ∨ s = -1) {xs : List (Int × Int)} (h : BodF xs) : BodF (turnL s xs) := iso_bod (tuC_iso s hs) h
theorem mirL_bod {xs : List (Int × Int)} (h : BodF xs) : BodF (mirL xs) := iso_bod miC_iso h
theorem turn_turn {s t : Int} (hs : s = 1 ∨ s = -1) (xs : List (Int × Int)) : turnL s (turnL t xs) = downL (xs.map (tuC s ∘ tuC t)) := by
  unfold turnL; rw [downL_down (tuC_iso s hs), List.map_map]
theorem turn_back {s : Int} (hs : s = 1 ∨ s = -1) {xs : List (Int × Int)} (h : BodF xs) : turnL (-s) (turnL s xs) = xs := by
  rw [turn_turn (by omega), show xs.map (tuC (-s) ∘ tuC s) = xs from by
    rw [show tuC (-s) ∘ tuC s = id from funext fun c => by rcases hs with rfl | rfl <;> exact cell_ext (by simp [tuC]) (by simp [tuC])]; simp]
  exact h.same_down
/-- Turned to the right so often. -/
def rotL (xs : List (Int × Int)) : Nat → List (Int × Int)
  | 0 => xs
  | n + 1 => turnL 1 (rotL xs n)
theorem rotL_bod {xs : List (Int × Int)} (h : BodF xs) : ∀ n, BodF (rotL xs n) := by
  intro n
  induction n with
  | zero => exact h
  | succ n ih => exact turnL_bod (.inl rfl) ih
theorem rot_four {xs : List (Int × Int)} (h : BodF xs) : rotL xs 4 = xs := by
  show turnL 1 (turnL 1 (turnL 1 (turnL 1 xs))) = xs
  rw [turn_turn (.inl rfl) xs, turn_turn (.inl rfl)]
  rw [downL_down ((tuC_iso 1 (.inl rfl)).comp (tuC_iso 1 (.inl rfl))), List.map_map, show xs.map ((tuC 1 ∘ tuC 1) ∘ tuC 1 ∘ tuC 1) = xs from by
    rw [show (tuC 1 ∘ tuC 1) ∘ tuC 1 ∘ tuC 1 = id from funext fun c => cell_ext (by simp [tuC]) (by simp [tuC])]; simp]
  exact h.same_down
theorem turn_left {xs : List (Int × Int)} (h : BodF xs) (n : Nat) : turnL (-1) (rotL xs (n + 1)) = rotL xs n := by
  have := turn_back (s := 1) (.inl rfl) (rotL_bod h n)
  exact this
theorem turn_left0 {xs : List (Int × Int)} (h : BodF xs) : turnL (-1) xs = rotL xs 3 := by
  have := turn_left h 3
  rw [rot_four h] at this
  exact this
/-- Two times the middles of all cells, summed. -/
def midF (f : Int × Int → Int) : List (Int × Int) → Int
  | [] => 0
  | x :: l => (2 * f x + 1) + midF f l
theorem midF_snoc (f : Int × Int → Int) (xs : List (Int × Int)) (x : Int × Int) : midF f (xs ++ [x]) = midF f xs + 2 * f x + 1 := by
  induction xs with
  | nil => simp [midF]
  | cons y l ih => simp only [List.cons_append, midF, ih]; omega
theorem midF_take (f : Int × Int → Int) (xs : List (Int × Int)) (k : Nat) (hk : k < xs.length) : midF f (xs.take (k + 1)) = midF f (xs.take k) + 2 * f (xs.getD k (0, 0)) + 1 := by
  rw [show xs.take (k + 1) = xs.take k ++ [xs.getD k (0, 0)] from by rw [List.take_add_one, List.getElem?_eq_getElem hk, List.getD, List.getElem?_eq_getElem hk]; rfl, midF_snoc]
theorem midF_bound (f : Int × Int → Int) (m : Int) (xs : List (Int × Int)) (h : ∀ c ∈ xs, -m ≤ f c ∧ f c ≤ m) : -(2 * m * xs.length) ≤ midF f xs ∧ midF f xs ≤ (2 * m + 1) * xs.length := by
  induction xs with
  | nil => simp [midF]
  | cons x l ih =>
    have h1 := h x (by simp)
    have h2 := ih fun c hc => h c (by simp [hc])
    simp only [midF, List.length_cons]
    have e1 : (2 * m * ((l.length + 1 : Nat) : Int)) = 2 * m * l.length + 2 * m := by rw [Int.natCast_add, Int.mul_add]; simp
    have e2 : ((2 * m + 1) * ((l.length + 1 : Nat) : Int)) = (2 * m + 1) * l.length + (2 * m + 1) := by rw [Int.natCast_add, Int.mul_add]; simp
    omega
/-- Where the ground begins and ends, told as the cells come. -/
def gloF (xs : List (Int × Int)) : Int := xs.foldl (fun l c => if c.2 = 0 ∧ l < 0 then c.1 else l) (-1)
def ghiF (xs : List (Int × Int)) : Int := xs.foldl (fun h c => if c.2 = 0 then c.1 + 1 else h) (-1)
theorem gloF_snoc (xs : List (Int × Int)) (c : Int × Int) : gloF (xs ++ [c]) = if c.2 = 0 ∧ gloF xs < 0 then c.1 else gloF xs := by unfold gloF; rw [List.foldl_append]; rfl
theorem ghiF_snoc (xs : List (Int × Int)) (c : Int × Int) : ghiF (xs ++ [c]) = if c.2 = 0 then c.1 + 1 else ghiF xs := by unfold ghiF; rw [List.foldl_append]; rfl
theorem take_snocC (xs : List (Int × Int)) (k : Nat) (hk : k < xs.length) : xs.take (k + 1) = xs.take k ++ [xs.getD k (0, 0)] := by rw [List.take_add_one, List.getElem?_eq_getElem hk, List.getD, List.getElem?_eq_getElem hk]; rfl
/-- The side outside of a range. -/
def ovF (sum n lo hi : Int) : Int := if sum < 2 * n * lo then -1 else if 2 * n * hi < sum then 1 else 0
def sideL (xs : List (Int × Int)) : Int := ovF (midF Prod.fst xs) xs.length (gloF xs) (ghiF xs)
theorem ovF_is (s n l h : Int) : ovF s n l h = 0 ∨ ovF s n l h = 1 ∨ ovF s n l h = -1 := by unfold ovF; split <;> (try split) <;> simp
/-- What the ground is: the least and the greatest x of cells below. -/
theorem ground_is : ∀ (k : Nat) (xs : List (Int × Int)), xs.length = k → RiseC xs → (∀ c ∈ xs, 0 ≤ c.1) → 
    ((∀ c ∈ xs, c.2 ≠ 0) ∧ gloF xs = -1 ∧ ghiF xs = -1) ∨ ((gloF xs, 0) ∈ xs ∧ (ghiF xs - 1, 0) ∈ xs ∧ ∀ c ∈ xs, c.2 = 0 → gloF xs ≤ c.1 ∧ c.1 ≤ ghiF xs - 1) := by
  intro k
  induction k with
  | zero =>
    intro xs hl _ _
    rw [List.length_eq_zero_iff] at hl
    subst hl
    exact .inl ⟨by simp, rfl, rfl⟩
  | succ k ih =>
    intro xs hl hr h0
    have hne : xs ≠ [] := by intro e; subst e; simp at hl
    have e := List.dropLast_concat_getLast hne
    generalize xs.getLast hne = c at e
    generalize xs.dropLast = l at e
    subst e
    unfold RiseC at hr
    rw [List.pairwise_append] at hr
    obtain ⟨r1, _, r3⟩ := hr
    have hc0 := h0 c (by simp)
    rw [gloF_snoc, ghiF_snoc]
    rcases ih l (by simp at hl; omega) r1 (fun d hd => h0 d (by simp [hd])) with ⟨a1, a2, a3⟩ | ⟨a1, a2, a3⟩
    · by_cases hc : c.2 = 0
      · rw [a2, if_pos ⟨hc, by omega⟩, if_pos hc]
        refine .inr ⟨?_, ?_, fun d hd hd0 => ?_⟩
        · rw [List.mem_append]; right; rw [List.mem_singleton]; exact cell_ext rfl hc.symm
        · rw [List.mem_append]; right; rw [List.mem_singleton]; exact cell_ext (by simp only; omega) hc.symm
        · rcases List.mem_append.1 hd with h | h
          · exact absurd hd0 (a1 d h)
          · simp at h; subst h; omega
      · rw [if_neg (by intro h; exact hc h.1), if_neg hc]
        refine .inl ⟨fun d hd => ?_, a2, a3⟩
        rcases List.mem_append.1 hd with h | h
        · exact a1 d h
        · simp at h; subst h; exact hc
    · have hg0 := h0 _ (List.mem_append_left [c] a1)
      simp only at hg0
      rw [if_neg (by omega)]
      by_cases hc : c.2 = 0
      · rw [if_pos hc]
        refine .inr ⟨by simp [a1], ?_, fun d hd hd0 => ?_⟩
        · rw [List.mem_append]; right; rw [List.mem_singleton]; exact cell_ext (by simp only; omega) hc.symm
        · rcases List.mem_append.1 hd with h | h
          · have b1 := a3 d h hd0
            have b2 := r3 d h c (by simp)
            rw [bfC_iff] at b2; omega
          · simp at h; subst h
            have b2 := r3 _ a1 d (by simp)
            rw [bfC_iff] at b2
            simp only at b2; omega
      · rw [if_neg hc]
        refine .inr ⟨by simp [a1], by simp [a2], fun d hd hd0 => ?_⟩
        rcases List.mem_append.1 hd with h | h
        · exact a3 d h hd0
        · simp at h; subst h; exact absurd hd0 hc
theorem BodF.ground {xs : List (Int × Int)} (h : BodF xs) : (gloF xs, 0) ∈ xs ∧ (ghiF xs - 1, 0) ∈ xs ∧ ∀ c ∈ xs, c.2 = 0 → gloF xs ≤ c.1 ∧ c.1 ≤ ghiF xs - 1 := by
  rcases ground_is _ xs rfl h.rise (fun c hc => (h.lo c hc).1) with ⟨a, _, _⟩ | h'
  · obtain ⟨d, hd, e⟩ := h.down
    exact absurd e (a d hd)
  · exact h'
/-- What tumbles comes to stand within three turns, or never. -/
def tumL (xs : List (Int × Int)) : Nat → List (Int × Int)
  | 0 => xs
  | n + 1 => turnL (sideL (tumL xs n)) (tumL xs n)
theorem tum_four {xs : List (Int × Int)} (h : BodF xs) (h0 : sideL (tumL xs 0) ≠ 0) (h1 : sideL (tumL xs 1) ≠ 0) (h2 : sideL (tumL xs 2) ≠ 0) (h3 : sideL (tumL xs 3) ≠ 0) : sideL (tumL xs 4) ≠ 0 := by
  have s : ∀ n, sideL (rotL xs n) = 0 ∨ sideL (rotL xs n) = 1 ∨ sideL (rotL xs n) = -1 := fun n => ovF_is _ _ _ _
  have r : ∀ n k, tumL xs n = rotL xs k → sideL (rotL xs k) = 1 → tumL xs (n + 1) = rotL xs (k + 1) := fun n k e g => by
    rw [tumL, e, g]; rfl
  have l : ∀ n k, tumL xs n = rotL xs (k + 1) → sideL (rotL xs (k + 1)) = -1 → tumL xs (n + 1) = rotL xs k := fun n k e g => by
    rw [tumL, e, g, turn_left h]
  have l0 : ∀ n, tumL xs n = rotL xs 0 → sideL (rotL xs 0) = -1 → tumL xs (n + 1) = rotL xs 3 := fun n e g => by
    rw [tumL, e, g]; exact turn_left0 h
  have r3 : ∀ n, tumL xs n = rotL xs 3 → sideL (rotL xs 3) = 1 → tumL xs (n + 1) = rotL xs 0 := fun n e g => by
    rw [r n 3 e g, rot_four h]; rfl
  have e0 : tumL xs 0 = rotL xs 0 := rfl
  have hs : ∀ n k, tumL xs n = rotL xs k → sideL (tumL xs n) ≠ 0 → sideL (rotL xs k) = 1 ∨ sideL (rotL xs k) = -1 := fun n k e g => by
    rw [e] at g
    rcases s k with a | a
    · exact absurd a g
    · exact a
  rcases hs 0 0 e0 h0 with g0 | g0
  · have e1 := r 0 0 e0 g0
    rcases hs 1 1 e1 h1 with g1 | g1
    · have e2 := r 1 1 e1 g1
      rcases hs 2 2 e2 h2 with g2 | g2
      · have e3 := r 2 2 e2 g2
        rcases hs 3 3 e3 h3 with g3 | g3
        · rw [r3 3 e3 g3, g0]; decide
        · rw [l 3 2 e3 g3, g2]; decide
      · have e3 := l 2 1 e2 g2
        rw [r 3 1 e3 g1, g2]; decide
    · have e2 := l 1 0 e1 g1
      have e3 := r 2 0 e2 g0
      rw [l 3 0 e3 g1, g0]; decide
  · have e1 := l0 0 e0 g0
    rcases hs 1 3 e1 h1 with g1 | g1
    · have e2 := r3 1 e1 g1
      have e3 := l0 2 e2 g0
      rw [r3 3 e3 g1, g0]; decide
    · have e2 := l 1 2 e1 g1
      rcases hs 2 2 e2 h2 with g2 | g2
      · have e3 := r 2 2 e2 g2
        rw [l 3 2 e3 g1, g2]; decide
      · have e3 := l 2 1 e2 g2
        rcases hs 3 1 e3 h3 with g3 | g3
        · rw [r 3 1 e3 g3, g2]; decide
        · rw [l 3 0 e3 g3, g0]; decide
theorem tumL_bod {xs : List (Int × Int)} (h : BodF xs) : ∀ n, (∀ k, k < n → sideL (tumL xs k) ≠ 0) → BodF (tumL xs n) := by
  intro n
  induction n with
  | zero => intro _; exact h
  | succ n ih =>
    intro hk
    have h1 := ih fun k hkn => hk k (by omega)
    have h2 := hk n (by omega)
    rcases ovF_is (midF Prod.fst (tumL xs n)) (tumL xs n).length (gloF (tumL xs n)) (ghiF (tumL xs n)) with e | e
    · exact absurd e h2
    · exact turnL_bod e h1
end Go.Proofs.Ytmcjichpeijiaaa
