/- Rods in memory: what they hold, and their weights. No program stands here. -/
import Derived.Test.YtnadchgekfljkaaHangP
import Derived.Test.YtnadchgekfljkaaMob2
namespace Go.Proofs.Ytnadchgekfljkaa
open Go.RowKit
theorem wsM_step (m : MobV) (k j : Nat) : wsM m (k + 1) j = if j = m.am.length - 1 - k then atM (hvM m (2 * (m.am.length - 1 - k))) (wsM m k) + atM (hvM m (2 * (m.am.length - 1 - k) + 1)) (wsM m k) else wsM m k j := rfl
theorem wsM_keep (m : MobV) (k j : Nat) (hj : m.am.length ≤ j + k) : ∀ d, k + d ≤ m.am.length → wsM m (k + d) j = wsM m k j := by
  intro d
  induction d with
  | zero => intro _; rfl
  | succ d ih =>
    intro hd
    rw [show k + (d + 1) = (k + d) + 1 by omega, wsM_step, if_neg (by omega)]
    exact ih (by omega)
theorem wsM_wt (m : MobV) (k j : Nat) (hj : m.am.length ≤ j + k) (hk : k ≤ m.am.length) : wsM m k j = wtM m j := by
  unfold wtM
  have := wsM_keep m k j hj (m.am.length - k) (by omega)
  rw [show k + (m.am.length - k) = m.am.length by omega] at this
  exact this.symm
theorem wtM_eq {m : MobV} (hf : MobF m) (i : Nat) (hi : i < m.am.length) : wtM m i = atM (hvM m (2 * i)) (wtM m) + atM (hvM m (2 * i + 1)) (wtM m) := by
  have at_eq : ∀ t, t < 2 * m.am.length → t / 2 = i → atM (hvM m t) (wsM m (m.am.length - 1 - i)) = atM (hvM m t) (wtM m) := by
    intro t ht hti
    unfold atM
    by_cases h : hvM m t < 0
    · rw [if_pos h, if_pos h]
      have := (hf.ends t ht).2
      exact wsM_wt m _ _ (by omega) (by omega)
    · rw [if_neg h, if_neg h]
  rw [← wsM_wt m (m.am.length - 1 - i + 1) i (by omega) (by omega), wsM_step, if_pos (by omega), show m.am.length - 1 - (m.am.length - 1 - i) = i by omega, at_eq _ (by omega) (by omega), at_eq _ (by omega) (by omega)]
/-- What rods hold, end by end: arms, leaves (0 where a rod hangs), and the rods that hang there (0: none). -/
structure RodF where
  ar : Nat → Int
  le : Nat → Int
  be : Nat → Nat
def rodF (m : MobV) : RodF := ⟨avM m, fun t => if 0 < hvM m t then hvM m t else 0, fun t => (-hvM m t).toNat⟩
def ptrR (b : Nat → Nat) (k : Nat) : Value := .pointer (if k = 0 then none else some ⟨b k, 0, none⟩)
theorem ptrR_none (b : Nat → Nat) {k : Nat} (h : k = 0) : ptrR b k = .pointer none := by unfold ptrR; rw [if_pos h]
theorem ptrR_some (b : Nat → Nat) {k : Nat} (h : k ≠ 0) : ptrR b k = .pointer (some ⟨b k, 0, none⟩) := by unfold ptrR; rw [if_neg h]
/-- Block g is a rod; its arms, leaves and rods by ends. -/
structure RodAt (w : World) (b : Nat → Nat) (g : Nat) (nu : Int) (a l : Nat → Int) (r : Nat → Nat) : Prop where
  num : w.cell? ⟨g, 0, none⟩ = some (.int .i64 nu)
  arm : ∀ e, e < 2 → w.cell? ⟨g, 1 + e, none⟩ = some (.int .i64 (a e))
  leaf : ∀ e, e < 2 → w.cell? ⟨g, 3 + e, none⟩ = some (.int .i64 (l e))
  below : ∀ e, e < 2 → w.cell? ⟨g, 5 + e, none⟩ = some (ptrR b (r e))
  fz : ∀ j, w.frozen? ⟨g, j, none⟩ = false
  lt : g < w.heap.size
theorem RodAt.keep {w w' : World} {b : Nat → Nat} {g : Nat} {nu : Int} {a l : Nat → Int} {r : Nat → Nat} (h : RodAt w b g nu a l r) (hs : w.heap.size ≤ w'.heap.size) (hc : w'.heap[g]? = w.heap[g]?) : RodAt w' b g nu a l r := by
  have e : ∀ j, w'.cell? ⟨g, j, none⟩ = w.cell? ⟨g, j, none⟩ := fun j => World.cell?_of_block hc
  have f : ∀ j, w'.frozen? ⟨g, j, none⟩ = w.frozen? ⟨g, j, none⟩ := fun j => World.frozen?_of_block hc
  exact ⟨(e 0).trans h.num, fun j hj => (e _).trans (h.arm j hj), fun j hj => (e _).trans (h.leaf j hj), fun j hj => (e _).trans (h.below j hj), fun j => (f j).trans (h.fz j), Nat.lt_of_lt_of_le h.lt hs⟩
theorem RodAt.congr {w : World} {b b' : Nat → Nat} {g : Nat} {nu : Int} {a l a' l' : Nat → Int} {r r' : Nat → Nat} (h : RodAt w b g nu a l r) (ha : ∀ e, e < 2 → a e = a' e) (hl : ∀ e, e < 2 → l e = l' e) (hr : ∀ e, e < 2 → ptrR b (r e) = ptrR b' (r' e)) : RodAt w b' g nu a' l' r' :=
  ⟨h.num, fun e he => by rw [← ha e he]; exact h.arm e he, fun e he => by rw [← hl e he]; exact h.leaf e he, fun e he => by rw [← hr e he]; exact h.below e he, h.fz, h.lt⟩
/-- A cell of a rod is set. -/
theorem cell_set (w : World) (g o : Nat) (u : Value) {x : Value} (h1 : w.cell? ⟨g, o, none⟩ = some x) : (w.setCell ⟨g, o, none⟩ u).cell? ⟨g, o, none⟩ = some u := World.cell?_setCell_same' _ _ _ (by rw [h1]; rfl)
theorem cell_keep (w : World) (g o : Nat) (u : Value) (j : Nat) (h : j ≠ o) : (w.setCell ⟨g, o, none⟩ u).cell? ⟨g, j, none⟩ = w.cell? ⟨g, j, none⟩ :=
  World.cell?_setCell_other _ _ _ _ (fun hh => h (congrArg Addr.off hh).symm)
theorem RodAt.set_leaf {w : World} {b : Nat → Nat} {g : Nat} {nu : Int} {a l : Nat → Int} {r : Nat → Nat} (h : RodAt w b g nu a l r) (e : Nat) (he : e < 2) (x : Int) : RodAt (w.setCell ⟨g, 3 + e, none⟩ (.int .i64 x)) b g nu a (fun j => if j = e then x else l j) r where
  num := by rw [cell_keep _ _ _ _ _ (by omega)]; exact h.num
  arm := fun j hj => by rw [cell_keep _ _ _ _ _ (by omega)]; exact h.arm j hj
  leaf := fun j hj => by
    by_cases hje : j = e
    · subst hje; rw [if_pos rfl]; exact cell_set _ _ _ _ (h.leaf j hj)
    · rw [if_neg hje, cell_keep _ _ _ _ _ (by omega)]; exact h.leaf j hj
  below := fun j hj => by rw [cell_keep _ _ _ _ _ (by omega)]; exact h.below j hj
  fz := fun j => by rw [World.frozen?_setCell]; exact h.fz j
  lt := by simpa using h.lt
theorem RodAt.set_arm {w : World} {b : Nat → Nat} {g : Nat} {nu : Int} {a l : Nat → Int} {r : Nat → Nat} (h : RodAt w b g nu a l r) (e : Nat) (he : e < 2) (x : Int) : RodAt (w.setCell ⟨g, 1 + e, none⟩ (.int .i64 x)) b g nu (fun j => if j = e then x else a j) l r where
  num := by rw [cell_keep _ _ _ _ _ (by omega)]; exact h.num
  leaf := fun j hj => by rw [cell_keep _ _ _ _ _ (by omega)]; exact h.leaf j hj
  arm := fun j hj => by
    by_cases hje : j = e
    · subst hje; rw [if_pos rfl]; exact cell_set _ _ _ _ (h.arm j hj)
    · rw [if_neg hje, cell_keep _ _ _ _ _ (by omega)]; exact h.arm j hj
  below := fun j hj => by rw [cell_keep _ _ _ _ _ (by omega)]; exact h.below j hj
  fz := fun j => by rw [World.frozen?_setCell]; exact h.fz j
  lt := by simpa using h.lt
theorem RodAt.set_below {w : World} {b : Nat → Nat} {g : Nat} {nu : Int} {a l : Nat → Int} {r : Nat → Nat} (h : RodAt w b g nu a l r) (e : Nat) (he : e < 2) (x : Nat) : RodAt (w.setCell ⟨g, 5 + e, none⟩ (ptrR b x)) b g nu a l (fun j => if j = e then x else r j) where
  num := by rw [cell_keep _ _ _ _ _ (by omega)]; exact h.num
  arm := fun j hj => by rw [cell_keep _ _ _ _ _ (by omega)]; exact h.arm j hj
  leaf := fun j hj => by rw [cell_keep _ _ _ _ _ (by omega)]; exact h.leaf j hj
  below := fun j hj => by
    by_cases hje : j = e
    · subst hje; rw [if_pos rfl]; exact cell_set _ _ _ _ (h.below j hj)
    · rw [if_neg hje, cell_keep _ _ _ _ _ (by omega)]; exact h.below j hj
  fz := fun j => by rw [World.frozen?_setCell]; exact h.fz j
  lt := by simpa using h.lt
theorem RodAt.set_num {w : World} {b : Nat → Nat} {g : Nat} {nu : Int} {a l : Nat → Int} {r : Nat → Nat} (h : RodAt w b g nu a l r) (x : Int) : RodAt (w.setCell ⟨g, 0, none⟩ (.int .i64 x)) b g x a l r where
  num := cell_set _ _ _ _ h.num
  arm := fun j hj => by rw [cell_keep _ _ _ _ _ (by omega)]; exact h.arm j hj
  leaf := fun j hj => by rw [cell_keep _ _ _ _ _ (by omega)]; exact h.leaf j hj
  below := fun j hj => by rw [cell_keep _ _ _ _ _ (by omega)]; exact h.below j hj
  fz := fun j => by rw [World.frozen?_setCell]; exact h.fz j
  lt := by simpa using h.lt
/-- Rods k .. n - 1, each in its own block from B on. -/
structure RodsIn (w : World) (B k n : Nat) (b : Nat → Nat) (nu : Nat → Int) (S : RodF) : Prop where
  rod : ∀ i, k ≤ i → i < n → RodAt w b (b i) (nu i) (fun e => S.ar (2 * i + e)) (fun e => S.le (2 * i + e)) (fun e => S.be (2 * i + e))
  far : ∀ i, k ≤ i → i < n → B ≤ b i
  apart : ∀ i j, k ≤ i → i < n → k ≤ j → j < n → b i = b j → i = j
theorem RodsIn.keep {w w' : World} {B k n : Nat} {b : Nat → Nat} {nu : Nat → Int} {S : RodF} (h : RodsIn w B k n b nu S) (hs : w.heap.size ≤ w'.heap.size) (hc : ∀ i, k ≤ i → i < n → w'.heap[b i]? = w.heap[b i]?) : RodsIn w' B k n b nu S :=
  ⟨fun i h1 h2 => (h.rod i h1 h2).keep hs (hc i h1 h2), h.far, h.apart⟩
theorem RodsIn.lo {w w' : World} {B k n : Nat} {b : Nat → Nat} {nu : Nat → Int} {S : RodF} (h : RodsIn w B k n b nu S) (l : Below w.heap.size w w') : RodsIn w' B k n b nu S :=
  h.keep l.size (fun i h1 h2 => l.block _ (h.rod i h1 h2).lt)
/-- Another block is set. -/
theorem RodsIn.set {w : World} {B k n : Nat} {b : Nat → Nat} {nu : Nat → Int} {S : RodF} (h : RodsIn w B k n b nu S) (g o : Nat) (u : Value) (hg : ∀ i, k ≤ i → i < n → b i ≠ g) : RodsIn (w.setCell ⟨g, o, none⟩ u) B k n b nu S :=
  h.keep (by simp) (fun i h1 h2 => Below.heap_setCell _ _ _ _ (hg i h1 h2))
/-- One more rod in front. -/
theorem RodsIn.more {w : World} {B k n : Nat} {b b' : Nat → Nat} {nu : Nat → Int} {S : RodF} (h : RodsIn w B (k + 1) n b nu S) (hb : ∀ j, k < j → j < n → b' j = b j) (hn : ∀ j, k < j → j < n → b j ≠ b' k) (hB : B ≤ b' k)
    (hd : ∀ i e, k ≤ i → i < n → e < 2 → S.be (2 * i + e) = 0 ∨ (k < S.be (2 * i + e) ∧ S.be (2 * i + e) < n))
    (hr : RodAt w b' (b' k) (nu k) (fun e => S.ar (2 * k + e)) (fun e => S.le (2 * k + e)) (fun e => S.be (2 * k + e))) : RodsIn w B k n b' nu S where
  rod := fun i h1 h2 => by
    by_cases e : i = k
    · subst e; exact hr
    · rw [hb i (by omega) h2]
      refine (h.rod i (by omega) h2).congr (fun _ _ => rfl) (fun _ _ => rfl) (fun e he => ?_)
      rcases hd i e h1 h2 he with h0 | ⟨h0, h3⟩
      · rw [ptrR_none _ h0, ptrR_none _ h0]
      · rw [ptrR_some _ (by omega), ptrR_some _ (by omega), hb _ h0 h3]
  far := fun i h1 h2 => by
    by_cases e : i = k
    · subst e; exact hB
    · rw [hb i (by omega) h2]; exact h.far i (by omega) h2
  apart := fun i j h1 h2 h3 h4 e => by
    by_cases ei : i = k
    · by_cases ej : j = k
      · rw [ei, ej]
      · subst ei; rw [hb j (by omega) h4] at e; exact absurd e.symm (hn j (by omega) h4)
    · by_cases ej : j = k
      · subst ej; rw [hb i (by omega) h2] at e; exact absurd e (hn i (by omega) h2)
      · rw [hb i (by omega) h2, hb j (by omega) h4] at e; exact h.apart i j (by omega) h2 (by omega) h4 e
/-- A row of pointers to rods, in a block of its own. -/
structure RodRow (w : World) (B g n : Nat) (b : Nat → Nat) : Prop where
  at_ : ∀ i, i < n → w.cell? ⟨g, i, none⟩ = some (.pointer (some ⟨b i, 0, none⟩))
  fz : ∀ j, w.frozen? ⟨g, j, none⟩ = false
  lt : g < w.heap.size
  far : B ≤ g
  apart : ∀ i, i < n → b i ≠ g
theorem RodRow.keep {w w' : World} {B g n : Nat} {b : Nat → Nat} (h : RodRow w B g n b) (hs : w.heap.size ≤ w'.heap.size) (hc : w'.heap[g]? = w.heap[g]?) : RodRow w' B g n b :=
  ⟨fun i hi => (World.cell?_of_block hc).trans (h.at_ i hi), fun j => (World.frozen?_of_block hc).trans (h.fz j), Nat.lt_of_lt_of_le h.lt hs, h.far, h.apart⟩
theorem RodRow.lo {w w' : World} {B g n : Nat} {b : Nat → Nat} (h : RodRow w B g n b) (l : Below w.heap.size w w') : RodRow w' B g n b :=
  h.keep l.size (l.block _ h.lt)
/-- A function on rods that is their weight. -/
def atR (S : RodF) (W : Nat → Int) (t : Nat) : Int := if S.be t = 0 then S.le t else W (S.be t)
structure WtR (n : Nat) (S : RodF) (W : Nat → Int) : Prop where
  down : ∀ t, t < 2 * n → S.be t ≠ 0 → t / 2 < S.be t ∧ S.be t < n
  eq : ∀ i, i < n → W i = atR S W (2 * i) + atR S W (2 * i + 1)
  small : ∀ i, i < n → 0 ≤ W i ∧ W i ≤ 6336
  leaf : ∀ t, t < 2 * n → 0 ≤ S.le t ∧ S.le t ≤ 6336
theorem WtR.at_bnd {n : Nat} {S : RodF} {W : Nat → Int} (h : WtR n S W) (t : Nat) (ht : t < 2 * n) : 0 ≤ atR S W t ∧ atR S W t ≤ 6336 := by
  unfold atR
  split
  · exact h.leaf t ht
  · rename_i hne; exact h.small _ (h.down t ht hne).2
theorem atR_rodF {m : MobV} (hf : MobF m) (t : Nat) (ht : t < 2 * m.am.length) : atR (rodF m) (wtM m) t = atM (hvM m t) (wtM m) := by
  have := (hf.ends t ht).2
  unfold atR rodF atM
  simp only
  by_cases h : hvM m t < 0
  · rw [if_neg (by omega), if_pos h]
  · rw [if_pos (by omega), if_neg h, if_pos (by omega)]
theorem wtR_rodF {m : MobV} (hf : MobF m) : WtR m.am.length (rodF m) (wtM m) where
  down := fun t ht h => by
    have := (hf.ends t ht).2
    simp only [rodF] at h ⊢
    omega
  eq := fun i hi => by rw [atR_rodF hf _ (by omega), atR_rodF hf _ (by omega)]; exact wtM_eq hf i hi
  small := fun i _ => wsM_small hf _ (Nat.le_refl _) i
  leaf := fun t ht => by
    have := (hf.ends t ht).2
    simp only [rodF]
    split <;> omega
end Go.Proofs.Ytnadchgekfljkaa
