/- Mob8, as one text. -/
import Derived.Test.YthncgcdnljoakaaG20
namespace Go.Proofs.Ythncgcdnljoakaa
open Go.RowKit
/-- The place of rod j when the first T ends have been seen (rod 0 hangs at p). -/
def rodP (m : MobV) (p : Int) : Nat → Nat → Int
  | 0 => fun j => if j = 0 then p else 0
  | T + 1 => fun j => if hvM m T < 0 ∧ (-hvM m T).toNat = j then rodP m p T (T / 2) + (2 * ((T % 2 : Nat) : Int) - 1) * avM m T else rodP m p T j
/-- The place of end T. -/
def endP (m : MobV) (p : Int) (T : Nat) : Int := rodP m p T (T / 2) + (2 * ((T % 2 : Nat) : Int) - 1) * avM m T
def leafR (m : MobV) (p : Int) : Nat → List (Int × Int)
  | 0 => []
  | T + 1 => if hvM m T < 0 then leafR m p T else leafR m p T ++ [(endP m p T, hvM m T)]
def allP (m : MobV) (p : Int) (T : Nat) : Prop := ∀ t, t < T → hvM m t < 0 ∨ (0 ≤ endP m p t ∧ endP m p t ≤ 60)
theorem allP_succ {m : MobV} {p : Int} {T : Nat} (h : allP m p T) (h2 : hvM m T < 0 ∨ (0 ≤ endP m p T ∧ endP m p T ≤ 60)) : allP m p (T + 1) := fun t ht => by
  by_cases e : t = T
  · rw [e]; exact h2
  · exact h t (by omega)
noncomputable def leafB (m : MobV) (p : Int) : Bool := goodB m && (decide (0 ≤ p) && decide (p ≤ 60)) && propB (allP m p (2 * m.am.length))
noncomputable def leafYs (m : MobV) (p : Int) : List (Int × Int) := if leafB m p = true then leafR m p (2 * m.am.length) else []
theorem leafR_len (m : MobV) (p : Int) : ∀ T, (leafR m p T).length ≤ T := by
  intro T
  induction T with
  | zero => exact Nat.le_refl _
  | succ T ih =>
    rw [leafR]
    split
    · omega
    · rw [List.length_append]; simp; omega
theorem arm_side (e : Nat) (x : Int) (he : e < 2) (x0 : 1 ≤ x) (x1 : x ≤ 12) : -12 ≤ (2 * (e : Int) - 1) * x ∧ (2 * (e : Int) - 1) * x ≤ 12 := by
  have h : e = 0 ∨ e = 1 := by omega
  rcases h with rfl | rfl
  · simp; omega
  · simp; omega
theorem rodP_bnd {m : MobV} {p : Int} (hf : MobF m) (p0 : 0 ≤ p) (p1 : p ≤ 60) : ∀ T, T ≤ 2 * m.am.length → ∀ j, -(12 * (T : Int)) ≤ rodP m p T j ∧ rodP m p T j ≤ 60 + 12 * (T : Int) := by
  intro T
  induction T with
  | zero =>
    intro _ j
    simp only [rodP]
    split <;> omega
  | succ T ih =>
    intro hT j
    have h1 := ih (by omega)
    simp only [rodP]
    split
    · have ha := (hf.ends T (by omega)).1
      have hs := arm_side (T % 2) (avM m T) (by omega) ha.1 ha.2
      have := h1 (T / 2)
      push_cast
      push_cast at hs
      omega
    · have := h1 j
      push_cast
      omega
theorem endP_bnd {m : MobV} {p : Int} (hf : MobF m) (p0 : 0 ≤ p) (p1 : p ≤ 60) (T : Nat) (hT : T < 2 * m.am.length) : -156 ≤ endP m p T ∧ endP m p T ≤ 216 := by
  have h6 := hf.short
  have ha := (hf.ends T hT).1
  have hs := arm_side (T % 2) (avM m T) (by omega) ha.1 ha.2
  have := rodP_bnd hf p0 p1 T (by omega) (T / 2)
  unfold endP
  omega
structure PlcF (w : World) (g n : Nat) (f : Nat → Int) : Prop where
  lt : g < w.heap.size
  at_ : ∀ j, j < n → w.cell? ⟨g, j, none⟩ = some (.int .i64 (f j))
  fz : ∀ j, w.frozen? ⟨g, j, none⟩ = false
theorem PlcF.set {w : World} {g n q : Nat} {f : Nat → Int} (h : PlcF w g n f) (hq : q < n) (y : Int) : PlcF (w.setCell ⟨g, q, none⟩ (.int .i64 y)) g n (fun j => if j = q then y else f j) := by
  have s := one_set w g q (.int .i64 y) (h.at_ q hq)
  refine ⟨by simpa using h.lt, fun j hj => ?_, fun j => by rw [World.frozen?_setCell]; exact h.fz j⟩
  by_cases e : j = q
  · rw [e, s.1, if_pos rfl]
  · rw [s.2 j e, if_neg e]; exact h.at_ j hj
theorem PlcF.grown {w w' : World} {g n : Nat} {f : Nat → Int} {o : Obj} {row : Option Nat} (h : PlcF w g n f) (hg : (w.alloc o).grownBy w' row) (hne : row ≠ some g) : PlcF w' g n f := by
  have hb : w'.heap[g]? = w.heap[g]? := (hg.block g (by have := h.lt; simp; omega) (fun e => hne e.symm)).trans (Below.heap_alloc _ _ _ h.lt)
  exact ⟨by have := hg.size; have := h.lt; simp at *; omega, fun j hj => by rw [World.cell?_of_block (a := ⟨g, j, none⟩) hb]; exact h.at_ j hj, fun j => by rw [World.frozen?_of_block (a := ⟨g, j, none⟩) hb]; exact h.fz j⟩
end Go.Proofs.Ythncgcdnljoakaa
