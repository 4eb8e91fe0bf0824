/- Mobiles: plain facts. No program stands here. -/
import Derived.Test.YtnadchgekfljkaaMobs
import Derived.Test.YtnadchgekfljkaaKitPlain
namespace Go.Proofs.Ytnadchgekfljkaa
/-- What hangs at end t (rod t / 2, left if t is even), and its arm. -/
def hvM (m : MobV) (t : Nat) : Int := if t % 2 = 0 then (m.hu.getD (t / 2) (0, 0)).1 else (m.hu.getD (t / 2) (0, 0)).2
def avM (m : MobV) (t : Nat) : Int := if t % 2 = 0 then (m.am.getD (t / 2) (0, 0)).1 else (m.am.getD (t / 2) (0, 0)).2
/-- How many of the first T ends have rod j. -/
def cntM (m : MobV) : Nat → Nat → Nat
  | 0, _ => 0
  | T + 1, j => cntM m T j + if hvM m T = -(j : Int) then 1 else 0
theorem cntM_le (m : MobV) (j : Nat) : ∀ T, cntM m T j ≤ T := by
  intro T
  induction T with
  | zero => exact Nat.le_refl _
  | succ T ih => rw [cntM]; split <;> omega
def EndF (m : MobV) (t : Nat) : Prop := (1 ≤ avM m t ∧ avM m t ≤ 12) ∧ ((1 ≤ hvM m t ∧ hvM m t ≤ 99) ∨ (hvM m t < 0 ∧ ((t / 2 : Nat) : Int) + 1 ≤ -hvM m t ∧ -hvM m t ≤ (m.am.length : Int) - 1))
structure MobF (m : MobV) : Prop where
  one : 1 ≤ m.am.length
  short : m.am.length ≤ 6
  same : m.hu.length = m.am.length
  ends : ∀ t, t < 2 * m.am.length → EndF m t
  once : ∀ j, 1 ≤ j → j < m.am.length → cntM m (2 * m.am.length) j = 1
noncomputable def goodB (m : MobV) : Bool := propB (MobF m)
theorem goodB_iff (m : MobV) : goodB m = true ↔ MobF m := propB_iff _
theorem MobF.small {m : MobV} (h : MobF m) : SmallM m := ⟨by have := h.short; omega, by have := h.short; have := h.same; omega⟩
/-- A rod hangs at one end before it: and only there. -/
theorem cntM_zero (m : MobV) (j : Nat) (T : Nat) (h : ∀ t, t < T → hvM m t ≠ -(j : Int)) : cntM m T j = 0 := by
  induction T with
  | zero => rfl
  | succ T ih => rw [cntM, ih (fun t ht => h t (by omega)), if_neg (h T (Nat.lt_succ_self _))]
/-- The weight that hangs at an end, when the weights of rods are told. -/
def atM (h : Int) (f : Nat → Int) : Int := if h < 0 then f (-h).toNat else h
/-- The weights of the last k rods. -/
def wsM (m : MobV) : Nat → Nat → Int
  | 0 => fun _ => 0
  | k + 1 => fun j => if j = m.am.length - 1 - k then atM (hvM m (2 * (m.am.length - 1 - k))) (wsM m k) + atM (hvM m (2 * (m.am.length - 1 - k) + 1)) (wsM m k) else wsM m k j
/-- The weight of a rod. -/
def wtM (m : MobV) : Nat → Int := wsM m m.am.length
def weightsL (m : MobV) : List Int := (List.range m.am.length).map (wtM m)
def turnM (m : MobV) (i : Nat) : Int := avM m (2 * i + 1) * atM (hvM m (2 * i + 1)) (wtM m) - avM m (2 * i) * atM (hvM m (2 * i)) (wtM m)
def turnsL (m : MobV) : List Int := (List.range m.am.length).map (turnM m)
def leavesF (m : MobV) : Nat → List Int
  | 0 => []
  | T + 1 => if 0 < hvM m T then leavesF m T ++ [hvM m T] else leavesF m T
end Go.Proofs.Ytnadchgekfljkaa
