/- The contract of the model's LeafRow, at every mobile and place. -/
import Derived.Test.YtnadchgekfljkaaMob8
namespace Go.Proofs.Ytnadchgekfljkaa
open Go.RowKit
set_option maxRecDepth 100000 in
set_option maxHeartbeats 1600000 in
theorem specLeafRow_no (v : Value) (m : MobV) (p : Int) (w : World) (hv : MobRow w v m) (hs : SmallM m) (hb : BndM m) (h : (goodB m && (decide (0 ≤ p) && decide (p ≤ 60))) = false) :
    Calls Try.prog 48 #[v, .int .i64 p] w fun e w' => ∃ u, e = .returned (.tuple #[u, .bool false]) ∧ LoadRow w' u [] ∧ Below w.heap.size w w' := by
  have D := Lib.hid (fun w1 (l : Below w.heap.size w w1) => l5Good_any v m w1 (hv.lo l) hs hb)
  have HP := Lib.hid (fun w => l2In_is p _ rfl w)
  obtain ⟨a, b, c, d, rfl⟩ := hv.form
  obtain ⟨W, hW⟩ : ∃ W, (w.alloc (.cells #[.slice a m.am.length c, .slice b m.hu.length d] 27)).alloc (.cells #[] 112) = W := ⟨_, rfl⟩
  have LW := Lib.hid (show Below w.heap.size w W by rw [← hW]; exact ((Below.refl _ _).alloc (Nat.le_refl _) _).alloc (by simp) _)
  have BX := Lib.hid (show Box2 W w.heap.size (.slice a m.am.length c) (.slice b m.hu.length d) by rw [← hW]; exact (box2_new _ _ _ _).lo ((Below.refl _ _).alloc (Nat.le_refl _) _))
  have D1 := Lib.hid (D.out W LW.out)
  generalize (decide (0 ≤ p) && decide (p ≤ 60)) = q at *
  generalize goodB m = r at *
  generalize m.am.length = n at *
  generalize m.hu.length = n2 at *
  clear hv hs hb D
  obtain ⟨_, u0, u1⟩ := BX.out
  cases r with
  | false =>
    clear HP h
    go_enter Try.func48, Try.ntmps48
    go_wp2_with fail
    clear hW u0 u1
    refine D1.out.mono ?_
    rintro e' w1 ⟨rfl, l1⟩
    have L1 := Lib.hid (lo_on LW.out l1)
    clear l1 D1
    go_wp2
    go_ret2
    exact ⟨_, rfl, loadRow_nil _ _ _, L1.out⟩
  | true =>
    obtain rfl : q = false := by simpa using h
    clear h
    go_enter Try.func48, Try.ntmps48
    go_wp2_with fail
    clear hW u0 u1
    refine D1.out.mono ?_
    rintro e' w1 ⟨rfl, l1⟩
    have L1 := Lib.hid (lo_on LW.out l1)
    clear l1 D1
    go_wp2_with fail
    refine (HP.out _).mono ?_
    rintro e' w' ⟨rfl, rfl⟩
    go_wp2
    go_ret2
    exact ⟨_, rfl, loadRow_nil _ _ _, L1.out⟩
theorem specLeafRow_any (v : Value) (m : MobV) (p : Int) (w : World) (hv : MobRow w v m) (hs : SmallM m) (hb : BndM m) :
    Calls Try.prog 48 #[v, .int .i64 p] w fun e w' => ∃ u, e = .returned (.tuple #[u, .bool (leafB m p)]) ∧ LoadRow w' u (leafYs m p) ∧ Below w.heap.size w w' := by
  unfold leafYs leafB
  cases h : (goodB m && (decide (0 ≤ p) && decide (p ≤ 60))) with
  | false =>
    rw [Bool.false_and, if_neg (by simp)]
    exact specLeafRow_no v m p w hv hs hb h
  | true =>
    rw [Bool.true_and]
    simp only [Bool.and_eq_true, decide_eq_true_eq] at h
    exact specLeafRow_yes v m p w hv hb ((goodB_iff m).1 h.1) h.2.1 h.2.2
theorem leafYs_len (m : MobV) (p : Int) : (leafYs m p).length ≤ 2000000 := by
  unfold leafYs
  split
  · rename_i h
    unfold leafB at h
    simp only [Bool.and_eq_true] at h
    have hf := (goodB_iff m).1 h.1.1
    have := leafR_len m p (2 * m.am.length)
    have := hf.short
    omega
  · simp
end Go.Proofs.Ytnadchgekfljkaa
