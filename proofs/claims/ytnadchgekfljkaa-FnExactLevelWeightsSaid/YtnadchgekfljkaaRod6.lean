/- The contract of the program's FixLeaf. -/
import Derived.Test.YtnadchgekfljkaaRod5
import Derived.Test.YtnadchgekfljkaaMob5
namespace Go.Proofs.Ytnadchgekfljkaa
open Go.RowKit
theorem two_fields {fs : List Field} {a b : TypeId} {o1 o2 : Nat} (h : fs.map (fun f => (f.name == "_", f.type, f.offset)) = [(false, a, o1), (false, b, o2)]) :
    ∃ f0 f1, fs = [f0, f1] ∧ (f0.name ≠ "_" ∧ f0.type = a ∧ f0.offset = o1) ∧ f1.name ≠ "_" ∧ f1.type = b ∧ f1.offset = o2 := by
  have hl := congrArg List.length h
  rw [List.length_map] at hl
  obtain ⟨f0, f1, rfl⟩ : ∃ f0 f1, fs = [f0, f1] := by
    cases fs with
    | nil => simp at hl
    | cons f0 fs =>
      cases fs with
      | nil => simp at hl
      | cons f1 fs =>
        cases fs with
        | nil => exact ⟨f0, f1, rfl⟩
        | cons f2 fs => simp at hl
  simp at h
  obtain ⟨⟨h1, h2, h3⟩, h4, h5, h6⟩ := h
  exact ⟨f0, f1, rfl, ⟨h1, h2, h3⟩, h4, h5, h6⟩
theorem eq_end (a b c d : Int) (w : World) : (Op.equalIn 10000 90 (.agg #[.int .i64 a, .int .i64 b]) (.agg #[.int .i64 c, .int .i64 d])).run Try.prog w = .ok ((a == c) && (b == d)) w := by
  obtain ⟨f0, f1, hf, ⟨n0, t0, o0⟩, n1, t1, o1⟩ := two_fields (show (Try.prog.fieldsOf 90).toList.map (fun f => (f.name == "_", f.type, f.offset)) = [(false, 3, 0), (false, 3, 1)] by kernel_rfl)
  have hk : Try.prog.plainKey 3 = true := by kernel_rfl
  have p0 : ∀ x y : Int, (part 3 #[.int .i64 x, .int .i64 y] 0).run Try.prog w = .ok (.int .i64 x) w := fun x y => run_part_plain w hk rfl
  have p1 : ∀ x y : Int, (part 3 #[.int .i64 x, .int .i64 y] 1).run Try.prog w = .ok (.int .i64 y) w := fun x y => run_part_plain w hk rfl
  have q : ∀ x y : Int, (Op.equalIn 9999 3 (.int .i64 x) (.int .i64 y)).run Try.prog w = .ok (x == y) w := fun x y => run_equalIn_int w 9998 _ _ _ _ _ Try.underlying3
  rw [run_equalIn_struct w 9999 _ _ _ (by kernel_rfl) (by kernel_rfl), hf]
  simp only [Op.eqFields, ne_eq, n0, n1, not_false_eq_true, if_true, t0, t1, o0, o1, Sem.run_bind, p0, q, Result.andThen_ok]
  cases a == c with
  | false => simp
  | true =>
    simp only [Bool.not_true, Bool.false_eq_true, if_false, Sem.run_bind, p1, q, Result.andThen_ok]
    cases b == d <;> simp
/-- The first place of an end in a list, or -1. -/
def FirstEnd (p q : Int) (xs : List (Int × Int)) (w : World) (e : Ending) (w' : World) : Prop := ∃ z : Int, e = .returned (.int .i64 z) ∧ (0 ≤ z ↔ (p, q) ∈ xs) ∧ Below w.heap.size w w'
set_option maxRecDepth 100000 in
set_option maxHeartbeats 1600000 in
theorem indexEnd_any (v : Value) (p q : Int) (xs : List (Int × Int)) (w : World) (hr : LoadRow w v xs) (hn : xs.length ≤ 2000000) :
    Calls Try.prog 150 #[v, .agg #[.int .i64 p, .int .i64 q]] w (FirstEnd p q xs w) := by
  obtain ⟨a, c, rfl, hr⟩ := hr
  obtain ⟨W, hW⟩ : ∃ W, w.alloc (.cells #[.int .i64 p, .int .i64 q] 90) = W := ⟨_, rfl⟩
  have LW := Lib.hid (show Below w.heap.size w W by rw [← hW]; exact (Below.refl _ _).alloc (Nat.le_refl _) _)
  have BX := Lib.hid (show Box2 W w.heap.size (.int .i64 p) (.int .i64 q) by rw [← hW]; exact box2_new _ _ _ _)
  go_enter Try.func150, Try.ntmps150
  go_wp2
  clear hW
  go_loopw [8] (fun i wr => ∃ k : Nat, k ≤ xs.length ∧ i = .int .i64 k ∧ Hid (∀ j, j < k → xs.getD j (0, 0) ≠ (p, q)) ∧ Hid (Below W.heap.size W wr)) (fun i _ => xs.length - (intOf i).toNat)
  case atStart => exact ⟨0, Nat.zero_le _, rfl, Lib.hid (fun j h => by omega), Lib.hid (Below.refl _ _)⟩
  case round =>
    obtain ⟨k, hk, rfl, HS, HW⟩ := hrel
    obtain ⟨wq, rfl⟩ : ∃ wq : World, wq = wr := ⟨_, rfl⟩
    by_cases hlt : k < xs.length
    · rcases hr with h | ⟨g, off, rfl, hg, hc⟩
      · subst h; simp at hlt
      have LX := LW.out.trans (HW.out.mono LW.out.size)
      obtain ⟨h1, h2⟩ := hc k hlt
      rw [← LX.cell (p := ⟨g, off + k * 2, none⟩) hg] at h1
      rw [← LX.cell (p := ⟨g, off + k * 2 + 1, none⟩) hg] at h2
      obtain ⟨_, u0, u1⟩ := BX.out.lo HW.out
      have hlt' : (k : Int) < (xs.length : Int) := by omega
      have HX := Lib.hid (show xs.getD k (0, 0) ∈ xs by simp only [List.getD, List.getElem?_eq_getElem hlt, Option.getD_some]; exact List.getElem_mem hlt)
      have HF := Lib.hid (LX)
      obtain ⟨y, hy⟩ : ∃ y, xs.getD k (0, 0) = y := ⟨_, rfl⟩
      obtain ⟨y1, y2⟩ := y
      rw [hy] at h1 h2 HX
      have HY := Lib.hid hy
      simp only at h1 h2
      clear hc LX hy
      have Q := fun w => eq_end p q y1 y2 w
      by_cases he : p = y1 ∧ q = y2
      · obtain ⟨rfl, rfl⟩ := he
        have e1 : ((p == p) && (q == q)) = true := by simp
        simp only [e1] at Q
        clear e1
        go_wp2
        go_quiet (fail)
        go_wp2
        go_ret
        exact ⟨_, rfl, ⟨fun _ => HX.out, fun _ => by omega⟩, lo_drewN HF.out _⟩
      · have e1 : ((p == y1) && (q == y2)) = false := by
          cases e2 : (p == y1) with
          | false => rfl
          | true =>
            cases e3 : (q == y2) with
            | false => rfl
            | true => exact absurd ⟨by simpa using e2, by simpa using e3⟩ he
        simp only [e1] at Q
        clear e1
        have HSN := Lib.hid (show ∀ j, j < k + 1 → xs.getD j (0, 0) ≠ (p, q) from fun j hj => by
          by_cases e : j = k
          · rw [e, HY.out]; intro hh; cases hh; exact he ⟨rfl, rfl⟩
          · exact HS.out j (by omega))
        clear he
        go_wp2
        go_quiet (fail)
        go_wp2
        go_roundw
        case rel => exact ⟨k + 1, by omega, by go_num, HSN, Lib.hid (lo_drewN HW.out _)⟩
        case measure => simp [intOf]; omega
    · obtain rfl : k = xs.length := by omega
      have hge : ¬ (xs.length : Int) < (xs.length : Int) := by omega
      have LF := Lib.hid (LW.out.trans (HW.out.mono LW.out.size))
      go_wp2
      go_ret
      refine ⟨_, rfl, ⟨fun h => absurd h (by decide), fun h => ?_⟩, LF.out⟩
      obtain ⟨j, hj, he⟩ := List.getElem_of_mem h
      exact absurd (by simp [List.getD, List.getElem?_eq_getElem hj, he]) (HS.out j hj)
theorem containsEnd_any (v : Value) (p q : Int) (xs : List (Int × Int)) (r : Bool) (w : World) (hr : LoadRow w v xs) (hn : xs.length ≤ 2000000) (hx : r = true ↔ (p, q) ∈ xs) :
    Calls Try.prog 110 #[v, .agg #[.int .i64 p, .int .i64 q]] w fun e w' => e = .returned (.bool r) ∧ Below w.heap.size w w' := by
  obtain ⟨W, hW⟩ : ∃ W, w.alloc (.cells #[.int .i64 p, .int .i64 q] 90) = W := ⟨_, rfl⟩
  have LW := Lib.hid (show Below w.heap.size w W by rw [← hW]; exact (Below.refl _ _).alloc (Nat.le_refl _) _)
  have BX := Lib.hid (show Box2 W w.heap.size (.int .i64 p) (.int .i64 q) by rw [← hW]; exact box2_new _ _ _ _)
  have C := Lib.hid (indexEnd_any v p q xs W (hr.lo LW.out) hn)
  clear hr
  obtain ⟨_, u0, u1⟩ := BX.out
  go_enter Try.func110, Try.ntmps110
  go_wp2_with fail
  clear hW u0 u1
  refine C.out.mono ?_
  rintro e w1 ⟨z, rfl, hz, l1⟩
  have L1 := Lib.hid (lo_on LW.out l1)
  rw [← hx] at hz
  have HZ := Lib.hid hz
  clear hz hx l1 C
  by_cases h : 0 ≤ z
  · have hr : r = true := HZ.out.1 h
    subst hr
    go_wp2
    go_ret
    exact ⟨rfl, L1.out⟩
  · have hr : r = false := by cases r with
      | false => rfl
      | true => exact absurd (HZ.out.2 rfl) h
    subst hr
    go_wp2
    go_ret
    exact ⟨congrArg (fun b => Ending.returned (.bool b)) (decide_eq_false (by omega)), L1.out⟩
end Go.Proofs.Ytnadchgekfljkaa
