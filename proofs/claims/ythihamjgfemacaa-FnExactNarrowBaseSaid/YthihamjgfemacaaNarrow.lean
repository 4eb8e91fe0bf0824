/- The contracts of NarrowBase: the program's and the model's, and the walk of the law on it. -/
import Derived.Test.YthihamjgfemacaaExFrac
import Derived.ChangeKeysEq
namespace Go.Proofs.Ythihamjgfemacaa
open Go.RowKit
theorem infoInt : (Try.prog.info? 3).map (fun i => (i.zero, i.size, i.bytes)) = some (some (.int .i64 0), 1, 8) := by kernel_rfl
theorem eq_two (a b c d : Int) (w : World) : (Op.equalIn 10000 43 (.agg #[.int .i64 a, .int .i64 b]) (.agg #[.int .i64 c, .int .i64 d])).run Try.prog w = .ok ((a == c) && (b == d)) w := by
  obtain ⟨i0, hi, _⟩ := info_parts infoInt
  have hc : Try.prog.cellsOf 3 = 1 := by kernel_rfl
  have hk : Try.prog.plainKey 3 = true := by kernel_rfl
  have p0 : ∀ x y : Int, (part 3 #[.int .i64 x, .int .i64 y] (0 * 1)).run Try.prog w = .ok (.int .i64 x) w := fun x y => run_part_plain w hk rfl
  have p1 : ∀ x y : Int, (part 3 #[.int .i64 x, .int .i64 y] 1).run Try.prog w = .ok (.int .i64 y) w := fun x y => run_part_plain w hk rfl
  have q : ∀ x y : Int, (Op.equalIn 9999 3 (.int .i64 x) (.int .i64 y)).run Try.prog w = .ok (x == y) w := fun x y => run_equalIn_int w 9998 _ _ _ _ _ Try.underlying3
  rw [run_equalIn_array w 9999 _ _ Try.underlying43 hi, hc, show List.range 2 = [0, 1] from rfl]
  simp only [Op.eqItems, Sem.run_bind, p0, q, Result.andThen_ok]
  cases a == c with
  | false => simp
  | true =>
    simp only [Bool.not_true, Bool.false_eq_true, if_false, Sem.run_bind, p1, q, Result.andThen_ok]
    cases b == d <;> simp
theorem cut_tdiv (m n : Int) (h : 0 < n) : Int.tdiv (cutA m n) (cutB m n) = Int.tdiv m n := by
  have hg := gc_pos m n h
  have hm := cut_mul m n
  have e : Int.tdiv m n = Int.tdiv (cutA m n * gcF m n) (cutB m n * gcF m n) := by rw [hm.1, hm.2]
  rw [e, Int.mul_tdiv_mul_of_pos_left _ _ hg]
theorem cut_whole (m n : Int) (h : 0 < n) : (cutA m n = Int.tdiv m n ∧ cutB m n = 1) ↔ Int.tdiv m n * n = m := by
  rw [← narrow_one m n h]
  constructor
  · exact fun h => h.2
  · intro h1
    refine ⟨?_, h1⟩
    rw [← cut_tdiv m n h, h1, Int.tdiv_one]
/-- The greatest place of the narrow base. -/
def highF (m n : Int) : Int := if Int.tdiv m n * n = m then Int.tdiv m n else Int.tdiv m n + 1
theorem narrow_no (v : Value) (xs : List (Int × Int)) (w : World) (hr : LoadRow w v xs) (hz : rowB xs = false ∨ xs = []) :
    Calls Try.prog 60 #[v] w fun e w' => e = .returned (.tuple #[.int .i64 0, .int .i64 0, .bool false]) ∧ Below w.heap.size w w' := by
  have M := Lib.hid (centreOf_no v xs w hr hz)
  clear hr hz
  go_enter Try.func60, Try.ntmps60
  go_wp2_with fail
  refine M.out.mono ?_
  rintro e w1 ⟨rfl, l1⟩
  go_wp2
  go_ret3
  exact ⟨rfl, l1.trans (((Below.refl _ _).alloc (Nat.le_refl _) _).mono l1.size)⟩
set_option maxHeartbeats 800000 in
set_option maxRecDepth 100000 in
theorem narrow_yes (v : Value) (xs : List (Int × Int)) (w : World) (hr : LoadRow w v xs) (hz : RowF xs) (hne : xs ≠ []) :
    Calls Try.prog 60 #[v] w fun e w' => e = .returned (.tuple #[.int .i64 (Int.tdiv (momF 0 xs) (wtF xs)), .int .i64 (highF (momF 0 xs) (wtF xs)), .bool true]) ∧ Below w.heap.size w w' := by
  have hb := rowF_bounds hz
  have hpos := hb.2.2.1 hne
  have hm := hb.2.2.2 0 (by omega) (by omega)
  have hm0 := (mom0_bound xs hz.each).1
  have h2 := hb.2.1
  have M := Lib.hid (centreOf_yes v xs w hr hz hne)
  clear hr hz hb hne
  generalize momF 0 xs = m at *
  generalize wtF xs = n at *
  have ct := cut_tdiv m n (by omega)
  have cw := cut_whole m n (by omega)
  have cp := cut_pos m n (by omega)
  have ca := (cut_sign m n (by omega)).2 hm0
  have cu : cutA m n ≤ m := by
    have := tdiv_small m (Nat.gcd m.natAbs n.natAbs)
    have e : cutA m n = Int.tdiv m (Nat.gcd m.natAbs n.natAbs : Nat) := rfl
    rw [← e] at this
    omega
  have ct2 : cutB m n ≤ n := by
    have := tdiv_small n (Nat.gcd m.natAbs n.natAbs)
    have e : cutB m n = Int.tdiv n (Nat.gcd m.natAbs n.natAbs : Nat) := rfl
    rw [← e] at this
    omega
  have cu2 : cutA m n ≤ 71280 := by omega
  have ct3 : cutB m n ≤ 1188 := by omega
  have hT := (narrow_low m n hm0 (by omega)).2.2
  have hT2 : Int.tdiv m n ≤ m := by rw [Int.tdiv_eq_ediv_of_nonneg hm0]; exact Int.ediv_le_self _ hm0
  unfold highF
  generalize cutA m n = u at *
  generalize cutB m n = t at *
  generalize hd : Int.tdiv m n = d at *
  have hud : u / t = d := by rw [← Int.tdiv_eq_ediv_of_nonneg ca]; exact ct
  have ht0 : ¬ t = 0 := by omega
  by_cases hw : d * n = m
  · rw [if_pos hw]
    obtain ⟨rfl, rfl⟩ := cw.2 hw
    have HX := Lib.hid hw
    have Q := eq_two u 1 u 1
    rw [show ((u == u) && ((1 : Int) == 1)) = true by simp] at Q
    clear hw cw ct hud hd
    go_enter Try.func60, Try.ntmps60
    go_wp2_with fail
    refine M.out.mono ?_
    rintro e w1 ⟨rfl, l1⟩
    go_wp2
    go_ret3
    exact ⟨rfl, l1.trans (((Below.refl _ _).alloc (Nat.le_refl _) _).mono l1.size)⟩
  · rw [if_neg hw]
    have hbq : ((u == d) && (t == 1)) = false := by
      cases e1 : (u == d) with
      | false => rfl
      | true =>
        cases e2 : (t == 1) with
        | false => rfl
        | true => exact absurd (cw.1 ⟨by simpa using e1, by simpa using e2⟩) hw
    have Q := eq_two u t d 1
    rw [hbq] at Q
    have HX := Lib.hid hw
    clear hw cw ct hd hbq
    subst hud
    have k1 : -9223372036854775808 ≤ u / t := by omega
    have k2 : u / t + 1 ≤ 9223372036854775807 := by omega
    go_enter Try.func60, Try.ntmps60
    go_wp2_with fail
    refine M.out.mono ?_
    rintro e w1 ⟨rfl, l1⟩
    go_wp2
    go_ret3
    exact ⟨rfl, l1.trans (((Below.refl _ _).alloc (Nat.le_refl _) _).mono l1.size)⟩
end Go.Proofs.Ythihamjgfemacaa
