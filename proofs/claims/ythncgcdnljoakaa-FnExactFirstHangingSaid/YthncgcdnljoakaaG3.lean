/- Loads, PairRow, RowFacts, as one text. -/
import Derived.Test.YthncgcdnljoakaaG2
import Derived.Lib.Hide
import Derived.Below
import Derived.WalkKit
import Derived.OwnWalk
import Derived.Deep.QuietTactic
import Derived.BigQuiet
namespace Go.Proofs.Ythncgcdnljoakaa
open Go.RowKit
/-- The slice value v reads as the loads xs. -/
def LoadRow (w : World) (v : Value) (xs : List (Int × Int)) : Prop :=
  ∃ a c, v = .slice a xs.length c ∧ (xs = [] ∨ ∃ g off, a = some ⟨g, off, none⟩ ∧ g < w.heap.size ∧ ∀ j, j < xs.length → w.cell? ⟨g, off + j * 2, none⟩ = some (.int .i64 (xs.getD j (0, 0)).1) ∧ w.cell? ⟨g, off + j * 2 + 1, none⟩ = some (.int .i64 (xs.getD j (0, 0)).2))
theorem LoadRow.lo {w w' : World} {v : Value} {xs : List (Int × Int)} (h : LoadRow w v xs) (l : Below w.heap.size w w') : LoadRow w' v xs := by
  obtain ⟨a, c, rfl, h⟩ := h
  refine ⟨a, c, rfl, ?_⟩
  rcases h with h | ⟨g, off, e, hg, hc⟩
  · exact .inl h
  · exact .inr ⟨g, off, e, Nat.lt_of_lt_of_le hg l.size, fun j hj => by
      rw [l.cell (p := ⟨g, off + j * 2, none⟩) hg, l.cell (p := ⟨g, off + j * 2 + 1, none⟩) hg]; exact hc j hj⟩
theorem drewN_below (w : World) (n : Nat) : Below w.heap.size w (w.drewN n) := (Below.refl _ _).trans ⟨rfl, rfl, rfl, Nat.le_refl _, fun _ _ => rfl⟩
theorem l1In_any (x a b : Int) (w : World) : Calls Try.prog 92 #[.int .i64 x, .int .i64 a, .int .i64 b] w fun e w' => e = .returned (.bool (decide (a ≤ x) && decide (x ≤ b))) ∧ w = w' := by
  by_cases h1 : a ≤ x
  · by_cases h2 : x ≤ b
    all_goals go_enter Try.func92, Try.ntmps92
    all_goals go_wp2
    all_goals go_ret
    all_goals exact ⟨by simp [h1, h2], rfl⟩
  · go_enter Try.func92, Try.ntmps92
    go_wp2
    go_ret
    exact ⟨by simp; omega, rfl⟩
theorem l2In_any (x : Int) (w : World) : Calls Try.prog 158 #[.int .i64 x] w fun e w' => e = .returned (.bool (decide (0 ≤ x) && decide (x ≤ 60))) ∧ w = w' := by
  go_enter Try.func158, Try.ntmps158
  go_wp2_with fail
  refine (l1In_any x 0 60 w).mono ?_
  rintro e w' ⟨rfl, rfl⟩
  go_wp2
  go_ret
  exact ⟨rfl, rfl⟩
set_option maxHeartbeats 800000 in
theorem l2Moment_any (v : Value) (xs : List (Int × Int)) (m : Int) (w : World) (hr : LoadRow w v xs) (hz : RowF xs) (m0 : 0 ≤ m) (m1 : m ≤ 60) :
    Calls Try.prog 84 #[v, .int .i64 m] w fun e w' => e = .returned (.int .i64 (momF m xs)) ∧ Below w.heap.size w w' := by
  obtain ⟨a, c, rfl, hr⟩ := hr
  have HZ := Lib.hid hz
  have hlen := hz.short
  clear hz
  go_enter Try.func84, Try.ntmps84
  go_wp2
  go_loopw [5, 6] (fun s i wr => ∃ k n : Nat, k ≤ xs.length ∧ i = .int .i64 k ∧ s = .int .i64 (momF m (xs.take k)) ∧ wr = w.drewN n) (fun _ i _ => xs.length - (intOf i).toNat)
  case atStart => exact ⟨0, 0, Nat.zero_le _, rfl, rfl, rfl⟩
  case round =>
    obtain ⟨k, n, hk, rfl, rfl, rfl⟩ := hrel
    by_cases hlt : k < xs.length
    · rcases hr with h | ⟨g, off, rfl, _, hc⟩
      · subst h; simp at hlt
      have h1 := (hc k hlt).1
      have h2 := (hc k hlt).2
      have hlt' : (k : Int) < (xs.length : Int) := by omega
      have hb := (rowF_bounds (rowF_take HZ.out k)).2.2.2 m m0 m1
      have hb2 := (rowF_bounds (rowF_take HZ.out (k + 1))).2.2.2 m m0 m1
      have hs := mom_take m xs k hlt
      have he := HZ.out.each _ (show xs.getD k (0, 0) ∈ xs by simp only [List.getD, List.getElem?_eq_getElem hlt, Option.getD_some]; exact List.getElem_mem hlt)
      obtain ⟨y, hy⟩ : ∃ y, momF m (xs.take k) = y := ⟨_, rfl⟩
      obtain ⟨z, hz⟩ : ∃ z, momF m (xs.take (k + 1)) = z := ⟨_, rfl⟩
      generalize xs.getD k (0, 0) = x at h1 h2 hs he
      obtain ⟨p, q⟩ := x
      simp only at h1 h2 hs he
      obtain ⟨⟨e0, e1⟩, e2, e3⟩ := he
      rw [hy] at hs hb ⊢
      rw [hz] at hs hb2
      obtain ⟨y0, y1⟩ := hb
      obtain ⟨z0, z1⟩ := hb2
      obtain ⟨t, ht⟩ : ∃ t, q * (p - m) = t := ⟨_, rfl⟩
      rw [ht] at hs
      have HY := Lib.hid hz
      clear hc hy hz
      have t0 : -9223372036854775808 ≤ q * (p - m) := by omega
      have t1 : q * (p - m) ≤ 9223372036854775807 := by omega
      go_wp2
      go_quiet (fail)
      go_wp2
      go_roundw
      case rel => exact ⟨k + 1, _, by omega, by go_num, by rw [HY.out, hs], rfl⟩
      case measure => simp [intOf]; omega
    · obtain rfl : k = xs.length := by omega
      have hge : ¬ (xs.length : Int) < (xs.length : Int) := by omega
      go_wp2
      go_ret
      exact ⟨rfl, drewN_below w n⟩
def rowB (xs : List (Int × Int)) : Bool := decide (xs.length ≤ 12) && xs.all loadB
theorem rowB_iff (xs : List (Int × Int)) : rowB xs = true ↔ RowF xs := by
  rw [rowF_iff]
  simp [rowB]
set_option maxHeartbeats 800000 in
theorem l2Row_any (v : Value) (xs : List (Int × Int)) (w : World) (hr : LoadRow w v xs) :
    Calls Try.prog 126 #[v] w fun e w' => e = .returned (.bool (rowB xs)) ∧ w = w' := by
  obtain ⟨a, c, rfl, hr⟩ := hr
  go_enter Try.func126, Try.ntmps126
  go_wp2
  go_loopw [3] (fun i wr => ∃ k : Nat, k ≤ xs.length ∧ k ≤ 13 ∧ i = .int .i64 k ∧ Hid (∀ j, j < k → loadB (xs.getD j (0, 0)) = true) ∧ wr = w) (fun i _ => xs.length - (intOf i).toNat)
  case atStart => exact ⟨0, Nat.zero_le _, by omega, rfl, Lib.hid (fun j h => by omega), rfl⟩
  case round =>
    obtain ⟨k, hk, hk2, rfl, HL, rfl⟩ := hrel
    by_cases hlt : k < xs.length ∧ k ≤ 12
    · obtain ⟨hlt, h12⟩ := hlt
      rcases hr with h | ⟨g, off, rfl, _, hc⟩
      · subst h; simp at hlt
      have h1 := (hc k hlt).1
      have h2 := (hc k hlt).2
      have hlt' : (k : Int) < (xs.length : Int) := by omega
      have h12' : (k : Int) ≤ 12 := by omega
      obtain ⟨x, hx⟩ : ∃ x, xs.getD k (0, 0) = x := ⟨_, rfl⟩
      rw [hx] at h1 h2
      have HX := Lib.hid hx
      have HM := Lib.hid (show xs.getD k (0, 0) ∈ xs by simp only [List.getD, List.getElem?_eq_getElem hlt, Option.getD_some]; exact List.getElem_mem hlt)
      clear hx hc
      obtain ⟨p, q⟩ := x
      simp only at h1 h2
      obtain ⟨b1, hb1⟩ : ∃ b, (decide (0 ≤ p) && decide (p ≤ 60)) = b := ⟨_, rfl⟩
      obtain ⟨b2, hb2⟩ : ∃ b, (decide (1 ≤ q) && decide (q ≤ 99)) = b := ⟨_, rfl⟩
      have C1 := fun w => l2In_any p w
      have C2 := fun w => l1In_any q 1 99 w
      rw [hb1] at C1
      rw [hb2] at C2
      have HB := Lib.hid (show loadB (p, q) = (b1 && b2) by rw [← hb1, ← hb2]; rfl)
      have HN := Lib.hid (show (b1 && b2) = false → rowB xs = false from fun h => by
        rw [← HB.out] at h
        cases hq : rowB xs with
        | false => rfl
        | true =>
          unfold rowB at hq
          rw [Bool.and_eq_true, List.all_eq_true] at hq
          have := hq.2 _ HM.out
          rw [HX.out, h] at this
          cases this)
      have D1 := Lib.hid C1
      have D2 := Lib.hid C2
      clear C1 C2 hb1 hb2
      cases b1 with
      | false =>
        have HF := Lib.hid (HN.out rfl)
        clear HN HB
        go_wp2_with fail
        refine (D1.out _).mono ?_
        rintro e w' ⟨rfl, rfl⟩
        go_wp2
        go_ret
        exact ⟨by rw [HF.out]; rfl, rfl⟩
      | true =>
        cases b2 with
        | false =>
          have HF := Lib.hid (HN.out rfl)
          clear HN HB
          go_wp2_with fail
          refine (D1.out _).mono ?_
          rintro e w' ⟨rfl, rfl⟩
          go_wp2_with fail
          refine (D2.out _).mono ?_
          rintro e w' ⟨rfl, rfl⟩
          go_wp2
          go_ret
          exact ⟨by rw [HF.out]; rfl, rfl⟩
        | true =>
          clear HN
          go_wp2_with fail
          refine (D1.out _).mono ?_
          rintro e w' ⟨rfl, rfl⟩
          go_wp2_with fail
          refine (D2.out _).mono ?_
          rintro e w' ⟨rfl, rfl⟩
          go_wp2
          go_roundw
          case rel =>
            refine ⟨k + 1, by omega, by omega, by go_num, Lib.hid (fun j hj => ?_), trivial⟩
            by_cases e : j = k
            · subst e; rw [HX.out]; exact HB.out
            · exact HL.out j (by omega)
          case measure => simp [intOf]; omega
    · by_cases hend : k = xs.length
      · subst hend
        have hge : ¬ (xs.length : Int) < (xs.length : Int) := by omega
        have HF := Lib.hid (show rowB xs = decide (xs.length ≤ 12) by
          unfold rowB
          have : xs.all loadB = true := List.all_eq_true.2 (fun x hx => by
            obtain ⟨j, hj, e⟩ := List.mem_iff_getElem.1 hx
            have := HL.out j hj
            simp only [List.getD, List.getElem?_eq_getElem hj, Option.getD_some, e] at this
            exact this)
          rw [this, Bool.and_true])
        by_cases h12 : xs.length ≤ 12
        · have h12' : (xs.length : Int) ≤ 12 := by omega
          go_wp2
          go_ret
          exact ⟨by rw [HF.out]; simp [h12], rfl⟩
        · have h12' : ¬ (xs.length : Int) ≤ 12 := by omega
          go_wp2
          go_ret
          exact ⟨by rw [HF.out]; simp [h12], rfl⟩
      · have hlt' : (k : Int) < (xs.length : Int) := by omega
        have h12 : ¬ (k : Int) ≤ 12 := by omega
        have h13 : ¬ (xs.length : Int) ≤ 12 := by omega
        have HF := Lib.hid (show rowB xs = false by unfold rowB; rw [show decide (xs.length ≤ 12) = false by simp; omega, Bool.false_and])
        go_wp2
        go_ret
        exact ⟨by rw [HF.out]; rfl, rfl⟩
end Go.Proofs.Ythncgcdnljoakaa
namespace Go.Proofs.Ythncgcdnljoakaa
open Go.RowKit
theorem cell_lt {w : World} {p : Addr} {v : Value} (h : w.cell? p = some v) : p.block < w.heap.size := by
  rcases Nat.lt_or_ge p.block w.heap.size with h' | h'
  · exact h'
  · simp [World.cell?, Array.getElem?_eq_none h'] at h
theorem pairs_row {w : World} {a : Option Addr} {len cap : Nat} {zs : List (Int × Int)} (h : IsPairs .i64 w a len cap zs) : zs.length = len ∧ len ≤ maxLen ∧ LoadRow w (.slice a zs.length cap) zs := by
  obtain ⟨hl, hc, hm, hd⟩ := h
  refine ⟨hl, by omega, a, cap, rfl, ?_⟩
  by_cases h0 : zs = []
  · exact .inl h0
  · have hpos : 0 < zs.length := List.length_pos_iff.2 h0
    rcases hd with ⟨_, h2, _⟩ | ⟨⟨b, off, spot⟩, rfl, hp⟩
    · omega
    · have hc0 := (hp 0 (by omega)).one
      have hs : spot = none := by simpa [Addr.add] using World.cell?_spot hc0
      subst hs
      rw [Go.WideShapes.add_plain] at hc0
      refine .inr ⟨b, off, rfl, cell_lt hc0, fun i hi => ?_⟩
      have h1 := (hp i (by omega)).one
      have h2 := (hp i (by omega)).two
      rw [Go.WideShapes.add_plain] at h1 h2
      exact ⟨h1, by rw [Nat.add_assoc]; exact h2⟩
end Go.Proofs.Ythncgcdnljoakaa
namespace Go.Proofs.Ythncgcdnljoakaa
/-- The side to which a row tips, or 0. -/
def sideF (a b : Int) (zs : List (Int × Int)) : Int := if momF a zs < 0 then -1 else if 0 < momF b zs then 1 else 0
theorem side_zero (a b : Int) (zs : List (Int × Int)) : sideF a b zs = 0 ↔ 0 ≤ momF a zs ∧ momF b zs ≤ 0 := by
  unfold sideF
  split
  · simp; omega
  · split
    · simp; omega
    · simp; omega
theorem react_side (a b : Int) (zs : List (Int × Int)) (h : a < b) : (0 ≤ cutA (-momF b zs) (b - a) ∧ 0 ≤ cutA (momF a zs) (b - a)) ↔ sideF a b zs = 0 := by
  rw [cut_sign _ _ (by omega), cut_sign _ _ (by omega), side_zero]
  omega
theorem react_sum (a b : Int) (zs : List (Int × Int)) (h : a < b) :
    cutA (-momF b zs) (b - a) * cutB (momF a zs) (b - a) + cutA (momF a zs) (b - a) * cutB (-momF b zs) (b - a) = wtF zs * cutB (-momF b zs) (b - a) * cutB (momF a zs) (b - a) := by
  have h1 := cut_cross (-momF b zs) (b - a)
  have h2 := cut_cross (momF a zs) (b - a)
  have hm := mom_move a b zs
  obtain ⟨d, hd⟩ : ∃ d, b - a = d := ⟨_, rfl⟩
  rw [hd] at h1 h2 hm
  have hpos : d ≠ 0 := by omega
  rw [hd]
  generalize cutA (-momF b zs) d = u at *
  generalize cutB (-momF b zs) d = v at *
  generalize cutA (momF a zs) d = x at *
  generalize cutB (momF a zs) d = y at *
  generalize wtF zs = w at *
  refine Int.eq_of_mul_eq_mul_right hpos ?_
  calc (u * y + x * v) * d = (u * d) * y + (x * d) * v := by rw [Int.add_mul, Int.mul_right_comm u y d, Int.mul_right_comm x v d]
    _ = (-momF b zs * v) * y + (momF a zs * y) * v := by rw [h1, h2]
    _ = -momF b zs * (v * y) + momF a zs * (v * y) := by rw [Int.mul_assoc, Int.mul_assoc, Int.mul_comm y v]
    _ = (momF a zs - momF b zs) * (v * y) := by rw [← Int.add_mul]; congr 1; omega
    _ = (d * w) * (v * y) := by congr 1; omega
    _ = w * v * y * d := by rw [Int.mul_assoc w v y, Int.mul_comm d w, Int.mul_assoc w d, Int.mul_comm d (v * y), ← Int.mul_assoc]
theorem mirror_side (a b c : Int) (zs : List (Int × Int)) (h : a ≤ b) (hw : 0 ≤ wtF zs) : sideF (c - b) (c - a) (moved (-1) c zs) = - sideF a b zs := by
  have hm := mom_move a b zs
  have hk : 0 ≤ (b - a) * wtF zs := Int.mul_nonneg (by omega) hw
  unfold sideF
  rw [mom_mirror, mom_mirror]
  repeat' split
  all_goals omega
theorem stand_both (a b : Int) (xs ys : List (Int × Int)) (hx : sideF a b xs = 0) (hy : sideF a b ys = 0) : sideF a b (xs ++ ys) = 0 := by
  rw [side_zero] at *
  rw [mom_app, mom_app]
  omega
/-- One more load stands between two places at which it stands. -/
theorem stand_between (a b w l q h : Int) (zs : List (Int × Int)) (hw : 0 ≤ w) (h1 : l ≤ q) (h2 : q ≤ h) (hl : sideF a b (zs ++ [(l, w)]) = 0) (hh : sideF a b (zs ++ [(h, w)]) = 0) : sideF a b (zs ++ [(q, w)]) = 0 := by
  rw [side_zero, mom_snoc, mom_snoc] at *
  simp only at *
  have a1 : w * (l - a) ≤ w * (q - a) := Int.mul_le_mul_of_nonneg_left (by omega) hw
  have a2 : w * (q - b) ≤ w * (h - b) := Int.mul_le_mul_of_nonneg_left (by omega) hw
  omega
/-- The narrow base. -/
theorem narrow_low (m w : Int) (hm : 0 ≤ m) (hw : 0 < w) : Int.tdiv m w * w ≤ m ∧ m < (Int.tdiv m w + 1) * w ∧ 0 ≤ Int.tdiv m w := by
  rw [Int.tdiv_eq_ediv_of_nonneg hm]
  have h1 := Int.mul_ediv_add_emod m w
  have h2 := Int.emod_nonneg m (show w ≠ 0 by omega)
  have h3 := Int.emod_lt_of_pos m hw
  have h4 : 0 ≤ m / w := Int.ediv_nonneg hm (by omega)
  rw [Int.add_mul, Int.one_mul, Int.mul_comm (m / w) w]
  omega
theorem narrow_on (zs : List (Int × Int)) (hm : 0 ≤ momF 0 zs) (hw : 0 < wtF zs) : sideF (Int.tdiv (momF 0 zs) (wtF zs)) (Int.tdiv (momF 0 zs) (wtF zs) + 1) zs = 0 := by
  have h := narrow_low _ _ hm hw
  rw [side_zero, mom_at, mom_at (Int.tdiv (momF 0 zs) (wtF zs) + 1)]
  omega
theorem narrow_at (zs : List (Int × Int)) (l : Int) (h : l * wtF zs = momF 0 zs) : sideF l l zs = 0 := by
  rw [side_zero, mom_at]
  omega
theorem narrow_one (m w : Int) (hw : 0 < w) : cutB m w = 1 ↔ Int.tdiv m w * w = m := by
  rw [cut_one _ _ hw]
  constructor
  · intro h; exact Int.tdiv_mul_cancel h
  · intro h; exact ⟨Int.tdiv m w, by rw [Int.mul_comm]; exact h.symm⟩
theorem centre_none (zs : List (Int × Int)) (h : cutB (momF 0 zs) (wtF zs) = 1) : momF (cutA (momF 0 zs) (wtF zs)) zs = 0 := by
  have hc := cut_cross (momF 0 zs) (wtF zs)
  rw [h, Int.mul_one] at hc
  rw [mom_at, hc]
  omega
/-- The weight of all loads at a place. -/
def sumAt (p : Int) : List (Int × Int) → Int
  | [] => 0
  | x :: l => (if x.1 = p then x.2 else 0) + sumAt p l
/-- One load for each place below n, in order. -/
def mergedF (zs : List (Int × Int)) : Nat → List (Int × Int)
  | 0 => []
  | n + 1 => mergedF zs n ++ (if 0 < sumAt n zs then [((n : Int), sumAt n zs)] else [])
theorem sumAt_app (p : Int) (xs ys : List (Int × Int)) : sumAt p (xs ++ ys) = sumAt p xs + sumAt p ys := by
  induction xs with
  | nil => simp [sumAt]
  | cons x l ih => simp only [List.cons_append, sumAt, ih]; omega
theorem sumAt_take (p : Int) (xs : List (Int × Int)) (k : Nat) (h : k < xs.length) : sumAt p (xs.take (k + 1)) = sumAt p (xs.take k) + (if (xs.getD k (0, 0)).1 = p then (xs.getD k (0, 0)).2 else 0) := by
  rw [List.take_add_one, List.getElem?_eq_getElem h, List.getD, List.getElem?_eq_getElem h, sumAt_app]
  simp [sumAt]
theorem sumAt_bound (p : Int) (xs : List (Int × Int)) (h : ∀ x ∈ xs, (0 ≤ x.1 ∧ x.1 ≤ 60) ∧ 1 ≤ x.2 ∧ x.2 ≤ 99) : 0 ≤ sumAt p xs ∧ sumAt p xs ≤ wtF xs := by
  induction xs with
  | nil => simp [sumAt, wtF]
  | cons x l ih =>
    have h1 := h x (by simp)
    have h2 := ih (fun y hy => h y (by simp [hy]))
    simp only [sumAt, wtF]
    split <;> omega
def momP (q : Int) (zs : List (Int × Int)) : Nat → Int
  | 0 => 0
  | n + 1 => momP q zs n + sumAt n zs * (n - q)
theorem merged_mom (q : Int) (zs : List (Int × Int)) (h : ∀ p, 0 ≤ sumAt p zs) : ∀ n, momF q (mergedF zs n) = momP q zs n := by
  intro n
  induction n with
  | zero => rfl
  | succ n ih =>
    rw [mergedF, momP, mom_app, ih]
    split
    · simp [momF]
    · have := h n
      have e : sumAt n zs = 0 := by omega
      rw [e]
      simp [momF]
theorem momP_cons (q : Int) (x : Int × Int) (l : List (Int × Int)) (h0 : 0 ≤ x.1) : ∀ n : Nat, momP q (x :: l) n = momP q l n + (if x.1 < n then x.2 * (x.1 - q) else 0) := by
  intro n
  induction n with
  | zero => simp [momP]; omega
  | succ n ih =>
    rw [momP, momP, ih, sumAt]
    by_cases h1 : x.1 < (n : Int)
    · rw [if_pos h1, if_neg (by omega), if_pos (by omega), Int.zero_add]
      omega
    · by_cases h2 : x.1 = (n : Int)
      · rw [if_neg h1, if_pos h2, if_pos (by omega), Int.add_mul, h2]
        omega
      · rw [if_neg h1, if_neg h2, if_neg (by omega), Int.zero_add]
        omega
theorem momP_nil (q : Int) : ∀ n, momP q [] n = 0 := by
  intro n
  induction n with
  | zero => rfl
  | succ n ih => rw [momP, ih, sumAt]; simp
theorem momP_all (q : Int) (n : Nat) (zs : List (Int × Int)) (h : ∀ x ∈ zs, 0 ≤ x.1 ∧ x.1 < n) : momP q zs n = momF q zs := by
  induction zs with
  | nil => rw [momP_nil]; rfl
  | cons x l ih =>
    have h1 := h x (by simp)
    rw [momP_cons q x l h1.1, ih (fun y hy => h y (by simp [hy])), if_pos h1.2, momF]
    omega
theorem merged_same (q : Int) {zs : List (Int × Int)} (h : RowF zs) : momF q (mergedF zs 61) = momF q zs := by
  rw [merged_mom q zs (fun p => (sumAt_bound p zs h.each).1), momP_all q 61 zs (fun x hx => by have := h.each x hx; omega)]
theorem merged_below (zs : List (Int × Int)) : ∀ n, ∀ x ∈ mergedF zs n, 0 ≤ x.1 ∧ x.1 < n ∧ 0 < x.2 := by
  intro n
  induction n with
  | zero => intro x hx; cases hx
  | succ n ih =>
    intro x hx
    rw [mergedF] at hx
    rcases List.mem_append.1 hx with h | h
    · have := ih x h; omega
    · split at h
      · simp at h; subst h; simp; omega
      · cases h
theorem merged_rise (zs : List (Int × Int)) : ∀ n, (mergedF zs n).Pairwise (fun x y => x.1 < y.1) := by
  intro n
  induction n with
  | zero => exact List.Pairwise.nil
  | succ n ih =>
    rw [mergedF, List.pairwise_append]
    refine ⟨ih, ?_, ?_⟩
    · split <;> simp
    · intro x hx y hy
      have := merged_below zs n x hx
      split at hy
      · simp at hy; subst hy; exact this.2.1
      · cases hy
theorem merged_len (zs : List (Int × Int)) : ∀ n, (mergedF zs n).length ≤ n := by
  intro n
  induction n with
  | zero => simp [mergedF]
  | succ n ih => rw [mergedF, List.length_append]; split <;> simp <;> omega
end Go.Proofs.Ythncgcdnljoakaa
