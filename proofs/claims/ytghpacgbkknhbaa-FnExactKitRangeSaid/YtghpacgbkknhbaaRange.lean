/- The contracts of KitRange, the program's and the model's. -/
import Derived.Test.YtghpacgbkknhbaaTold
namespace Go.Proofs.Ytghpacgbkknhbaa
open Go.RowKit
/-- How many of n, n + 1, .. a list begins with. -/
def preF : List Int → Int → Nat
  | [], _ => 0
  | x :: l, n => if x = n then preF l (n + 1) + 1 else 0
theorem preF_le : ∀ (l : List Int) (n : Int), preF l n ≤ l.length := by
  intro l
  induction l with
  | nil => intro n; exact Nat.le_refl _
  | cons x l ih =>
    intro n
    rw [preF]
    have := ih (n + 1)
    split <;> simp <;> omega
theorem preF_at : ∀ (l : List Int) (n : Int) (r : Nat), r < preF l n → l.getD r 0 = n + r := by
  intro l
  induction l with
  | nil => intro n r h; simp [preF] at h
  | cons x l ih =>
    intro n r h
    rw [preF] at h
    split at h
    · rename_i e
      cases r with
      | zero => simp [e]
      | succ r =>
        have := ih (n + 1) r (by omega)
        rw [List.getD_cons_succ, this]
        omega
    · omega
theorem preF_end : ∀ (l : List Int) (n : Int), preF l n < l.length → l.getD (preF l n) 0 ≠ n + preF l n := by
  intro l
  induction l with
  | nil => intro n h; simp at h
  | cons x l ih =>
    intro n h
    rw [preF] at h ⊢
    by_cases e : x = n
    · rw [if_pos e] at h ⊢
      rw [List.getD_cons_succ]
      have := ih (n + 1) (by simpa using h)
      intro e2
      apply this
      rw [e2]
      omega
    · rw [if_neg e] at h ⊢
      simpa using e
/-- The range of a kit. -/
noncomputable def rngF (lo : Int) (xs : List Int) : Nat := preF (toldF lo xs) 1
theorem rise_at {l : List Int} (h : l.Pairwise (· < ·)) {i j : Nat} (hij : i < j) (hj : j < l.length) : l.getD i 0 < l.getD j 0 := by
  have := List.pairwise_iff_getElem.1 h i j (by omega) hj hij
  simpa [List.getD, List.getElem?_eq_getElem hj, List.getElem?_eq_getElem (show i < l.length by omega)] using this
theorem rng_in {lo : Int} {xs : List Int} (hl : lo = 0 ∨ lo = -1) (K : KitF xs) {r : Nat} (h : r < rngF lo xs) : ReachF lo xs xs.length ((r : Int) + 1) := by
  have h1 := preF_at _ _ r h
  have h2 := preF_le (toldF lo xs) 1
  have hr : r < (toldF lo xs).length := Nat.lt_of_lt_of_le h h2
  have : (toldF lo xs).getD r 0 ∈ toldF lo xs := by
    simp only [List.getD, List.getElem?_eq_getElem hr, Option.getD_some]
    exact List.getElem_mem hr
  rw [h1] at this
  have := ((told_mem hl K _).1 this).2
  rw [show (r : Int) + 1 = 1 + (r : Int) by omega]
  exact this
theorem rng_out {lo : Int} {xs : List Int} (hl : lo = 0 ∨ lo = -1) (K : KitF xs) : ¬ ReachF lo xs xs.length ((rngF lo xs : Int) + 1) := by
  intro h
  have hm := (told_mem hl K _).2 ⟨by omega, h⟩
  obtain ⟨j, hj, e⟩ := List.mem_iff_getElem.1 hm
  have hgj : (toldF lo xs).getD j 0 = (rngF lo xs : Int) + 1 := by simp only [List.getD, List.getElem?_eq_getElem hj, Option.getD_some]; exact e
  have hrj : rngF lo xs ≤ j := by
    rcases Nat.lt_or_ge j (rngF lo xs) with hh | hh
    · have := preF_at _ _ j hh
      rw [hgj] at this
      omega
    · exact hh
  have hend := preF_end (toldF lo xs) 1 (show preF (toldF lo xs) 1 < _ from Nat.lt_of_le_of_lt hrj hj)
  have hge : 1 + (rngF lo xs : Int) ≤ (toldF lo xs).getD (rngF lo xs) 0 := by
    by_cases h0 : rngF lo xs = 0
    · have hlt : 0 < (toldF lo xs).length := by omega
      have hm0 : (toldF lo xs).getD 0 0 ∈ toldF lo xs := by
        simp only [List.getD, List.getElem?_eq_getElem hlt, Option.getD_some]
        exact List.getElem_mem hlt
      have := ((told_mem hl K _).1 hm0).1
      rw [h0]
      omega
    · have h1 := preF_at (toldF lo xs) 1 (rngF lo xs - 1) (show rngF lo xs - 1 < rngF lo xs by omega)
      have h2 := rise_at (told_rise lo xs) (show rngF lo xs - 1 < rngF lo xs by omega) (show rngF lo xs < (toldF lo xs).length by omega)
      omega
  rcases Nat.lt_or_ge (rngF lo xs) j with hh | hh
  · have := rise_at (told_rise lo xs) hh hj
    omega
  · have : j = rngF lo xs := by omega
    subst this
    exact hend (by rw [show preF (toldF lo xs) 1 = rngF lo xs from rfl]; omega)
/-- What KitRange answers. -/
noncomputable def rangeR (two : Bool) (xs : List Int) : Int × Bool := if kitB xs = true then ((rngF (loF two) xs : Nat), true) else (0, false)
set_option maxRecDepth 100000 in
set_option maxHeartbeats 800000 in
theorem kitRange_impl (v : Value) (xs : List Int) (two : Bool) (w : World) (hr : IntRow w v xs) (hn : xs.length ≤ 2000000) :
    Calls Try.prog 31 #[v, .bool two] w fun e w' => e = .returned (.tuple #[.int .i64 (rangeR two xs).1, .bool (rangeR two xs).2]) ∧ Below w.heap.size w w' := by
  have C := Lib.hid (weighable_any v xs two w hr hn)
  have hRR : ∃ (ys : List Int) (b : Bool) (r : Nat), weighR two xs = (ys, b) ∧ rangeR two xs = ((r : Int), b) ∧ r = preF ys 1 ∧ ys.length ≤ 2000000 := by
    unfold rangeR weighR
    cases h : kitB xs with
    | true =>
      have := toldF_len (loF two) ((propB_iff _).1 (show propB (KitF xs) = true from h))
      exact ⟨_, _, _, rfl, rfl, rfl, by omega⟩
    | false => exact ⟨[], false, 0, rfl, rfl, rfl, by simp⟩
  obtain ⟨ys, b, r, e1, e2, e3, hy⟩ := hRR
  rw [e1] at C
  rw [e2]
  have HP1 := Lib.hid (preF_le ys 1)
  have HP2 := Lib.hid (preF_at ys 1)
  have HP3 := Lib.hid (preF_end ys 1)
  rw [← e3] at HP1 HP2 HP3
  clear hr e1 e2 e3
  go_enter Try.func31, Try.ntmps31
  go_wp2_with fail
  refine C.out.mono ?_
  rintro e w1 ⟨u, rfl, m, l⟩
  have L := Lib.hid l
  have hur := m.row
  obtain ⟨ua, uc, hue, hur⟩ := hur
  subst hue
  clear m l C
  go_wp2
  go_loopw [8] (fun i wr => ∃ k : Nat, k ≤ r ∧ i = .int .i64 k ∧ wr = w1) (fun i _ => r - (intOf i).toNat)
  case atStart => exact ⟨0, Nat.zero_le _, rfl, rfl⟩
  case round =>
    obtain ⟨k, hk, rfl, rfl⟩ := hrel
    have hrl := HP1.out
    by_cases hlt : k < r
    · rcases hur with h | ⟨g, off, rfl, hg, hc⟩
      · subst h; simp at hrl; omega
      have h1 := hc k (by omega)
      rw [HP2.out k hlt] at h1
      rw [show (1 : Int) + (k : Int) = (k : Int) + 1 by omega] at h1
      have hlt' : (k : Int) < (ys.length : Int) := by omega
      clear hc
      go_wp2
      go_roundw
      case rel => exact ⟨k + 1, by omega, by go_num, trivial⟩
      case measure => simp [intOf]; omega
    · obtain rfl : k = r := by omega
      by_cases hend : k < ys.length
      · rcases hur with h | ⟨g, off, rfl, hg, hc⟩
        · subst h; simp at hend
        have h1 := hc k hend
        have hne := HP3.out hend
        have hlt' : (k : Int) < (ys.length : Int) := by omega
        have hnb : (ys.getD k 0 == (k : Int) + 1) = false := by rw [beq_eq_false_iff_ne]; omega
        generalize ys.getD k 0 = x at h1 hnb
        clear hc hne
        go_wp2
        go_ret2
        exact ⟨rfl, L.out⟩
      · have hge : ¬ (k : Int) < (ys.length : Int) := by omega
        go_wp2
        go_ret2
        exact ⟨rfl, L.out⟩
set_option maxRecDepth 100000 in
set_option maxHeartbeats 800000 in
theorem kitRange_spec (v : Value) (xs : List Int) (two : Bool) (w : World) (hr : IntRow w v xs) (hn : xs.length ≤ 2000000) :
    Calls Try.prog 32 #[v, .bool two] w fun e w' => e = .returned (.tuple #[.int .i64 (rangeR two xs).1, .bool (rangeR two xs).2]) ∧ Below w.heap.size w w' := by
  have IK := Lib.hid (l3Kit_any v xs w hr hn)
  unfold rangeR
  cases h : kitB xs with
  | false =>
    rw [h] at IK
    rw [if_neg (by simp)]
    clear hr h
    go_enter Try.func32, Try.ntmps32
    go_wp2_with fail
    refine IK.out.mono ?_
    rintro e w1 ⟨rfl, l1⟩
    have L1 := Lib.hid l1
    clear l1 IK
    go_wp2
    go_ret2
    exact ⟨rfl, L1.out⟩
  | true =>
    have K := (propB_iff _).1 (show propB (KitF xs) = true from h)
    have HK := Lib.hid K
    rw [h] at IK
    rw [if_pos rfl]
    have SU := Lib.hid (fun w1 (l : Below w.heap.size w w1) => l3Sums_any v xs two w1 (hr.lo l) K)
    have HIN := Lib.hid (fun r (h : r < rngF (loF two) xs) => rng_in (loF_ok two) K h)
    have HOUT := Lib.hid (rng_out (loF_ok two) K)
    have hrle : rngF (loF two) xs ≤ 600 := Nat.le_trans (preF_le _ _) (toldF_len _ K)
    have HBD := Lib.hid (fun z (h : ReachF (loF two) xs xs.length z) => (reach_bound (loF_ok two) K.each xs.length (Nat.le_refl _) z h).2.1)
    generalize rngF (loF two) xs = r at *
    clear hr h K
    go_enter Try.func32, Try.ntmps32
    go_wp2_with fail
    refine IK.out.mono ?_
    rintro e w1 ⟨rfl, l1⟩
    have L1 := Lib.hid l1
    have S1 := Lib.hid (SU.out w1 l1)
    clear l1 IK SU
    go_wp2_with fail
    refine S1.out.mono ?_
    rintro e w2 ⟨u, rfl, t, l2⟩
    have L2 := Lib.hid (lo_on L1.out l2)
    obtain ⟨g, T, c, rfl, hT, hg, hc⟩ := t
    have HC := Lib.hid hc
    have HT := Lib.hid hT
    have hT6 : T ≤ 600 := by have := kit_sum HK.out; omega
    clear l2 S1 L1 hc hT
    go_wp2
    go_loopw [7] (fun i wr => ∃ k : Nat, k ≤ r ∧ i = .int .i64 k ∧ wr = w2) (fun i _ => r - (intOf i).toNat)
    case atStart => exact ⟨0, Nat.zero_le _, rfl, rfl⟩
    case round =>
      obtain ⟨k, hk, rfl, rfl⟩ := hrel
      by_cases hlt : k < r
      · have hre := HIN.out k hlt
        have hkT : k + 1 ≤ T := by
          have := HBD.out _ hre
          rw [List.take_length] at this
          have := HT.out
          omega
        have h1 := HC.out (k + 1) (by omega)
        rw [show ((k + 1 : Nat) : Int) = (k : Int) + 1 by omega, show propB (ReachF (loF two) xs xs.length ((k : Int) + 1)) = true from propB_yes hre] at h1
        have hlt' : (k : Int) + 1 < ((T + 1 : Nat) : Int) := by omega
        clear hre
        go_wp2
        go_roundw
        case rel => exact ⟨k + 1, by omega, by go_num, trivial⟩
        case measure => simp [intOf]; omega
      · obtain rfl : k = r := by omega
        by_cases hkT : k + 1 ≤ T
        · have h1 := HC.out (k + 1) (by omega)
          rw [show ((k + 1 : Nat) : Int) = (k : Int) + 1 by omega, show propB (ReachF (loF two) xs xs.length ((k : Int) + 1)) = false from propB_no HOUT.out] at h1
          have hlt' : (k : Int) + 1 < ((T + 1 : Nat) : Int) := by omega
          go_wp2
          go_ret2
          exact ⟨rfl, L2.out⟩
        · have hge : ¬ (k : Int) + 1 < ((T + 1 : Nat) : Int) := by omega
          go_wp2
          go_ret2
          exact ⟨rfl, L2.out⟩
end Go.Proofs.Ytghpacgbkknhbaa
