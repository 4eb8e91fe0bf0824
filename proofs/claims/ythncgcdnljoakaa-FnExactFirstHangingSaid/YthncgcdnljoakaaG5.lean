/- Impl2, Gcd, Impl3, Impl4, as one text. -/
import Derived.Test.YthncgcdnljoakaaG4
namespace Go.Proofs.Ythncgcdnljoakaa
open Go.RowKit
theorem isBase_any (a b : Int) (w : World) : Calls Try.prog 160 #[.int .i64 a, .int .i64 b] w fun e w' => e = .returned (.bool (decide (0 ≤ a) && decide (a ≤ 60) && (decide (0 ≤ b) && decide (b ≤ 60)) && decide (a ≤ b))) ∧ w = w' := by
  have C1 := isPlace_any a w
  have C2 := isPlace_any b w
  obtain ⟨b1, hb1⟩ : ∃ x, (decide (0 ≤ a) && decide (a ≤ 60)) = x := ⟨_, rfl⟩
  obtain ⟨b2, hb2⟩ : ∃ x, (decide (0 ≤ b) && decide (b ≤ 60)) = x := ⟨_, rfl⟩
  rw [hb1] at C1 ⊢
  rw [hb2] at C2 ⊢
  have D1 := Lib.hid C1
  have D2 := Lib.hid C2
  clear C1 C2 hb1 hb2
  cases b1 with
  | false =>
    go_enter Try.func160, Try.ntmps160
    go_wp2_with fail
    refine D1.out.mono ?_
    rintro e w' ⟨rfl, rfl⟩
    go_wp2
    go_ret
    exact ⟨rfl, rfl⟩
  | true =>
    cases b2 with
    | false =>
      go_enter Try.func160, Try.ntmps160
      go_wp2_with fail
      refine D1.out.mono ?_
      rintro e w' ⟨rfl, rfl⟩
      go_wp2_with fail
      refine D2.out.mono ?_
      rintro e w' ⟨rfl, rfl⟩
      go_wp2
      go_ret
      exact ⟨rfl, rfl⟩
    | true =>
      by_cases h : a ≤ b
      all_goals go_enter Try.func160, Try.ntmps160
      all_goals go_wp2_with fail
      all_goals refine D1.out.mono ?_
      all_goals rintro e w' ⟨rfl, rfl⟩
      all_goals go_wp2_with fail
      all_goals refine D2.out.mono ?_
      all_goals rintro e w' ⟨rfl, rfl⟩
      all_goals go_wp2
      all_goals go_ret
      all_goals exact ⟨by simp [h], rfl⟩
set_option maxHeartbeats 800000 in
theorem weightOf_yes (v : Value) (xs : List (Int × Int)) (w : World) (hr : LoadRow w v xs) (hz : RowF xs) :
    Calls Try.prog 70 #[v] w fun e w' => e = .returned (.tuple #[.int .i64 (wtF xs), .bool true]) ∧ Below w.heap.size w w' := by
  have C := isRow_any v xs w hr
  rw [(rowB_iff xs).2 hz] at C
  have D := Lib.hid C
  obtain ⟨a, c, rfl, hr⟩ := hr
  have HZ := Lib.hid hz
  have hlen := hz.short
  clear C hz
  go_enter Try.func70, Try.ntmps70
  go_wp2_with fail
  refine D.out.mono ?_
  rintro e w1 ⟨rfl, l1⟩
  go_wp2
  go_loopw [4, 12] (fun s i wr => ∃ k : Nat, k ≤ xs.length ∧ i = .int .i64 k ∧ s = .int .i64 (wtF (xs.take k)) ∧ Below w.heap.size w wr) (fun _ i _ => xs.length - (intOf i).toNat)
  case atStart => exact ⟨0, Nat.zero_le _, rfl, rfl, l1⟩
  case round =>
    obtain ⟨k, hk, rfl, rfl, hw⟩ := hrel
    clear l1 D
    have hb := rowF_bounds (rowF_take HZ.out k)
    by_cases hlt : k < xs.length
    · rcases hr with h | ⟨g, off, rfl, hg, hc⟩
      · subst h; simp at hlt
      have h1 := (hc k hlt).1
      have h2 := (hc k hlt).2
      rw [← hw.cell (p := ⟨g, off + k * 2, none⟩) hg] at h1
      rw [← hw.cell (p := ⟨g, off + k * 2 + 1, none⟩) hg] at h2
      have hlt' : (k : Int) < (xs.length : Int) := by omega
      have hb2 := rowF_bounds (rowF_take HZ.out (k + 1))
      have hs := wt_take xs k hlt
      obtain ⟨y, hy⟩ : ∃ y, wtF (xs.take k) = y := ⟨_, rfl⟩
      obtain ⟨z, hz⟩ : ∃ z, wtF (xs.take (k + 1)) = z := ⟨_, rfl⟩
      generalize xs.getD k (0, 0) = x at h1 h2 hs
      obtain ⟨p, q⟩ := x
      simp only at h1 h2 hs
      have y0 := hb.1
      have y1 := hb.2.1
      have z0 := hb2.1
      have z1 := hb2.2.1
      rw [hy] at hs y0 y1 ⊢
      rw [hz] at hs z0 z1
      have HY := Lib.hid hz
      have HW := Lib.hid hw
      clear hc hb hb2 hy hz hw
      go_wp2
      go_roundw
      case rel => exact ⟨k + 1, by omega, by go_num, by rw [HY.out, hs], HW.out.alloc HW.out.size _⟩
      case measure => simp [intOf]; omega
    · obtain rfl : k = xs.length := by omega
      have hge : ¬ (xs.length : Int) < (xs.length : Int) := by omega
      clear hb
      go_wp2
      go_ret2
      exact ⟨rfl, hw⟩
theorem weightOf_no (v : Value) (xs : List (Int × Int)) (w : World) (hr : LoadRow w v xs) (hz : rowB xs = false) :
    Calls Try.prog 70 #[v] w fun e w' => e = .returned (.tuple #[.int .i64 0, .bool false]) ∧ Below w.heap.size w w' := by
  have C := isRow_any v xs w hr
  rw [hz] at C
  have D := Lib.hid C
  clear C hz hr
  go_enter Try.func70, Try.ntmps70
  go_wp2_with fail
  refine D.out.mono ?_
  rintro e w1 ⟨rfl, l1⟩
  go_wp2
  go_ret2
  exact ⟨rfl, l1⟩
set_option maxHeartbeats 800000 in
theorem momentAbout_yes (v : Value) (xs : List (Int × Int)) (m : Int) (w : World) (hr : LoadRow w v xs) (hz : RowF xs) (m0 : 0 ≤ m) (m1 : m ≤ 60) :
    Calls Try.prog 161 #[v, .int .i64 m] w fun e w' => e = .returned (.tuple #[.int .i64 (momF m xs), .bool true]) ∧ Below w.heap.size w w' := by
  have C := isRow_any v xs w hr
  rw [(rowB_iff xs).2 hz] at C
  have D := Lib.hid C
  have P := fun w => isPlace_any m w
  rw [show (decide (0 ≤ m) && decide (m ≤ 60)) = true by simp; omega] at P
  have PP := Lib.hid P
  obtain ⟨a, c, rfl, hr⟩ := hr
  have HZ := Lib.hid hz
  have hlen := hz.short
  clear C hz P
  go_enter Try.func161, Try.ntmps161
  go_wp2_with fail
  refine D.out.mono ?_
  rintro e w1 ⟨rfl, l1⟩
  go_wp2_with fail
  refine (PP.out _).mono ?_
  rintro e w' ⟨rfl, rfl⟩
  go_wp2
  go_loopw [6, 19] (fun s i wr => ∃ k : Nat, k ≤ xs.length ∧ i = .int .i64 k ∧ s = .int .i64 (momF m (xs.take k)) ∧ Below w.heap.size w wr) (fun _ i _ => xs.length - (intOf i).toNat)
  case atStart => exact ⟨0, Nat.zero_le _, rfl, rfl, l1⟩
  case round =>
    obtain ⟨k, hk, rfl, rfl, hw⟩ := hrel
    clear l1 D PP
    by_cases hlt : k < xs.length
    · rcases hr with h | ⟨g, off, rfl, hg, hc⟩
      · subst h; simp at hlt
      have h1 := (hc k hlt).1
      have h2 := (hc k hlt).2
      rw [← hw.cell (p := ⟨g, off + k * 2, none⟩) hg] at h1
      rw [← hw.cell (p := ⟨g, off + k * 2 + 1, none⟩) hg] at h2
      have hlt' : (k : Int) < (xs.length : Int) := by omega
      have hb := (rowF_bounds (rowF_take HZ.out k)).2.2.2 m m0 m1
      have hb2 := (rowF_bounds (rowF_take HZ.out (k + 1))).2.2.2 m m0 m1
      have hs := mom_take m xs k hlt
      have he := HZ.out.each _ (show xs.getD k (0, 0) ∈ xs by simp only [List.getD, List.getElem?_eq_getElem hlt, Option.getD_some]; exact List.getElem_mem hlt)
      obtain ⟨y, hy⟩ : ∃ y, momF m (xs.take k) = y := ⟨_, rfl⟩
      obtain ⟨z, hz⟩ : ∃ z, momF m (xs.take (k + 1)) = z := ⟨_, rfl⟩
      generalize xs.getD k (0, 0) = x at h1 h2 hs he
      obtain ⟨p, q⟩ := x
      simp only at h1 h2 hs he
      obtain ⟨⟨e0, e1⟩, e2, e3⟩ := he
      rw [hy] at hs hb ⊢
      rw [hz] at hs hb2
      obtain ⟨y0, y1⟩ := hb
      obtain ⟨z0, z1⟩ := hb2
      obtain ⟨t, ht⟩ : ∃ t, q * (p - m) = t := ⟨_, rfl⟩
      rw [ht] at hs
      have HY := Lib.hid hz
      have HW := Lib.hid hw
      have t0 : -9223372036854775808 ≤ q * (p - m) := by omega
      have t1 : q * (p - m) ≤ 9223372036854775807 := by omega
      have s0 : -9223372036854775808 ≤ y + q * (p - m) := by omega
      have s1 : y + q * (p - m) ≤ 9223372036854775807 := by omega
      have HT := Lib.hid ht
      clear hc hy hz hw ht
      go_wp2
      go_roundw
      case rel => exact ⟨k + 1, by omega, by go_num, by rw [HY.out, hs, HT.out], HW.out.alloc HW.out.size _⟩
      case measure => simp [intOf]; omega
    · obtain rfl : k = xs.length := by omega
      have hge : ¬ (xs.length : Int) < (xs.length : Int) := by omega
      go_wp2
      go_ret2
      exact ⟨rfl, hw⟩
theorem momentAbout_no (v : Value) (xs : List (Int × Int)) (m : Int) (w : World) (hr : LoadRow w v xs) (hz : (rowB xs && (decide (0 ≤ m) && decide (m ≤ 60))) = false) :
    Calls Try.prog 161 #[v, .int .i64 m] w fun e w' => e = .returned (.tuple #[.int .i64 0, .bool false]) ∧ Below w.heap.size w w' := by
  have C := isRow_any v xs w hr
  have P := fun w => isPlace_any m w
  cases h : rowB xs with
  | false =>
    rw [h] at C
    have D := Lib.hid C
    clear C hz hr P h
    go_enter Try.func161, Try.ntmps161
    go_wp2_with fail
    refine D.out.mono ?_
    rintro e w1 ⟨rfl, l1⟩
    go_wp2
    go_ret2
    exact ⟨rfl, l1⟩
  | true =>
    rw [h, Bool.true_and] at hz
    rw [hz] at P
    rw [h] at C
    have D := Lib.hid C
    have PP := Lib.hid P
    clear C hz hr P h
    go_enter Try.func161, Try.ntmps161
    go_wp2_with fail
    refine D.out.mono ?_
    rintro e w1 ⟨rfl, l1⟩
    go_wp2_with fail
    refine (PP.out _).mono ?_
    rintro e w' ⟨rfl, rfl⟩
    go_wp2
    go_ret2
    exact ⟨rfl, l1⟩
end Go.Proofs.Ythncgcdnljoakaa
namespace Go.Proofs.Ythncgcdnljoakaa
open Go.RowKit
theorem tmod_gcd (x y : Int) : Nat.gcd y.natAbs (x.tmod y).natAbs = Nat.gcd x.natAbs y.natAbs := by rw [Int.natAbs_tmod]; exact gc_step _ _
set_option maxRecDepth 100000 in
set_option maxHeartbeats 800000 in
theorem common_any (a b : Int) (w : World) (a0 : a.natAbs ≤ 1000000000) (b0 : b.natAbs ≤ 1000000000) :
    Calls Try.prog 148 #[.int .i64 a, .int .i64 b] w fun e w' => e = .returned (.int .i64 ((Nat.gcd a.natAbs b.natAbs : Nat) : Int)) ∧ ∃ d, w' = w.drewN d := by
  obtain ⟨g, hG⟩ : ∃ g, Nat.gcd a.natAbs b.natAbs = g := ⟨_, rfl⟩
  have HC := Lib.hid hG
  rw [hG]
  clear hG
  go_enter Try.func148, Try.ntmps148
  go_wp2
  go_loopw [0, 1] (fun u v wr => ∃ (x y : Int) (d : Nat), u = .int .i64 x ∧ v = .int .i64 y ∧ x.natAbs ≤ 1000000000 ∧ y.natAbs ≤ 1000000000 ∧ Hid (Nat.gcd x.natAbs y.natAbs = g) ∧ wr = w.drewN d) (fun _ v _ => (intOf v).natAbs)
  case atStart => exact ⟨a, b, 0, rfl, rfl, a0, b0, HC, rfl⟩
  case round =>
    obtain ⟨x, y, d, rfl, rfl, hx, hy, HH, rfl⟩ := hrel
    by_cases h0 : y = 0
    · subst h0
      have hgx := HH.out
      rw [show (0 : Int).natAbs = 0 from rfl, Nat.gcd_zero_right] at hgx
      by_cases hn : x < -x
      · have e : -x = (g : Int) := by omega
        go_wp2
        go_ret
        exact ⟨rfl, d, rfl⟩
      · have e : x = (g : Int) := by omega
        go_wp2
        go_ret
        exact ⟨rfl, d, rfl⟩
    · have hyb : (y != 0) = true := by simpa using h0
      have hz : (x.tmod y).natAbs < y.natAbs := by rw [Int.natAbs_tmod]; exact Nat.mod_lt _ (by omega)
      have HG := Lib.hid (tmod_gcd x y)
      have HM := Lib.hid hz
      obtain ⟨z, hzz⟩ : ∃ z, x.tmod y = z := ⟨_, rfl⟩
      have hw1 : IntKind.i64.wrap z = z := by rw [IntKind.wrap_i64]; omega
      have hw2 : RowKit.wrap64 z = z := Go.IntWalk.wrap64_in z (by omega)
      rw [hzz] at HG HM
      clear hz
      go_wp2
      go_quiet (fail)
      go_wp2
      go_roundw
      case rel => exact ⟨y, z, d + nq, rfl, rfl, hy, by have := HM.out; omega, Lib.hid (by rw [HG.out]; exact HH.out), by simp⟩
      case measure => have := HM.out; simp only [intOf]; omega
end Go.Proofs.Ythncgcdnljoakaa
namespace Go.Proofs.Ythncgcdnljoakaa
open Go.RowKit
end Go.Proofs.Ythncgcdnljoakaa
namespace Go.Proofs.Ythncgcdnljoakaa
open Go.RowKit
def baseB (a b : Int) : Bool := decide (0 ≤ a) && decide (a ≤ 60) && (decide (0 ≤ b) && decide (b ≤ 60)) && decide (a ≤ b)
theorem baseB_iff (a b : Int) : baseB a b = true ↔ 0 ≤ a ∧ a ≤ b ∧ b ≤ 60 := by
  unfold baseB
  simp only [Bool.and_eq_true, decide_eq_true_eq]
  omega
theorem isBase_is (a b : Int) (r : Bool) (h : baseB a b = r) (w : World) : Calls Try.prog 160 #[.int .i64 a, .int .i64 b] w fun e w' => e = .returned (.bool r) ∧ w = w' := by
  subst h
  exact isBase_any a b w
theorem baseMoments_yes (v : Value) (xs : List (Int × Int)) (a b : Int) (w : World) (hr : LoadRow w v xs) (hz : RowF xs) (hb : baseB a b = true) :
    Calls Try.prog 129 #[v, .int .i64 a, .int .i64 b] w fun e w' => e = .returned (.tuple #[.int .i64 (momF a xs), .int .i64 (momF b xs), .bool true]) ∧ Below w.heap.size w w' := by
  have hb' := (baseB_iff a b).1 hb
  have B := Lib.hid (isBase_is a b true hb w)
  have M1 := Lib.hid (momentAbout_yes v xs a w hr hz (by omega) (by omega))
  have M2 := Lib.hid (fun w1 (l : Below w.heap.size w w1) => momentAbout_yes v xs b w1 (hr.lo l) hz (by omega) (by omega))
  clear hr hz hb
  go_enter Try.func129, Try.ntmps129
  go_wp2_with fail
  refine B.out.mono ?_
  rintro e w' ⟨rfl, rfl⟩
  go_wp2_with fail
  refine M1.out.mono ?_
  rintro e w1 ⟨rfl, l1⟩
  have M3 := Lib.hid (M2.out w1 l1)
  go_wp2_with fail
  refine M3.out.mono ?_
  rintro e w2 ⟨rfl, l2⟩
  go_wp2
  go_ret3
  exact ⟨rfl, lo_on l1 l2⟩
theorem baseMoments_no (v : Value) (xs : List (Int × Int)) (a b : Int) (w : World) (hr : LoadRow w v xs) (hz : (rowB xs && baseB a b) = false) :
    Calls Try.prog 129 #[v, .int .i64 a, .int .i64 b] w fun e w' => e = .returned (.tuple #[.int .i64 0, .int .i64 0, .bool false]) ∧ Below w.heap.size w w' := by
  cases hb : baseB a b with
  | false =>
    have B := Lib.hid (isBase_is a b false hb w)
    clear hr hz hb
    go_enter Try.func129, Try.ntmps129
    go_wp2_with fail
    refine B.out.mono ?_
    rintro e w' ⟨rfl, rfl⟩
    go_wp2
    go_ret3
    exact ⟨rfl, Below.refl _ _⟩
  | true =>
    have B := Lib.hid (isBase_is a b true hb w)
    rw [hb, Bool.and_true] at hz
    have M1 := Lib.hid (momentAbout_no v xs a w hr (by rw [hz]; rfl))
    have M2 := Lib.hid (fun w1 (l : Below w.heap.size w w1) => momentAbout_no v xs b w1 (hr.lo l) (by rw [hz]; rfl))
    clear hr hz hb
    go_enter Try.func129, Try.ntmps129
    go_wp2_with fail
    refine B.out.mono ?_
    rintro e w' ⟨rfl, rfl⟩
    go_wp2_with fail
    refine M1.out.mono ?_
    rintro e w1 ⟨rfl, l1⟩
    have M3 := Lib.hid (M2.out w1 l1)
    go_wp2_with fail
    refine M3.out.mono ?_
    rintro e w2 ⟨rfl, l2⟩
    go_wp2
    go_ret3
    exact ⟨rfl, lo_on l1 l2⟩
theorem tipSide_yes (v : Value) (xs : List (Int × Int)) (a b : Int) (w : World) (hr : LoadRow w v xs) (hz : RowF xs) (hb : baseB a b = true) :
    Calls Try.prog 82 #[v, .int .i64 a, .int .i64 b] w fun e w' => e = .returned (.tuple #[.int .i64 (sideF a b xs), .bool true]) ∧ Below w.heap.size w w' := by
  have M := Lib.hid (baseMoments_yes v xs a b w hr hz hb)
  clear hr hz hb
  unfold sideF
  by_cases h1 : momF a xs < 0
  · rw [if_pos h1]
    go_enter Try.func82, Try.ntmps82
    go_wp2_with fail
    refine M.out.mono ?_
    rintro e w1 ⟨rfl, l1⟩
    go_wp2
    go_ret2
    exact ⟨rfl, l1⟩
  · rw [if_neg h1]
    by_cases h2 : 0 < momF b xs
    · rw [if_pos h2]
      go_enter Try.func82, Try.ntmps82
      go_wp2_with fail
      refine M.out.mono ?_
      rintro e w1 ⟨rfl, l1⟩
      go_wp2
      go_ret2
      exact ⟨rfl, l1⟩
    · rw [if_neg h2]
      go_enter Try.func82, Try.ntmps82
      go_wp2_with fail
      refine M.out.mono ?_
      rintro e w1 ⟨rfl, l1⟩
      go_wp2
      go_ret2
      exact ⟨rfl, l1⟩
theorem tipSide_no (v : Value) (xs : List (Int × Int)) (a b : Int) (w : World) (hr : LoadRow w v xs) (hz : (rowB xs && baseB a b) = false) :
    Calls Try.prog 82 #[v, .int .i64 a, .int .i64 b] w fun e w' => e = .returned (.tuple #[.int .i64 0, .bool false]) ∧ Below w.heap.size w w' := by
  have M := Lib.hid (baseMoments_no v xs a b w hr hz)
  clear hr hz
  go_enter Try.func82, Try.ntmps82
  go_wp2_with fail
  refine M.out.mono ?_
  rintro e w1 ⟨rfl, l1⟩
  go_wp2
  go_ret2
  exact ⟨rfl, l1⟩
/-- What a result's own two cells hold behind calls. -/
theorem res_cells {w w1 : World} {T : TypeId} {x y : Value} (l : Below (w.alloc (.cells #[x, y] T)).heap.size (w.alloc (.cells #[x, y] T)) w1) :
    w1.cell? ⟨w.heap.size, 0, none⟩ = some x ∧ w1.cell? ⟨w.heap.size, 1, none⟩ = some y ∧ w1.frozen? ⟨w.heap.size, 0, none⟩ = false ∧ w1.frozen? ⟨w.heap.size, 1, none⟩ = false ∧ Below w.heap.size w w1 := by
  have hb0 : w.heap.size < (w.alloc (.cells #[x, y] T)).heap.size := by simp
  refine ⟨?_, ?_, ?_, ?_, ((Below.refl _ _).alloc (Nat.le_refl _) _).trans (l.mono (by simp))⟩
  · rw [l.cell (p := ⟨w.heap.size, 0, none⟩) hb0, World.cell?_alloc_at _ _ _ _ rfl]; rfl
  · rw [l.cell (p := ⟨w.heap.size, 1, none⟩) hb0, World.cell?_alloc_at _ _ _ _ rfl]; rfl
  · rw [l.frozen (p := ⟨w.heap.size, 0, none⟩) hb0]; exact World.frozen?_alloc_at _ _ _ _ rfl
  · rw [l.frozen (p := ⟨w.heap.size, 1, none⟩) hb0]; exact World.frozen?_alloc_at _ _ _ _ rfl
theorem two_below {w w1 : World} {g : Nat} (h : Below g w w1) (x y : Value) : Below g w ((w1.setCell ⟨g, 0, none⟩ x).setCell ⟨g, 1, none⟩ y) :=
  (h.setCell (p := ⟨g, 0, none⟩) (Nat.le_refl _) _).setCell (p := ⟨g, 1, none⟩) (Nat.le_refl _) _
end Go.Proofs.Ythncgcdnljoakaa
