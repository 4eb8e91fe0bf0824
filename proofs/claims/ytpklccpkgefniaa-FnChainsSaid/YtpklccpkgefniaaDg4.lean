/- The laws' own functions: a code that is too long, a code that is cut, lists that are the same. -/
import Derived.Test.YtpklccpkgefniaaDrawKit
import Derived.Test.YtpklccpkgefniaaLoadOwn
import Derived.Test.YtpklccpkgefniaaSr6
import Derived.Deep.RegionHeld3
namespace Go.Proofs.Ytpklccpkgefniaa
open Go.RowKit
theorem vBig_any (a : Option Addr) (len cap : Nat) (w : World) :
    Calls Try.prog 61 #[.slice a len cap] w fun e w' => e = .returned (.bool (decide (65536 < (len : Int)))) ∧ w = w' := by
  go_enter Try.func61, Try.ntmps61
  go_wp2
  go_ret
  exact ⟨rfl, rfl⟩
theorem eq_pair (a b c d : Int) (w : World) : (Op.equalIn 10000 28 (.agg #[.int .i64 a, .int .i64 b]) (.agg #[.int .i64 c, .int .i64 d])).run Try.prog w = .ok ((a == c) && (b == d)) w := by
  obtain ⟨i0, hi, _⟩ := info_parts infoInt
  have hc : Try.prog.cellsOf 3 = 1 := by kernel_rfl
  have hk : Try.prog.plainKey 3 = true := by kernel_rfl
  have p0 : ∀ x y : Int, (part 3 #[.int .i64 x, .int .i64 y] (0 * 1)).run Try.prog w = .ok (.int .i64 x) w := fun x y => run_part_plain w hk rfl
  have p1 : ∀ x y : Int, (part 3 #[.int .i64 x, .int .i64 y] 1).run Try.prog w = .ok (.int .i64 y) w := fun x y => run_part_plain w hk rfl
  have q : ∀ x y : Int, (Op.equalIn 9999 3 (.int .i64 x) (.int .i64 y)).run Try.prog w = .ok (x == y) w := fun x y => run_equalIn_int w 9998 _ _ _ _ _ Try.underlying3
  rw [run_equalIn_array w 9999 _ _ Try.underlying28 hi, hc, show List.range 2 = [0, 1] from rfl]
  simp only [Op.eqItems, Sem.run_bind, p0, q, Result.andThen_ok]
  cases a == c with
  | false => simp
  | true =>
    simp only [Bool.not_true, Bool.false_eq_true, if_false, Sem.run_bind, p1, q, Result.andThen_ok]
    cases b == d <;> simp
theorem two_fields {fs : List Field} {a b : TypeId} {o1 o2 : Nat} (h : fs.map (fun f => (f.name == "_", f.type, f.offset)) = [(false, a, o1), (false, b, o2)]) :
    ∃ f0 f1, fs = [f0, f1] ∧ (f0.name ≠ "_" ∧ f0.type = a ∧ f0.offset = o1) ∧ f1.name ≠ "_" ∧ f1.type = b ∧ f1.offset = o2 := by
  have hl := congrArg List.length h
  rw [List.length_map] at hl
  obtain ⟨f0, f1, rfl⟩ : ∃ f0 f1, fs = [f0, f1] := by
    cases fs with
    | nil => simp at hl
    | cons f0 fs =>
      cases fs with
      | nil => simp at hl
      | cons f1 fs =>
        cases fs with
        | nil => exact ⟨f0, f1, rfl⟩
        | cons f2 fs => simp at hl
  simp at h
  obtain ⟨⟨h1, h2, h3⟩, h4, h5, h6⟩ := h
  exact ⟨f0, f1, rfl, ⟨h1, h2, h3⟩, h4, h5, h6⟩
theorem eq_load (a b c d : Int) (w : World) : (Op.equalIn 10000 92 (.agg #[.int .i64 a, .int .i64 b]) (.agg #[.int .i64 c, .int .i64 d])).run Try.prog w = .ok ((a == c) && (b == d)) w := by
  obtain ⟨f0, f1, hf, ⟨n0, t0, o0⟩, n1, t1, o1⟩ := two_fields (show (Try.prog.fieldsOf 92).toList.map (fun f => (f.name == "_", f.type, f.offset)) = [(false, 3, 0), (false, 3, 1)] by kernel_rfl)
  have hk : Try.prog.plainKey 3 = true := by kernel_rfl
  have p0 : ∀ x y : Int, (part 3 #[.int .i64 x, .int .i64 y] 0).run Try.prog w = .ok (.int .i64 x) w := fun x y => run_part_plain w hk rfl
  have p1 : ∀ x y : Int, (part 3 #[.int .i64 x, .int .i64 y] 1).run Try.prog w = .ok (.int .i64 y) w := fun x y => run_part_plain w hk rfl
  have q : ∀ x y : Int, (Op.equalIn 9999 3 (.int .i64 x) (.int .i64 y)).run Try.prog w = .ok (x == y) w := fun x y => run_equalIn_int w 9998 _ _ _ _ _ Try.underlying3
  rw [run_equalIn_struct w 9999 _ _ _ (by kernel_rfl) (by kernel_rfl), hf]
  simp only [Op.eqFields, ne_eq, n0, n1, not_false_eq_true, if_true, t0, t1, o0, o1, Sem.run_bind, p0, q, Result.andThen_ok]
  cases a == c with
  | false => simp
  | true =>
    simp only [Bool.not_true, Bool.false_eq_true, if_false, Sem.run_bind, p1, q, Result.andThen_ok]
    cases b == d <;> simp
set_option maxRecDepth 100000 in
set_option maxHeartbeats 1600000 in
theorem vInts_same (va vb : Value) (xs : List Int) (w : World) (ha : IntRow w va xs) (hb : IntRow w vb xs) (hn : xs.length ≤ 2000000) :
    Calls Try.prog 70 #[va, vb] w fun e w' => e = .returned (.bool true) ∧ ∃ m, w' = w.drewN m := by
  obtain ⟨a, c, rfl, ha⟩ := ha
  obtain ⟨a', c', rfl, hb⟩ := hb
  have HA := Lib.hid ha
  have HB := Lib.hid hb
  obtain ⟨L, hL⟩ : ∃ L, xs.length = L := ⟨_, rfl⟩
  have HLL := Lib.hid hL
  rw [hL] at hn ⊢
  have hlb : ((L : Int) != (L : Int)) = false := by simp
  clear ha hb hL
  go_enter Try.func70, Try.ntmps70
  go_wp2
  go_loopw [5] (fun i wr => ∃ k n : Nat, k ≤ L ∧ i = .int .i64 k ∧ wr = w.drewN n) (fun i _ => L - (intOf i).toNat)
  case atStart => exact ⟨0, 0, Nat.zero_le _, rfl, rfl⟩
  case round =>
    obtain ⟨k, n, hk, rfl, rfl⟩ := hrel
    by_cases hlt : k < L
    · have hlt' : (k : Int) < (L : Int) := by omega
      rcases HA.out with h | ⟨g, off, rfl, hg, hc⟩
      · exfalso; rw [← HLL.out, h] at hlt; simp at hlt
      rcases HB.out with h | ⟨g2, off2, rfl, hg2, hc2⟩
      · exfalso; rw [← HLL.out, h] at hlt; simp at hlt
      have c1 := hc k (by rw [HLL.out]; exact hlt)
      have c2 := hc2 k (by rw [HLL.out]; exact hlt)
      clear hc hc2
      generalize xs.getD k 0 = x at c1 c2
      have hb : (x != x) = false := by simp
      go_wp2
      go_quiet (fail)
      go_wp2
      go_roundw
      case rel => exact ⟨k + 1, _, by omega, by go_num, rfl⟩
      case measure => simp [intOf]; omega
    · obtain rfl : k = L := by omega
      have hge : ¬ (k : Int) < (k : Int) := by omega
      go_wp2
      go_ret
      exact ⟨rfl, _, rfl⟩
set_option maxRecDepth 100000 in
set_option maxHeartbeats 1600000 in
theorem vPairs_same (va vb : Value) (xs : List (Int × Int)) (w : World) (ha : LoadRow w va xs) (hb : LoadRow w vb xs) (hn : xs.length ≤ 2000000) :
    Calls Try.prog 65 #[va, vb] w fun e w' => e = .returned (.bool true) ∧ ∃ m, w' = w.drewN m := by
  obtain ⟨a, c, rfl, ha⟩ := ha
  obtain ⟨a', c', rfl, hb⟩ := hb
  have HA := Lib.hid ha
  have HB := Lib.hid hb
  obtain ⟨L, hL⟩ : ∃ L, xs.length = L := ⟨_, rfl⟩
  have HLL := Lib.hid hL
  rw [hL] at hn ⊢
  have hlb : ((L : Int) != (L : Int)) = false := by simp
  have EQ := eq_pair
  clear ha hb hL
  go_enter Try.func65, Try.ntmps65
  go_wp2
  go_loopw [5] (fun i wr => ∃ k n : Nat, k ≤ L ∧ i = .int .i64 k ∧ wr = w.drewN n) (fun i _ => L - (intOf i).toNat)
  case atStart => exact ⟨0, 0, Nat.zero_le _, rfl, rfl⟩
  case round =>
    obtain ⟨k, n, hk, rfl, rfl⟩ := hrel
    by_cases hlt : k < L
    · have hlt' : (k : Int) < (L : Int) := by omega
      rcases HA.out with h | ⟨g, off, rfl, hg, hc⟩
      · exfalso; rw [← HLL.out, h] at hlt; simp at hlt
      rcases HB.out with h | ⟨g2, off2, rfl, hg2, hc2⟩
      · exfalso; rw [← HLL.out, h] at hlt; simp at hlt
      obtain ⟨c1, c3⟩ := hc k (by rw [HLL.out]; exact hlt)
      obtain ⟨c2, c4⟩ := hc2 k (by rw [HLL.out]; exact hlt)
      clear hc hc2
      generalize xs.getD k (0, 0) = x at c1 c2 c3 c4
      obtain ⟨x, y⟩ := x
      simp only at c1 c2 c3 c4
      have Q := EQ x y x y
      rw [show ((x == x) && (y == y)) = true by simp] at Q
      go_wp2
      go_quiet (fail)
      go_wp2
      go_roundw
      case rel => exact ⟨k + 1, _, by omega, by go_num, rfl⟩
      case measure => simp [intOf]; omega
    · obtain rfl : k = L := by omega
      have hge : ¬ (k : Int) < (k : Int) := by omega
      go_wp2
      go_ret
      exact ⟨rfl, _, rfl⟩
set_option maxRecDepth 100000 in
set_option maxHeartbeats 1600000 in
theorem vRow_same (va vb : Value) (xs : List (Int × Int)) (w : World) (ha : LoadRow w va xs) (hb : LoadRow w vb xs) (hn : xs.length ≤ 2000000) :
    Calls Try.prog 66 #[va, vb] w fun e w' => e = .returned (.bool true) ∧ ∃ m, w' = w.drewN m := by
  obtain ⟨a, c, rfl, ha⟩ := ha
  obtain ⟨a', c', rfl, hb⟩ := hb
  have HA := Lib.hid ha
  have HB := Lib.hid hb
  obtain ⟨L, hL⟩ : ∃ L, xs.length = L := ⟨_, rfl⟩
  have HLL := Lib.hid hL
  rw [hL] at hn ⊢
  have hlb : ((L : Int) != (L : Int)) = false := by simp
  have EQ := eq_load
  clear ha hb hL
  go_enter Try.func66, Try.ntmps66
  go_wp2
  go_loopw [5] (fun i wr => ∃ k n : Nat, k ≤ L ∧ i = .int .i64 k ∧ wr = w.drewN n) (fun i _ => L - (intOf i).toNat)
  case atStart => exact ⟨0, 0, Nat.zero_le _, rfl, rfl⟩
  case round =>
    obtain ⟨k, n, hk, rfl, rfl⟩ := hrel
    by_cases hlt : k < L
    · have hlt' : (k : Int) < (L : Int) := by omega
      rcases HA.out with h | ⟨g, off, rfl, hg, hc⟩
      · exfalso; rw [← HLL.out, h] at hlt; simp at hlt
      rcases HB.out with h | ⟨g2, off2, rfl, hg2, hc2⟩
      · exfalso; rw [← HLL.out, h] at hlt; simp at hlt
      obtain ⟨c1, c3⟩ := hc k (by rw [HLL.out]; exact hlt)
      obtain ⟨c2, c4⟩ := hc2 k (by rw [HLL.out]; exact hlt)
      clear hc hc2
      generalize xs.getD k (0, 0) = x at c1 c2 c3 c4
      obtain ⟨x, y⟩ := x
      simp only at c1 c2 c3 c4
      have Q := EQ x y x y
      rw [show ((x == x) && (y == y)) = true by simp] at Q
      go_wp2
      go_quiet (fail)
      go_wp2
      go_roundw
      case rel => exact ⟨k + 1, _, by omega, by go_num, rfl⟩
      case measure => simp [intOf]; omega
    · obtain rfl : k = L := by omega
      have hge : ¬ (k : Int) < (k : Int) := by omega
      go_wp2
      go_ret
      exact ⟨rfl, _, rfl⟩
/-- Bytes as cells. -/
def bcells (zs : List Int) : List Value := zs.map (Value.int .u8)
theorem bcells_len (zs : List Int) : (bcells zs).length = zs.length := by simp [bcells]
theorem bcells_at (zs : List Int) (j : Nat) (hj : j < zs.length) : (bcells zs)[j]? = some (.int .u8 (zs.getD j 0)) := by
  simp [bcells, List.getD, List.getElem?_eq_getElem hj]
theorem bcells_one (zs : List Int) : ∀ u ∈ bcells zs, u.oneCell' = true := by
  intro u h
  simp only [bcells, List.mem_map] at h
  obtain ⟨z, _, rfl⟩ := h
  rfl
theorem code_own {w : World} {B n : Nat} {v : Value} {zs : List Int} (h : w.ownsRow B 5 1 v n (bcells zs)) (hl : zs.length = n) (hz : ∀ z ∈ zs, 0 ≤ z ∧ z ≤ 255) : ∃ a c, v = .slice a n c ∧ CodeAt w w.heap.size a n := by
  have h' := h
  rcases h.2 with ⟨rfl, h0⟩ | ⟨g, cap, cur, rfl, hb, hg, _⟩
  · subst h0; exact ⟨none, 0, rfl, .inl rfl⟩
  · refine ⟨_, cap, rfl, .inr ⟨g, 0, rfl, (Array.getElem?_eq_some_iff.1 hg).1, fun i hi => ?_⟩⟩
    refine ⟨zs.getD i 0, ?_, ?_⟩
    · rw [Nat.zero_add, h'.cellAt i (by omega)]; exact bcells_at zs i (by omega)
    · exact hz _ (by rw [List.getD, List.getElem?_eq_getElem (by omega), Option.getD_some]; exact List.getElem_mem _)
/-- A code as it came in: its bytes, and room. -/
def CodeIn (w : World) (a : Option Addr) (len cap : Nat) : Prop :=
  len ≤ cap ∧ ((a = none ∧ len = 0 ∧ cap = 0) ∨ ∃ x : Addr, a = some x ∧ (len = 0 ∨ ∃ b off, x = ⟨b, off, none⟩ ∧ b < w.heap.size) ∧ ∃ zs : List Int, zs.length = len ∧ (∀ i, i < len → w.cell? (x.add i) = some (.int .u8 (zs.getD i 0))) ∧ ∀ z ∈ zs, 0 ≤ z ∧ z ≤ 255)
theorem CodeIn.lo {w w' : World} {a : Option Addr} {len cap : Nat} (h : CodeIn w a len cap) (l : Below w.heap.size w w') : CodeIn w' a len cap := by
  obtain ⟨hc, h⟩ := h
  refine ⟨hc, ?_⟩
  rcases h with h | ⟨x, rfl, hx, zs, hl, hcell, hz⟩
  · exact .inl h
  · refine .inr ⟨x, rfl, ?_, zs, hl, fun i hi => ?_, hz⟩
    · rcases hx with h | ⟨b, off, e, hb⟩
      · exact .inl h
      · exact .inr ⟨b, off, e, Nat.lt_of_lt_of_le hb l.size⟩
    · rcases hx with h | ⟨b, off, rfl, hb⟩
      · omega
      · rw [l.cell (p := (⟨b, off, none⟩ : Addr).add i) (by rw [Go.WideShapes.add_plain]; exact hb)]; exact hcell i hi
set_option maxRecDepth 100000 in
set_option maxHeartbeats 1600000 in
theorem vCut_any (a : Option Addr) (len cap : Nat) (w : World) (h : CodeIn w a len cap) (hn : len ≤ 65536) :
    Calls Try.prog 64 #[.slice a len cap, .int .i64 1] w fun e w' => ∃ a' len' cap', e = .returned (.slice a' len' cap') ∧ CodeAt w' w'.heap.size a' len' ∧ Below w.heap.size w w' := by
  obtain ⟨i0, hi, hz0, hz1, hz2⟩ := info_parts infoByte
  obtain ⟨hc, h⟩ := h
  have hrow0 : (w.alloc (.cells #[] 5)).ownsRow w.heap.size 5 1 (.slice (some ⟨w.heap.size, 0, none⟩) 0 0) 0 (bcells []) := World.ownsRow_lit w #[] 0 (Nat.le_refl _) (by decide) rfl
  rcases h with ⟨rfl, rfl, rfl⟩ | ⟨x, rfl, hx, zs, hl, hcell, hz⟩
  · clear hc
    go_enter Try.func64, Try.ntmps64
    go_wp2_with fail
    go_ret
    refine ⟨_, _, _, rfl, .inr ⟨w.heap.size + 1 + 1, 0, rfl, by simp, fun i hi => ?_⟩, ?_⟩
    · obtain rfl : i = 0 := by omega
      refine ⟨0, ?_, by omega, by omega⟩
      refine (World.cell?_alloc_at _ _ _ _ (by simp)).trans ?_
      first | rfl | (rw [Array.getElem?_append_left (by simp)]; rfl)
    · exact ((below_pair _ _ _).alloc (by simp; omega) _).drew
  · by_cases h0 : len = 0
    · subst h0
      have hz0' : zs = [] := List.length_eq_zero_iff.1 hl
      clear hx hcell hz hl hz0'
      go_enter Try.func64, Try.ntmps64
      go_wp2_with (first
        | (at_builtin; refine wpList_append_own_at _ rfl _ _ 63 rfl w.heap.size 5 i0 (.int .u8 0) 1 1 Try.underlying63 hi hz0 hz1 hz2 rfl (by decide) _ _ _ rfl hrow0 _ 0 cap [] rfl rfl (by simp) (by simp) (by unfold maxLen; omega) (by omega) (by simp) ?_; intro v2 w2 hown2 hgrow2 hnil2 hloc2)
        | (at_builtin; refine wpList_append_own_at _ rfl _ _ 63 rfl w.heap.size 5 i0 (.int .u8 0) 1 1 Try.underlying63 hi hz0 hz1 hz2 rfl (by decide) _ _ _ rfl (hown2.alloc _) ⟨w2.heap.size, 0, none⟩ 1 1 [.int .u8 0] rfl rfl (cell_one_new _ _ _) (fun x hx => by simp at hx; subst hx; rfl) (by unfold maxLen; omega) (by omega) (by have := hgrow2.size; simp at this ⊢; omega) ?_; intro v3 w3 hown3 hgrow3 hnil3 hloc3))
      obtain ⟨a3, c3, e3, hcode⟩ := code_own (zs := [0]) hown3 rfl (by simp)
      have L2 : Below w.heap.size w w2 := (below_one w _).grown hgrow2 (by simp) (fun j hj => (hrow0.lt j hj).1)
      have L3 : Below w.heap.size w w3 := (L2.alloc L2.size _).grown hgrow3 (by have := L2.size; simp; omega) (fun j hj => (hown2.lt j hj).1)
      have HC := Lib.hid hcode
      have HL := Lib.hid L3
      subst e3
      clear hown2 hgrow2 hnil2 hloc2 hown3 hgrow3 hnil3 hloc3 hcode L2 L3
      go_wp2
      go_ret
      exact ⟨_, _, ⟨_, rfl⟩, HC.out, HL.out⟩
    · obtain ⟨m, rfl⟩ : ∃ m, len = m + 1 := ⟨len - 1, by omega⟩
      rcases hx with hx | ⟨b, off, rfl, hb⟩
      · omega
      have h1 : ¬ ((m + 1 : Nat) : Int) < 1 := by omega
      have hmc : m + 1 ≤ cap := hc
      by_cases hcap : cap = 1
      · have hm0 : m = 0 := by omega
        subst hm0
        subst hcap
        clear hcell hz hl h0 hmc hc
        go_enter Try.func64, Try.ntmps64
        go_wp2_with (first
          | (at_builtin; refine wpList_append_own_at _ rfl _ _ 63 rfl w.heap.size 5 i0 (.int .u8 0) 1 1 Try.underlying63 hi hz0 hz1 hz2 rfl (by decide) _ _ _ rfl hrow0 _ 0 _ [] rfl rfl (by simp) (by simp) (by unfold maxLen; omega) (by omega) (by simp) ?_; intro v2 w2 hown2 hgrow2 hnil2 hloc2)
          | (at_builtin; refine wpList_append_own_at _ rfl _ _ 63 rfl w.heap.size 5 i0 (.int .u8 0) 1 1 Try.underlying63 hi hz0 hz1 hz2 rfl (by decide) _ _ _ rfl (hown2.alloc _) ⟨w2.heap.size, 0, none⟩ 1 1 [.int .u8 1] rfl rfl (cell_one_new _ _ _) (fun x hx => by simp at hx; subst hx; rfl) (by unfold maxLen; omega) (by omega) (by have := hgrow2.size; simp at this ⊢; omega) ?_; intro v3 w3 hown3 hgrow3 hnil3 hloc3))
        obtain ⟨a3, c3, e3, hcode⟩ := code_own (zs := [1]) hown3 rfl (by simp)
        have L2 : Below w.heap.size w w2 := (below_one w _).grown hgrow2 (by simp) (fun j hj => (hrow0.lt j hj).1)
        have L3 : Below w.heap.size w w3 := (L2.alloc L2.size _).grown hgrow3 (by have := L2.size; simp; omega) (fun j hj => (hown2.lt j hj).1)
        have HC := Lib.hid hcode
        have HL := Lib.hid L3
        subst e3
        clear hown2 hgrow2 hnil2 hloc2 hown3 hgrow3 hnil3 hloc3 hcode L2 L3
        go_wp2
        go_ret
        exact ⟨_, _, ⟨_, rfl⟩, HC.out, HL.out⟩
      have HZ := Lib.hid hz
      have HN := Lib.hid (show ∀ j u, (bcells (zs.drop 1))[j]? = some u → (w.alloc (.cells #[] 5)).cell? ((⟨b, off + 1, none⟩ : Addr).add j) = some u from fun j u hj => by
        have hjl : j < (bcells (zs.drop 1)).length := (List.getElem?_eq_some_iff.1 hj).1
        rw [bcells_len, List.length_drop] at hjl
        rw [bcells_at _ j (by rw [List.length_drop]; omega)] at hj
        have hc1 := hcell (j + 1) (by omega)
        rw [Go.WideShapes.add_plain] at hc1 ⊢
        rw [World.cell?_of_block (Below.heap_alloc _ _ _ hb), show off + 1 + j = off + (j + 1) by omega, hc1, ← Option.some.inj hj]
        simp [List.getD])
      have HLn := Lib.hid (show (bcells (zs.drop 1)).length = m by rw [bcells_len, List.length_drop]; omega)
      clear hcell hz
      go_enter Try.func64, Try.ntmps64
      go_wp2_with (first
        | (at_builtin; refine wpList_append_own_at _ rfl _ _ 63 rfl w.heap.size 5 i0 (.int .u8 0) 1 1 Try.underlying63 hi hz0 hz1 hz2 rfl (by decide) _ _ _ rfl hrow0 ⟨b, off + 1, none⟩ m _ (bcells (zs.drop 1)) rfl (by rw [HLn.out, Nat.mul_one]) HN.out (bcells_one _) (by unfold maxLen; omega) (by omega) (by simp) ?_; intro v2 w2 hown2 hgrow2 hnil2 hloc2)
        | (at_builtin; refine wpList_append_own_at _ rfl _ _ 63 rfl w.heap.size 5 i0 (.int .u8 0) 1 1 Try.underlying63 hi hz0 hz1 hz2 rfl (by decide) _ _ _ rfl (hown2.alloc _) ⟨w2.heap.size, 0, none⟩ 1 1 [.int .u8 1] rfl rfl (cell_one_new _ _ _) (fun x hx => by simp at hx; subst hx; rfl) (by unfold maxLen; omega) (by omega) (by have := hgrow2.size; simp at this ⊢; omega) ?_; intro v3 w3 hown3 hgrow3 hnil3 hloc3))
      obtain ⟨a3, c3, e3, hcode⟩ := code_own (zs := zs.drop 1 ++ [1]) (n := 0 + m + 1) (by unfold bcells at *; rw [List.map_append]; simpa using hown3) (by rw [List.length_append, List.length_drop]; simp; omega) (fun z hz => by
        rw [List.mem_append] at hz
        rcases hz with hz | hz
        · exact HZ.out z (List.mem_of_mem_drop hz)
        · have : z = 1 := by simpa using hz
          omega)
      have L2 : Below w.heap.size w w2 := (below_one w _).grown hgrow2 (by simp) (fun j hj => (hrow0.lt j hj).1)
      have L3 : Below w.heap.size w w3 := (L2.alloc L2.size _).grown hgrow3 (by have := L2.size; simp; omega) (fun j hj => (hown2.lt j hj).1)
      have HC := Lib.hid hcode
      have HL := Lib.hid L3
      subst e3
      clear hown2 hgrow2 hnil2 hloc2 hown3 hgrow3 hnil3 hloc3 hcode L2 L3
      go_wp2
      go_ret
      exact ⟨_, _, ⟨_, rfl⟩, HC.out, HL.out⟩
end Go.Proofs.Ytpklccpkgefniaa
