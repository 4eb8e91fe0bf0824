/- In, Impl1, LoadLaw, LoadTo, Frac, as one text. -/
import Derived.Test.YthncgcdnljoakaaProg
import Derived.Lib.Hide
import Derived.Below
import Derived.WalkKit
import Derived.Deep.QuietTactic
import Derived.Test.YthncgcdnljoakaaG3
import Derived.Maps.AppendAt
import Derived.Deep.RegionHeld3
import Derived.Lib.LaidTab
import Derived.StillTailTactics
namespace Go.Proofs.Ythncgcdnljoakaa
open Go.RowKit
theorem l1In_is (x a b : Int) (r : Bool) (h : (decide (a ≤ x) && decide (x ≤ b)) = r) (w : World) : Calls Try.prog 92 #[.int .i64 x, .int .i64 a, .int .i64 b] w fun e w' => e = .returned (.bool r) ∧ w = w' := by
  subst h
  by_cases h1 : a ≤ x
  · by_cases h2 : x ≤ b
    all_goals go_enter Try.func92, Try.ntmps92
    all_goals go_wp2
    all_goals go_ret
    all_goals exact ⟨by simp [h1, h2], rfl⟩
  · go_enter Try.func92, Try.ntmps92
    go_wp2
    go_ret
    exact ⟨by simp; omega, rfl⟩
theorem l1In_q (x a b : Int) (r : Bool) (h : (decide (a ≤ x) && decide (x ≤ b)) = r) (w : World) : Calls Try.prog 92 #[.int .i64 x, .int .i64 a, .int .i64 b] w fun e w' => e = .returned (.bool r) ∧ w' = w :=
  (l1In_is x a b r h w).mono fun _ _ ⟨h, k⟩ => ⟨h, k.symm⟩
theorem lo_drewN {a w : World} (h : Below a.heap.size a w) (n : Nat) : Below a.heap.size a (w.drewN n) := h.trans ⟨rfl, rfl, rfl, Nat.le_refl _, fun _ _ => rfl⟩
theorem isWeight_is (p : Int) (r : Bool) (h : (decide (1 ≤ p) && decide (p ≤ 99)) = r) (w : World) : Calls Try.prog 134 #[.int .i64 p] w fun e w' => e = .returned (.bool r) ∧ w = w' := by
  subst h
  by_cases h1 : 1 ≤ p
  · by_cases h2 : p ≤ 99
    all_goals go_enter Try.func134, Try.ntmps134
    all_goals go_wp2
    all_goals go_ret
    all_goals exact ⟨by simp [h1, h2], rfl⟩
  · go_enter Try.func134, Try.ntmps134
    go_wp2
    go_ret
    exact ⟨by simp; omega, rfl⟩
theorem lo_on {a b c : World} (h : Below a.heap.size a b) (k : Below b.heap.size b c) : Below a.heap.size a c := h.trans (k.mono h.size)
end Go.Proofs.Ythncgcdnljoakaa
namespace Go.Proofs.Ythncgcdnljoakaa
open Go.RowKit
theorem isPlace_any (p : Int) (w : World) : Calls Try.prog 133 #[.int .i64 p] w fun e w' => e = .returned (.bool (decide (0 ≤ p) && decide (p ≤ 60))) ∧ w = w' := by
  by_cases h1 : 0 ≤ p
  · by_cases h2 : p ≤ 60
    all_goals go_enter Try.func133, Try.ntmps133
    all_goals go_wp2
    all_goals go_ret
    all_goals exact ⟨by simp [h1, h2], rfl⟩
  · go_enter Try.func133, Try.ntmps133
    go_wp2
    go_ret
    exact ⟨by simp; omega, rfl⟩
theorem rowB_not {xs : List (Int × Int)} {k : Nat} (hk : k < xs.length) (h : loadB (xs.getD k (0, 0)) = false) : rowB xs = false := by
  cases hq : rowB xs with
  | false => rfl
  | true =>
    unfold rowB at hq
    rw [Bool.and_eq_true, List.all_eq_true] at hq
    have := hq.2 (xs.getD k (0, 0)) (by simp only [List.getD, List.getElem?_eq_getElem hk, Option.getD_some]; exact List.getElem_mem hk)
    rw [h] at this
    cases this
theorem rowB_yes {xs : List (Int × Int)} (h12 : xs.length ≤ 12) (h : ∀ j, j < xs.length → loadB (xs.getD j (0, 0)) = true) : rowB xs = true := by
  unfold rowB
  have : xs.all loadB = true := List.all_eq_true.2 (fun x hx => by
    obtain ⟨j, hj, e⟩ := List.mem_iff_getElem.1 hx
    have := h j hj
    simp only [List.getD, List.getElem?_eq_getElem hj, Option.getD_some, e] at this
    exact this)
  rw [this, Bool.and_true]
  simpa using h12
set_option maxHeartbeats 800000 in
theorem isRow_any (v : Value) (xs : List (Int × Int)) (w : World) (hr : LoadRow w v xs) :
    Calls Try.prog 102 #[v] w fun e w' => e = .returned (.bool (rowB xs)) ∧ Below w.heap.size w w' := by
  obtain ⟨a, c, rfl, hr⟩ := hr
  by_cases h12 : xs.length ≤ 12
  · have h12' : ¬ (12 : Int) < (xs.length : Int) := by omega
    go_enter Try.func102, Try.ntmps102
    go_wp2
    go_loopw [10] (fun i wr => ∃ k : Nat, k ≤ xs.length ∧ i = .int .i64 k ∧ Hid (∀ j, j < k → loadB (xs.getD j (0, 0)) = true) ∧ Below w.heap.size w wr) (fun i _ => xs.length - (intOf i).toNat)
    case atStart => exact ⟨0, Nat.zero_le _, rfl, Lib.hid (fun j h => by omega), Below.refl _ _⟩
    case round =>
      obtain ⟨k, hk, rfl, HL, hw⟩ := hrel
      by_cases hlt : k < xs.length
      · rcases hr with h | ⟨g, off, rfl, hg, hc⟩
        · subst h; simp at hlt
        have h1 := (hc k hlt).1
        have h2 := (hc k hlt).2
        rw [← hw.cell (p := ⟨g, off + k * 2, none⟩) hg] at h1
        rw [← hw.cell (p := ⟨g, off + k * 2 + 1, none⟩) hg] at h2
        have hlt' : (k : Int) < (xs.length : Int) := by omega
        have HN := Lib.hid (rowB_not (xs := xs) hlt)
        obtain ⟨x, hx⟩ : ∃ x, xs.getD k (0, 0) = x := ⟨_, rfl⟩
        rw [hx] at h1 h2 HN
        have HX := Lib.hid hx
        clear hx hc
        obtain ⟨p, q⟩ := x
        simp only at h1 h2
        have C1 := fun w => isPlace_any p w
        obtain ⟨b1, hb1⟩ : ∃ b, (decide (0 ≤ p) && decide (p ≤ 60)) = b := ⟨_, rfl⟩
        rw [hb1] at C1
        have HB := Lib.hid hb1
        have D1 := Lib.hid C1
        clear C1 hb1
        have HW := Lib.hid hw
        clear hw
        have fin : ∀ o, Below w.heap.size w (wr.alloc o) := fun o => HW.out.alloc HW.out.size o
        have FIN := Lib.hid fin
        clear fin
        cases b1 with
        | false =>
          have HF := Lib.hid (HN.out (by unfold loadB; rw [HB.out]; rfl))
          clear HN
          go_wp2_with fail
          refine (D1.out _).mono ?_
          rintro e w' ⟨rfl, rfl⟩
          go_wp2
          go_ret
          exact ⟨by rw [HF.out]; rfl, FIN.out _⟩
        | true =>
          obtain ⟨b2, hb2⟩ : ∃ b, (decide (1 ≤ q) && decide (q ≤ 99)) = b := ⟨_, rfl⟩
          have D2 := Lib.hid (fun w => isWeight_is q b2 hb2 w)
          have HB2 := Lib.hid hb2
          clear hb2
          cases b2 with
          | true =>
            clear HN
            go_wp2_with fail
            refine (D1.out _).mono ?_
            rintro e w' ⟨rfl, rfl⟩
            go_wp2_with fail
            refine (D2.out _).mono ?_
            rintro e w' ⟨rfl, rfl⟩
            go_wp2
            go_roundw
            case rel =>
              refine ⟨k + 1, by omega, by go_num, Lib.hid (fun j hj => ?_), FIN.out _⟩
              by_cases e : j = k
              · subst e; rw [HX.out]; unfold loadB; rw [HB.out]; rw [HB2.out]; rfl
              · exact HL.out j (by omega)
            case measure => simp [intOf]; omega
          | false =>
            have HF := Lib.hid (HN.out (by unfold loadB; rw [HB.out]; rw [HB2.out]; rfl))
            clear HN
            go_wp2_with fail
            refine (D1.out _).mono ?_
            rintro e w' ⟨rfl, rfl⟩
            go_wp2_with fail
            refine (D2.out _).mono ?_
            rintro e w' ⟨rfl, rfl⟩
            go_wp2
            go_ret
            exact ⟨by rw [HF.out]; rfl, FIN.out _⟩
      · obtain rfl : k = xs.length := by omega
        have hge : ¬ (xs.length : Int) < (xs.length : Int) := by omega
        have HF := Lib.hid (rowB_yes h12 HL.out)
        go_wp2
        go_ret
        exact ⟨by rw [HF.out]; rfl, hw⟩
  · have h12' : (12 : Int) < (xs.length : Int) := by omega
    have HF := Lib.hid (show rowB xs = false by unfold rowB; rw [show decide (xs.length ≤ 12) = false by simp; omega, Bool.false_and])
    go_enter Try.func102, Try.ntmps102
    go_wp2
    go_ret
    exact ⟨by rw [HF.out]; rfl, Below.refl _ _⟩
end Go.Proofs.Ythncgcdnljoakaa
namespace Go.Proofs.Ythncgcdnljoakaa
open Go.RowKit
def SzLoad (n : Nat) (w : World) (e : Ending) (w' : World) : Prop := ∃ z : Int, e = .returned (.int .i64 z) ∧ w = w' ∧ (z < 0 ∨ (0 ≤ z ∧ n ≤ 1048576))
theorem szLoad_any (a : Option Addr) (n c : Nat) (w : World) (hn : n ≤ maxLen) : Calls Try.prog 23 #[.slice a n c, .int .i64 1048576] w (SzLoad n w) := by
  unfold maxLen at hn
  by_cases h : n ≤ 1048576
  · have h1 : ¬ (1048576 : Int) - n < 0 := by omega
    go_enter Try.func23, Try.ntmps23
    go_wp2
    go_ret
    exact ⟨_, rfl, rfl, .inr ⟨by omega, h⟩⟩
  · have h1 : (1048576 : Int) - n < 0 := by omega
    go_enter Try.func23, Try.ntmps23
    go_wp2
    go_ret
    exact ⟨_, rfl, rfl, .inl (by decide)⟩
theorem alloc_two (w : World) (o o' : Obj) : Below w.heap.size w ((w.alloc o).alloc o') := (((Below.refl _ _).alloc (Nat.le_refl _) o).alloc (by simp) o')
theorem alloc_three (w : World) (o o' o'' : Obj) : Below w.heap.size w (((w.alloc o).alloc o').alloc o'') := (alloc_two w o o').alloc (by simp; omega) o''
theorem eqLoad_any (p q : Int) (w : World) : Calls Try.prog 83 #[.agg #[.int .i64 p, .int .i64 q], .agg #[.int .i64 p, .int .i64 q]] w fun e w' => e = .returned (.bool true) ∧ Below w.heap.size w w' := by
  go_enter Try.func83, Try.ntmps83
  go_wp2
  go_ret
  exact ⟨rfl, alloc_two _ _ _⟩
theorem toLoad_any (p q : Int) (w : World) : Calls Try.prog 80 #[.agg #[.int .i64 p, .int .i64 q]] w fun e w' => e = .returned (.agg #[.int .i64 p, .int .i64 q]) ∧ Below w.heap.size w w' := by
  go_enter Try.func80, Try.ntmps80
  go_wp2
  refine bodyPost_ret (v := .agg #[.int .i64 p, .int .i64 q]) (by simp [results, Try.results80, go_sem]) rfl ⟨rfl, alloc_three _ _ _ _⟩
set_option maxHeartbeats 1600000 in
theorem eqLoads_same (va vb : Value) (xs : List (Int × Int)) (w : World) (ha : LoadRow w va xs) (hb : LoadRow w vb xs) (hn : xs.length ≤ 2000000) :
    Calls Try.prog 27 #[va, vb] w fun e w' => e = .returned (.bool true) ∧ Below w.heap.size w w' := by
  obtain ⟨a, c, rfl, ha⟩ := ha
  obtain ⟨a', c', rfl, hb⟩ := hb
  go_enter Try.func27, Try.ntmps27
  go_wp2
  go_loopw [5] (fun i wr => ∃ k : Nat, k ≤ xs.length ∧ i = .int .i64 k ∧ Below w.heap.size w wr) (fun i _ => xs.length - (intOf i).toNat)
  case atStart => exact ⟨0, Nat.zero_le _, rfl, Below.refl _ _⟩
  case round =>
    obtain ⟨k, hk, rfl, hw⟩ := hrel
    by_cases hlt : k < xs.length
    · rcases ha with h | ⟨g, off, rfl, hg, hc⟩
      · subst h; simp at hlt
      rcases hb with h | ⟨g', off', rfl, hg', hc'⟩
      · subst h; simp at hlt
      obtain ⟨h1, h2⟩ := hc k hlt
      obtain ⟨h3, h4⟩ := hc' k hlt
      have hlt' : (k : Int) < (xs.length : Int) := by omega
      clear hc hc'
      generalize xs.getD k (0, 0) = x at h1 h2 h3 h4
      obtain ⟨p, q⟩ := x
      simp only at h1 h2 h3 h4
      have hgr : g < wr.heap.size := Nat.lt_of_lt_of_le hg hw.size
      have hgr' : g' < wr.heap.size := Nat.lt_of_lt_of_le hg' hw.size
      rw [← hw.cell (p := ⟨g, off + k * 2, none⟩) hg] at h1
      rw [← hw.cell (p := ⟨g, off + k * 2 + 1, none⟩) hg] at h2
      rw [← hw.cell (p := ⟨g', off' + k * 2, none⟩) hg'] at h3
      rw [← hw.cell (p := ⟨g', off' + k * 2 + 1, none⟩) hg'] at h4
      go_wp2_with fail
      go_region_held3 (fun w' => w'.cell? ⟨g, off + k * 2, none⟩ = some (.int .i64 p) ∧ w'.cell? ⟨g, off + k * 2 + 1, none⟩ = some (.int .i64 q) ∧ w'.cell? ⟨g', off' + k * 2, none⟩ = some (.int .i64 p) ∧ w'.cell? ⟨g', off' + k * 2 + 1, none⟩ = some (.int .i64 q)) (first | exact ⟨(hl.cell (p := ⟨g, off + k * 2, none⟩) hgr).trans h1, (hl.cell (p := ⟨g, off + k * 2 + 1, none⟩) hgr).trans h2, (hl.cell (p := ⟨g', off' + k * 2, none⟩) hgr').trans h3, (hl.cell (p := ⟨g', off' + k * 2 + 1, none⟩) hgr').trans h4⟩ | go_keep)
        (first | (go_at_call 83; refine (eqLoad_any p q _).mono ?_; rintro e w1 ⟨rfl, hl⟩))
      go_wp2
      go_roundw
      case rel => exact ⟨k + 1, by omega, by go_num, (hw.drew).trans (hl.mono hw.size)⟩
      case measure => simp [intOf]; omega
    · have hge : ¬ (k : Int) < (xs.length : Int) := by omega
      go_wp2
      go_ret
      exact ⟨rfl, hw⟩
end Go.Proofs.Ythncgcdnljoakaa
namespace Go.Proofs.Ythncgcdnljoakaa
open Go.RowKit
theorem infoLoad : (Try.prog.info? 78).map (fun i => (i.zero, i.size, i.bytes)) = some (some (.agg #[.int .i64 0, .int .i64 0]), 2, 16) := by kernel_rfl
theorem two_set (w : World) (b o : Nat) (u v : Value) {x y : Value} (h1 : w.cell? ⟨b, o, none⟩ = some x) (h2 : w.cell? ⟨b, o + 1, none⟩ = some y) :
    ((w.setCell ⟨b, o, none⟩ u).setCell ⟨b, o + 1, none⟩ v).cell? ⟨b, o, none⟩ = some u ∧ ((w.setCell ⟨b, o, none⟩ u).setCell ⟨b, o + 1, none⟩ v).cell? ⟨b, o + 1, none⟩ = some v ∧
    ∀ j, j ≠ o → j ≠ o + 1 → ((w.setCell ⟨b, o, none⟩ u).setCell ⟨b, o + 1, none⟩ v).cell? ⟨b, j, none⟩ = w.cell? ⟨b, j, none⟩ := by
  refine ⟨?_, ?_, fun j hj hj2 => ?_⟩
  · rw [World.cell?_setCell_other _ _ _ _ (fun hh => by have := congrArg Addr.off hh; simp at this)]
    exact World.cell?_setCell_same' _ _ _ (by rw [h1]; rfl)
  · refine World.cell?_setCell_same' _ _ _ ?_
    rw [World.cell?_setCell_other _ _ _ _ (fun hh => by have := congrArg Addr.off hh; simp at this), h2]; rfl
  · rw [World.cell?_setCell_other _ _ _ _ (fun hh => hj2 (congrArg Addr.off hh).symm), World.cell?_setCell_other _ _ _ _ (fun hh => hj (congrArg Addr.off hh).symm)]
theorem made_zero (m j : Nat) (h : j < m) : (madeCells #[.int .i64 0, .int .i64 0] m)[j]? = some (.int .i64 0) := by
  unfold madeCells
  have : j % 2 = 0 ∨ j % 2 = 1 := by omega
  rcases this with e | e <;> simp [h, e]
theorem make_loads (n : Nat) (hn : n ≤ 2000000) (u : World) :
    (Instr.makeSlice 32 (.int .i64 (n : Int)) (.int .i64 (n : Int))).run Try.prog u = .ok (.slice (some ⟨u.heap.size, 0, none⟩) n n) (u.alloc (.cells (madeCells #[.int .i64 0, .int .i64 0] (n * 2)) 78)) := by
  obtain ⟨i0, hi, hz0, hz1, hz2⟩ := info_parts infoLoad
  have h := run_make (P := Try.prog) u 32 78 i0 (.agg #[.int .i64 0, .int .i64 0]) Try.underlying32 hi hz0 .i64 .i64 (n : Int) (n : Int) (by omega) (Int.le_refl _) (by rw [hz2]; omega) (by omega)
  simpa [hz1, Value.cells] using h
set_option maxRecDepth 100000 in
set_option maxHeartbeats 800000 in
theorem toLoads_all (a : Option Addr) (c : Nat) (xs : List (Int × Int)) (w : World) (hr : LoadRow w (.slice a xs.length c) xs) (hn : xs.length ≤ 2000000) :
    Calls Try.prog 25 #[.slice a xs.length c] w fun e w' => e = .returned (.slice (some ⟨w.heap.size, 0, none⟩) xs.length xs.length) ∧ LoadRow w' (.slice (some ⟨w.heap.size, 0, none⟩) xs.length xs.length) xs ∧ (∀ j, w'.frozen? ⟨w.heap.size, j, none⟩ = false) ∧ w.heap.size < w'.heap.size ∧ Below w.heap.size w w' := by
  have HM := make_loads xs.length hn
  have HR := Lib.hid hr
  clear hr
  go_enter Try.func25, Try.ntmps25
  go_wp2
  go_loopw [4] (fun i wr => ∃ k : Nat, k ≤ xs.length ∧ i = .int .i64 k ∧ Hid (∀ j, j < k → wr.cell? ⟨w.heap.size, j * 2, none⟩ = some (.int .i64 (xs.getD j (0, 0)).1) ∧ wr.cell? ⟨w.heap.size, j * 2 + 1, none⟩ = some (.int .i64 (xs.getD j (0, 0)).2)) ∧ Hid (∀ j, k * 2 ≤ j → j < xs.length * 2 → wr.cell? ⟨w.heap.size, j, none⟩ = some (.int .i64 0)) ∧ Hid (∀ j, wr.frozen? ⟨w.heap.size, j, none⟩ = false) ∧ Below w.heap.size w wr ∧ w.heap.size + 1 ≤ wr.heap.size) (fun i _ => xs.length - (intOf i).toNat)
  case atStart => exact ⟨0, Nat.zero_le _, rfl, Lib.hid (fun j h => by omega), Lib.hid (fun j _ h => by rw [World.cell?_alloc_at _ _ _ _ rfl]; exact made_zero _ _ h), Lib.hid (fun j => World.frozen?_alloc_at _ _ _ _ rfl), (Below.refl _ _).alloc (Nat.le_refl _) _, by simp⟩
  case round =>
    obtain ⟨k, hk, rfl, H1, H2, H3, hb, hs1⟩ := hrel
    clear HM
    by_cases hlt : k < xs.length
    · obtain ⟨a', c', he, hrr⟩ := HR.out
      cases he
      rcases hrr with h | ⟨g, off, rfl, hg, hc⟩
      · subst h; simp at hlt
      obtain ⟨h1, h2⟩ := hc k hlt
      rw [← hb.cell (p := ⟨g, off + k * 2, none⟩) hg] at h1
      rw [← hb.cell (p := ⟨g, off + k * 2 + 1, none⟩) hg] at h2
      have hlt' : (k : Int) < (xs.length : Int) := by omega
      clear hc
      obtain ⟨x, hx⟩ : ∃ x, xs.getD k (0, 0) = x := ⟨_, rfl⟩
      rw [hx] at h1 h2
      have HX := Lib.hid hx
      clear hx
      obtain ⟨p, q⟩ := x
      simp only at h1 h2
      have z1 := H2.out (k * 2) (Nat.le_refl _) (by omega)
      have z2 := H2.out (k * 2 + 1) (by omega) (by omega)
      have f1 := H3.out (k * 2)
      have f2 := H3.out (k * 2 + 1)
      have hgr : g < wr.heap.size := by omega
      go_wp2_with fail
      refine (toLoad_any p q wr).mono ?_
      rintro e w1 ⟨rfl, hl⟩
      have hn0 : w.heap.size < wr.heap.size := by omega
      have hl1 := hl.size
      rw [← hl.cell (p := ⟨w.heap.size, k * 2, none⟩) hn0] at z1
      rw [← hl.cell (p := ⟨w.heap.size, k * 2 + 1, none⟩) hn0] at z2
      rw [← hl.frozen (p := ⟨w.heap.size, k * 2, none⟩) hn0] at f1
      rw [← hl.frozen (p := ⟨w.heap.size, k * 2 + 1, none⟩) hn0] at f2
      have HLL := Lib.hid hl
      have TS := Lib.hid (two_set w1 w.heap.size (k * 2) (.int .i64 p) (.int .i64 q) z1 z2)
      clear hl h1 h2
      go_wp2
      go_roundw
      case rel =>
        obtain ⟨t1, t2, t3⟩ := TS.out
        refine ⟨k + 1, by omega, by go_num, Lib.hid (fun j hj => ?_), Lib.hid (fun j hj hjn => ?_), Lib.hid (fun j => ?_), ?_, by simp; omega⟩
        · by_cases e : j = k
          · subst e
            rw [HX.out]
            exact ⟨t1, t2⟩
          · rw [t3 _ (by omega) (by omega), t3 _ (by omega) (by omega), HLL.out.cell (p := ⟨w.heap.size, j * 2, none⟩) hn0, HLL.out.cell (p := ⟨w.heap.size, j * 2 + 1, none⟩) hn0]
            exact H1.out j (by omega)
        · rw [t3 _ (by omega) (by omega), HLL.out.cell (p := ⟨w.heap.size, j, none⟩) hn0]
          exact H2.out j (by omega) hjn
        · rw [World.frozen?_setCell, World.frozen?_setCell, HLL.out.frozen (p := ⟨w.heap.size, j, none⟩) hn0]
          exact H3.out j
        · exact ((hb.trans (HLL.out.mono hb.size)).setCell (p := ⟨w.heap.size, k * 2, none⟩) (Nat.le_refl _) _).setCell (p := ⟨w.heap.size, k * 2 + 1, none⟩) (Nat.le_refl _) _
      case measure => simp [intOf]; omega
    · obtain rfl : k = xs.length := by omega
      have hge : ¬ (xs.length : Int) < (xs.length : Int) := by omega
      go_wp2
      go_ret
      exact ⟨rfl, ⟨_, _, rfl, .inr ⟨w.heap.size, 0, rfl, by omega, fun j hj => by rw [Nat.zero_add]; exact H1.out j hj⟩⟩, H3.out, hs1, hb⟩
theorem toLoads_any (a : Option Addr) (c : Nat) (xs : List (Int × Int)) (w : World) (hr : LoadRow w (.slice a xs.length c) xs) (hn : xs.length ≤ 2000000) :
    Calls Try.prog 25 #[.slice a xs.length c] w fun e w' => e = .returned (.slice (some ⟨w.heap.size, 0, none⟩) xs.length xs.length) ∧ LoadRow w' (.slice (some ⟨w.heap.size, 0, none⟩) xs.length xs.length) xs ∧ Below w.heap.size w w' :=
  (toLoads_all a c xs w hr hn).mono fun _ _ ⟨h1, h2, _, _, h3⟩ => ⟨h1, h2, h3⟩
end Go.Proofs.Ythncgcdnljoakaa
namespace Go.Proofs.Ythncgcdnljoakaa
open Go.RowKit
theorem l1Most_any (a b : Int) (w : World) : Calls Try.prog 91 #[.int .i64 a, .int .i64 b] w fun e w' => e = .returned (.int .i64 (if b < a then a else b)) ∧ w = w' := by
  by_cases h : b < a
  all_goals go_enter Try.func91, Try.ntmps91
  all_goals go_wp2
  all_goals go_ret
  all_goals exact ⟨rfl, rfl⟩
theorem tdiv_small (a : Int) (g : Nat) : (Int.tdiv a (g : Int)).natAbs ≤ a.natAbs := by
  rw [Int.natAbs_tdiv]
  exact Nat.div_le_self _ _
end Go.Proofs.Ythncgcdnljoakaa
