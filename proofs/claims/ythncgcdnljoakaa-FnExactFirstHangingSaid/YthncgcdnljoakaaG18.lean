/- Ptr, as one text. -/
import Derived.Test.YthncgcdnljoakaaG15
import Derived.Lib.AppendZeros
import Derived.Deep.AppendSrc
import Derived.Test.YthncgcdnljoakaaG16
import Derived.Test.YthncgcdnljoakaaShelf
import Derived.Shelf.SlSortCmp.Small
namespace Go.Proofs.Ythncgcdnljoakaa
section
open Go.RowKit
def ptrB (b : Nat → Nat) (i : Nat) : Value := .pointer (some ⟨b i, 0, none⟩)
def pcells (b : Nat → Nat) (L : List Nat) : List Value := L.map (ptrB b)
theorem pcells_at (b : Nat → Nat) (L : List Nat) (j : Nat) (hj : j < L.length) : (pcells b L)[j]? = some (ptrB b (L.getD j 0)) := by
  simp [pcells, List.getD, List.getElem?_eq_getElem hj]
theorem pcells_one (b : Nat → Nat) (L : List Nat) : ∀ u ∈ pcells b L, u.oneCell' = true := by
  intro u h
  simp only [pcells, List.mem_map] at h
  obtain ⟨z, _, rfl⟩ := h
  rfl
/-- A row of pointers that can be read. -/
def PRow (w : World) (v : Value) (b : Nat → Nat) (L : List Nat) : Prop :=
  (L = [] ∧ v = .slice none 0 0) ∨ ∃ g off c, v = .slice (some ⟨g, off, none⟩) L.length c ∧ g < w.heap.size ∧ ∀ j, j < L.length → w.cell? ⟨g, off + j, none⟩ = some (ptrB b (L.getD j 0))
theorem PRow.lo {w w' : World} {v : Value} {b : Nat → Nat} {L : List Nat} (h : PRow w v b L) (l : Below w.heap.size w w') : PRow w' v b L := by
  rcases h with h | ⟨g, off, c, rfl, hg, hc⟩
  · exact .inl h
  · exact .inr ⟨g, off, c, rfl, Nat.lt_of_lt_of_le hg l.size, fun j hj => by rw [l.cell (p := ⟨g, off + j, none⟩) hg]; exact hc j hj⟩
theorem PRow.form {w : World} {v : Value} {b : Nat → Nat} {L : List Nat} (h : PRow w v b L) : ∃ a c, v = .slice a L.length c := by
  rcases h with ⟨rfl, rfl⟩ | ⟨g, off, c, rfl, _⟩
  · exact ⟨none, 0, rfl⟩
  · exact ⟨_, c, rfl⟩
/-- A row of pointers in memory of the call's own. -/
def OwnRp (w : World) (B : Nat) (v : Value) (b : Nat → Nat) (L : List Nat) : Prop := w.ownsRow B 144 1 v L.length (pcells b L)
theorem OwnRp.row {w : World} {B : Nat} {v : Value} {b : Nat → Nat} {L : List Nat} (h : OwnRp w B v b L) : PRow w v b L := by
  unfold OwnRp at h
  have h' := h
  rcases h.2 with ⟨rfl, h0⟩ | ⟨g, cap, cur, rfl, hb, hg, _⟩
  · exact .inl ⟨List.length_eq_zero_iff.1 h0, rfl⟩
  · exact .inr ⟨g, 0, cap, rfl, (Array.getElem?_eq_some_iff.1 hg).1, fun j hj => by rw [Nat.zero_add, h'.cellAt j (by omega)]; exact pcells_at b L j hj⟩
theorem growP_zero (w : World) : Calls Try.prog 196 #[.slice none 0 0, .int .i64 0] w fun e w' => e = .returned (.slice none 0 0) ∧ w = w' := by
  go_enter Try.func196, Try.ntmps196
  go_wp2
  go_ret
  exact ⟨rfl, rfl⟩
theorem grownP_own (w : World) (n : Nat) (hn : n ≤ 24) : (w.drew.alloc (.cells (Builtin.zeroCells #[.pointer none] n ++ Builtin.zeroCells #[.pointer none] (grownCap w n 0 144 - n)) 144)).ownsRow w.heap.size 144 1 (.slice (some ⟨w.heap.size, 0, none⟩) 0 (grownCap w n 0 144)) 0 [] := by
  have h1 := grownCap_ge w n 0 144
  have h2 := grownCap_le_maxLen w n 0 144 (by unfold maxLen; omega)
  refine ⟨rfl, .inr ⟨w.heap.size, _, Builtin.zeroCells #[.pointer none] n ++ Builtin.zeroCells #[.pointer none] (grownCap w n 0 144 - n), rfl, Nat.le_refl _, ?_, Nat.zero_le _, h2, ?_, rfl⟩⟩
  · exact heap_alloc_new w.drew _
  · rw [Array.size_append, size_zeroCells, size_zeroCells]
    simp
    omega
set_option maxRecDepth 100000 in
theorem growP_pos (z : Int) (n : Nat) (hz : z = (n : Int)) (h0 : 0 < n) (hn : n ≤ 24) (w : World) :
    Calls Try.prog 196 #[.slice none 0 0, .int .i64 z] w fun e w' => ∃ g cap, e = .returned (.slice (some ⟨g, 0, none⟩) 0 cap) ∧ w'.ownsRow w.heap.size 144 1 (.slice (some ⟨g, 0, none⟩) 0 cap) 0 [] ∧ Below w.heap.size w w' := by
  subst hz
  obtain ⟨i0, hi, hz0, hz1, hz2⟩ := info_parts infoRodp
  have happ := Lib.run_append_nil_zeros (P := Try.prog) w 137 3 137 144 i0 _ .i64 .i64 Try.underlying137 Try.underlying3 hi hz0 n h0 (by omega) (by omega) (by rw [hz2]; omega)
  have OW := Lib.hid (grownP_own w n hn)
  have BW := Lib.hid (show Below w.heap.size w (w.drew.alloc (.cells (Builtin.zeroCells #[.pointer none] n ++ Builtin.zeroCells #[.pointer none] (grownCap w n 0 144 - n)) 144)) from (Below.refl _ _).drew.alloc (Nat.le_refl _) _)
  have h0' : (0 : Int) < (n : Int) := by omega
  have hn' : (n : Int) ≤ 24 := by omega
  go_enter Try.func196, Try.ntmps196
  go_wp2_with (at_builtin; refine Lib.wpList_append_run _ rfl _ _ _ _ rfl _ _ rfl rfl _ _ happ ?_)
  go_ret
  exact ⟨_, _, rfl, OW.out, BW.out⟩
/-- One row appended to another one of the call's own. -/
theorem append_p (w : World) (B : Nat) (b : Nat → Nat) (v x : Value) (L M : List Nat) (ty : TypeId) (ho : OwnRp w B v b L) (hv : v ≠ .slice none 0 0) (hx : PRow w x b M) (hn : L.length + M.length ≤ 24) (hB : B ≤ w.heap.size) :
    ∃ v' w', (Builtin.append_ #[137, 137] ty #[v, x]).run Try.prog w = .ok v' w' ∧ OwnRp w' B v' b (L ++ M) ∧ v' ≠ .slice none 0 0 ∧ w.grownBy w' v.ownBlock := by
  obtain ⟨i0, hi, hz0, hz1, hz2⟩ := info_parts infoRodp
  unfold OwnRp at ho ⊢
  rcases hx with ⟨rfl, rfl⟩ | ⟨g, off, c, rfl, hg, hc⟩
  · rcases ho.2 with ⟨rfl, _⟩ | ⟨g, cap, cur, rfl, hb, hgg, h1, h2, h3, h4⟩
    · exact absurd rfl hv
    · have hr := run_append_room_src (P := Try.prog) w 137 137 ty 144 i0 Try.underlying137 hi g 0 L.length cap (.slice none 0 0) 0 [] (Src.ofNil w Try.underlying137 0) (by omega) (fun j hj => by simp at hj) (fun j hj => by simp at hj)
      refine ⟨_, _, hr, ?_, by simp, ?_⟩
      · rw [List.append_nil, Nat.add_zero]
        exact ho
      · exact ⟨rfl, rfl, rfl, Nat.le_refl _, fun _ _ _ => rfl⟩
  · obtain ⟨v', w', hr, h1, h2, h3⟩ := run_append_own (P := Try.prog) w B 137 ty 144 i0 _ 1 8 Try.underlying137 hi hz0 hz1 hz2 rfl (by decide) v L.length (pcells b L) ho ⟨g, off, none⟩ M.length c (pcells b M) (by simp [pcells])
      (fun j u hj => by
        have hl : j < (pcells b M).length := (List.getElem?_eq_some_iff.1 hj).1
        have hl2 : j < M.length := by simpa [pcells] using hl
        rw [Go.WideShapes.add_plain, hc j hl2, ← hj, pcells_at b M j hl2]) (pcells_one b M) (by unfold maxLen; omega) (by omega) hB
    refine ⟨v', w', hr, ?_, fun e => hv (h3.1 e).1, h2⟩
    rw [List.length_append, show pcells b (L ++ M) = pcells b L ++ pcells b M from List.map_append]
    exact h1
set_option maxRecDepth 100000 in
set_option maxHeartbeats 3200000 in
theorem concat3_any (q : Nat) (va vb vc : Value) (b : Nat → Nat) (L1 L2 L3 : List Nat) (w : World) (c0 : w.cell? ⟨q, 0, none⟩ = some va) (c1 : w.cell? ⟨q, 1, none⟩ = some vb) (c2 : w.cell? ⟨q, 2, none⟩ = some vc)
    (h1 : PRow w va b L1) (h2 : PRow w vb b L2) (h3 : PRow w vc b L3) (h0 : 0 < L1.length) (hn : L1.length + L2.length + L3.length ≤ 12) :
    Calls Try.prog 179 #[.slice (some ⟨q, 0, none⟩) 3 3] w fun e w' => ∃ v, e = .returned v ∧ OwnRp w' w.heap.size v b (L1 ++ (L2 ++ L3)) ∧ v ≠ .slice none 0 0 ∧ Below w.heap.size w w' := by
  have hq := cell_lt c0
  have H1 := Lib.hid h1
  have H2 := Lib.hid h2
  have H3 := Lib.hid h3
  obtain ⟨a1, k1, rfl⟩ := h1.form
  obtain ⟨a2, k2, rfl⟩ := h2.form
  obtain ⟨a3, k3, rfl⟩ := h3.form
  have p1 : ¬ (L1.length : Int) < 0 := by omega
  have p2 : ¬ (L1.length : Int) + (L2.length : Int) < 0 := by omega
  have p3 : ¬ (L1.length : Int) + (L2.length : Int) + (L3.length : Int) < 0 := by omega
  have q1 : (L1.length : Int) ≤ 12 := by omega
  have q2 : (L2.length : Int) ≤ 12 := by omega
  have q3 : (L3.length : Int) ≤ 12 := by omega
  have G := Lib.hid (fun z hz => growP_pos z (L1.length + L2.length + L3.length) hz (by omega) (by omega) w)
  clear h1 h2 h3
  go_enter Try.func179, Try.ntmps179
  go_wp2
  refine wp_loop_rounds 4 ?_
  rw [rounds_succ]
  go_wp2
  rw [rounds_succ]
  go_wp2
  rw [rounds_succ]
  go_wp2
  rw [rounds_succ]
  go_wp2_with fail
  refine (G.out _ (by omega)).mono ?_
  rintro e w1 ⟨g, cap, rfl, o1, l1⟩
  obtain ⟨v2, w2, hr1, o2, n2, g2⟩ := append_p w1 w.heap.size b (.slice (some ⟨g, 0, none⟩) 0 cap) (.slice a1 L1.length k1) [] L1 137 o1 (by simp) (H1.out.lo l1) (by simp; omega) l1.size
  have l2 : Below w.heap.size w w2 := l1.grown g2 l1.size (fun j hj => (o1.lt j hj).1)
  obtain ⟨v3, w3, hr2, o3, n3, g3⟩ := append_p w2 w.heap.size b v2 (.slice a2 L2.length k2) L1 L2 137 o2 n2 (H2.out.lo l2) (by omega) l2.size
  have l3 : Below w.heap.size w w3 := l2.grown g3 l2.size (fun j hj => (World.ownsRow.lt o2 j hj).1)
  obtain ⟨v4, w4, hr3, o4, n4, g4⟩ := append_p w3 w.heap.size b v3 (.slice a3 L3.length k3) (L1 ++ L2) L3 137 o3 n3 (H3.out.lo l3) (by simp; omega) l3.size
  have l4 : Below w.heap.size w w4 := l3.grown g4 l3.size (fun j hj => (World.ownsRow.lt o3 j hj).1)
  have C0 : w1.cell? ⟨q, 0, none⟩ = some (.slice a1 L1.length k1) := by rw [l1.cell (p := ⟨q, 0, none⟩) hq]; exact c0
  have C1 : w2.cell? ⟨q, 1, none⟩ = some (.slice a2 L2.length k2) := by rw [l2.cell (p := ⟨q, 1, none⟩) hq]; exact c1
  have C2 : w3.cell? ⟨q, 2, none⟩ = some (.slice a3 L3.length k3) := by rw [l3.cell (p := ⟨q, 2, none⟩) hq]; exact c2
  have O4 := Lib.hid o4
  have L4 := Lib.hid l4
  have N4 := Lib.hid n4
  clear o1 o2 o3 o4 g2 g3 g4 l1 l2 l3 l4 n2 n3 n4 c0 c1 c2 G
  go_wp2
  refine wp_loop_rounds 4 ?_
  rw [rounds_succ]
  go_wp2_with (at_builtin; refine Lib.wpList_append_run _ rfl _ _ _ _ rfl _ _ rfl rfl _ _ hr1 ?_)
  rw [rounds_succ]
  go_wp2_with (at_builtin; refine Lib.wpList_append_run _ rfl _ _ _ _ rfl _ _ rfl rfl _ _ hr2 ?_)
  rw [rounds_succ]
  go_wp2_with (at_builtin; refine Lib.wpList_append_run _ rfl _ _ _ _ rfl _ _ rfl rfl _ _ hr3 ?_)
  rw [rounds_succ]
  go_wp2
  go_ret
  exact ⟨_, rfl, by rw [← List.append_assoc]; exact O4.out, N4.out, L4.out⟩
end
section
open Go.RowKit
/-- A rod and all below it. -/
def preR (S : RodF) : Nat → Nat → List Nat
  | 0, _ => []
  | k + 1, i => i :: ((if S.be (2 * i) = 0 then [] else preR S k (S.be (2 * i))) ++ (if S.be (2 * i + 1) = 0 then [] else preR S k (S.be (2 * i + 1))))
theorem below_nil (w : World) :
    Calls Try.prog 167 #[.pointer none] w fun e w' => e = .returned (.slice none 0 0) ∧ w' = w := by
  go_enter Try.func167, Try.ntmps167
  go_wp2
  go_ret
  exact ⟨rfl, rfl⟩
/-- What withBelow answers at a pointer. -/
def BelowAt (b : Nat → Nat) (p : Value) (L : List Nat) (w1 : World) : Prop :=
  Calls Try.prog 167 #[p] w1 fun e w' => ∃ v, e = .returned v ∧ PRow w' v b L ∧ Below w1.heap.size w1 w'
set_option maxRecDepth 100000 in
set_option maxHeartbeats 3200000 in
theorem below_step (b : Nat → Nat) (i : Nat) (p0 p1 : Value) (L2 L3 : List Nat) (w : World) (k5 : w.cell? ⟨b i, 5, none⟩ = some p0) (k6 : w.cell? ⟨b i, 6, none⟩ = some p1)
    (h0 : ∀ w1, Below w.heap.size w w1 → BelowAt b p0 L2 w1) (h1 : ∀ w1, Below w.heap.size w w1 → BelowAt b p1 L3 w1) (hn : 1 + L2.length + L3.length ≤ 12) :
    Calls Try.prog 167 #[.pointer (some ⟨b i, 0, none⟩)] w fun e w' => ∃ v, e = .returned v ∧ OwnRp w' w.heap.size v b (i :: (L2 ++ L3)) ∧ v ≠ .slice none 0 0 ∧ Below w.heap.size w w' := by
  have C0 := Lib.hid h0
  have C1 := Lib.hid h1
  have hbl : b i < w.heap.size := cell_lt k5
  have HN := Lib.hid hn
  clear h0 h1 hn
  have LA := Lib.hid (show Below w.heap.size w (w.alloc (.cells #[.pointer (some ⟨b i, 0, none⟩)] 144)).drew from ((Below.refl _ _).alloc (Nat.le_refl _) _).drew)
  have LD := Lib.hid (show Below w.heap.size w w.drew from (Below.refl _ _).drew)
  have ka5 := (LA.out.cell (p := ⟨b i, 5, none⟩) hbl).trans k5
  have ka6 := (LA.out.cell (p := ⟨b i, 6, none⟩) hbl).trans k6
  have RN := Lib.hid (fun v : World => show PRow (v.alloc (.cells #[.pointer (some ⟨b i, 0, none⟩)] 144)) (.slice (some ⟨v.heap.size, 0, none⟩) 1 1) b [i] from .inr ⟨v.heap.size, 0, 1, rfl, by simp, fun j hj => by
    have hj0 : j = 0 := by simpa using hj
    subst hj0
    exact (World.cell?_alloc_at _ _ _ _ rfl).trans rfl⟩)
  have RA := Lib.hid (show PRow (w.alloc (.cells #[.pointer (some ⟨b i, 0, none⟩)] 144)).drew (.slice (some ⟨w.heap.size, 0, none⟩) 1 1) b [i] from (RN.out w).lo ((Below.refl _ _).drew))
  have AL := Lib.hid (fun v : World => show Below v.heap.size v (v.alloc (.cells #[.pointer (some ⟨b i, 0, none⟩)] 144)) from (Below.refl _ _).alloc (Nat.le_refl _) _)
  have SZ := Lib.hid (fun v : World => show (v.alloc (.cells #[.pointer (some ⟨b i, 0, none⟩)] 144)).heap.size = v.heap.size + 1 by simp)
  have K := Lib.hid (fun (v : World) (N gq : Nat) (hN : v.heap.size = N) (u5 u6 : Value) (a5 a6 : Option Addr) (q5 q6 : Nat) (m4 : PRow v (.slice (some ⟨gq, 0, none⟩) 1 1) b [i]) (m5 : PRow v u5 b L2) (e5 : u5 = .slice a5 L2.length q5) (m6 : PRow v u6 b L3) (e6 : u6 = .slice a6 L3.length q6) (L6 : Below w.heap.size w v) =>
    show Calls Try.prog 179 #[.slice (some ⟨N, 0, none⟩) 3 3] (v.alloc (.cells #[.slice (some ⟨gq, 0, none⟩) 1 1, .slice a5 L2.length q5, .slice a6 L3.length q6] 137)) fun e w' => ∃ v, e = .returned v ∧ OwnRp w' w.heap.size v b (i :: (L2 ++ L3)) ∧ v ≠ .slice none 0 0 ∧ Below w.heap.size w w' ∧ (w'.cell? ⟨b i, 5, none⟩ = some p0 ∧ w'.cell? ⟨b i, 6, none⟩ = some p1) by
      have L7 : Below w.heap.size w (v.alloc (.cells #[.slice (some ⟨gq, 0, none⟩) 1 1, .slice a5 L2.length q5, .slice a6 L3.length q6] 137)) := L6.alloc L6.size _
      have LV : ∀ o, Below v.heap.size v (v.alloc o) := fun o => (Below.refl _ _).alloc (Nat.le_refl _) _
      subst e5 e6
      subst hN
      refine (concat3_any v.heap.size (.slice (some ⟨gq, 0, none⟩) 1 1) (.slice a5 L2.length q5) (.slice a6 L3.length q6) b [i] L2 L3 _ ((World.cell?_alloc_at _ _ _ _ rfl).trans rfl) ((World.cell?_alloc_at _ _ _ _ rfl).trans rfl) ((World.cell?_alloc_at _ _ _ _ rfl).trans rfl)
        (m4.lo (LV _)) (m5.lo (LV _)) (m6.lo (LV _)) (by simp) (by have := HN.out; simp; omega)).mono ?_
      rintro e w' ⟨v, rfl, ho, hv, l⟩
      have L8 := L7.trans (l.mono L7.size)
      refine ⟨v, rfl, ?_, hv, L8, (L8.cell (p := ⟨b i, 5, none⟩) hbl).trans k5, (L8.cell (p := ⟨b i, 6, none⟩) hbl).trans k6⟩
      exact ⟨ho.1, ho.2.imp id (fun ⟨g', cap, cur, x1, x2, x3⟩ => ⟨g', cap, cur, x1, Nat.le_trans L7.size x2, x3⟩)⟩)
  go_enter Try.func167, Try.ntmps167
  go_wp2
  go_region_held3 (fun w' => w'.cell? ⟨b i, 5, none⟩ = some p0 ∧ w'.cell? ⟨b i, 6, none⟩ = some p1)
    (first
      | with_reducible exact ⟨k5, k6⟩
      | with_reducible exact ⟨ka5, ka6⟩
      | with_reducible exact ⟨kb5, kb6⟩
      | with_reducible exact ⟨kc5, kc6⟩
      | with_reducible exact ⟨kd5, kd6⟩
      | go_keep)
    (first
      | (go_at_call_of 167 p0; refine (C0.out _ (by first | with_reducible exact LA.out | with_reducible exact LD.out)).mono ?_; rintro e5 v5 ⟨t5, rfl, m5, hl5⟩; obtain ⟨a5, q5, hf5⟩ := m5.form; have L5 := lo_on (show Below w.heap.size w _ by first | with_reducible exact LA.out | with_reducible exact LD.out) hl5; have kb5 := (L5.cell (p := ⟨b i, 5, none⟩) hbl).trans k5; have kb6 := (L5.cell (p := ⟨b i, 6, none⟩) hbl).trans k6)
      | (go_at_call_of 167 p1; refine (C1.out _ (by first | with_reducible exact L5 | with_reducible exact lo_on L5 (AL.out v5))).mono ?_; rintro e6 v6 ⟨t6, rfl, m6, hl6⟩; obtain ⟨a6, q6, hf6⟩ := m6.form; have L6 := lo_on (show Below w.heap.size w _ by first | with_reducible exact L5 | with_reducible exact lo_on L5 (AL.out v5)) hl6; have kc5 := (L6.cell (p := ⟨b i, 5, none⟩) hbl).trans k5; have kc6 := (L6.cell (p := ⟨b i, 6, none⟩) hbl).trans k6)
      | (go_at_call 179
         first
           | (with_reducible have P4 := PRow.lo (PRow.lo RA.out hl5) hl6; have P5 := m5.lo hl6; have P6 := m6; have P7 := L6; have P8 := Eq.refl v6.heap.size)
           | (with_reducible have P4 := PRow.lo (RN.out v5) hl6; have P5 := (m5.lo (AL.out v5)).lo hl6; have P6 := m6; have P7 := L6; have P8 := Eq.refl v6.heap.size)
           | (have P4 := RN.out v6; have P5 := (m5.lo hl6).lo (AL.out v6); have P6 := m6.lo (AL.out v6); have P7 := lo_on L6 (AL.out v6); have P8 := SZ.out v6)
         refine (K.out _ _ _ P8 _ _ _ _ _ _ P4 P5 hf5 P6 hf6 P7).mono ?_
         rintro e7 v7 ⟨t7, rfl, m7, n7, hl7, kd5, kd6⟩))
  all_goals go_wp2
  all_goals go_ret
  all_goals exact ⟨t7, rfl, m7, n7, hl7⟩
theorem below_all (n B : Nat) (b : Nat → Nat) (nu : Nat → Int) (S : RodF) (hd : ∀ t, t < 2 * n → S.be t ≠ 0 → t / 2 < S.be t ∧ S.be t < n) : ∀ (k i : Nat) (w : World), n ≤ i + k → i < n → RodsIn w B 0 n b nu S → (∀ j k', j < n → n ≤ j + k' → (preR S k' j).length ≤ 6) →
    Calls Try.prog 167 #[.pointer (some ⟨b i, 0, none⟩)] w fun e w' => ∃ v, e = .returned v ∧ OwnRp w' w.heap.size v b (preR S k i) ∧ v ≠ .slice none 0 0 ∧ Below w.heap.size w w' := by
  intro k
  induction k with
  | zero => intro i w h1 h2; omega
  | succ k ih =>
    intro i w h1 hi H hl
    have c5 := (H.rod i (by omega) hi).below 0 (by omega)
    have c6 := (H.rod i (by omega) hi).below 1 (by omega)
    simp only [Nat.add_zero, Nat.reduceAdd] at c5 c6
    have sub : ∀ t, t < 2 * n → t / 2 = i → ∀ w1, Below w.heap.size w w1 → BelowAt b (ptrR b (S.be t)) (if S.be t = 0 then [] else preR S k (S.be t)) w1 := by
      intro t ht hti w1 l
      unfold BelowAt
      by_cases h0 : S.be t = 0
      · rw [if_pos h0, ptrR_none _ h0]
        refine (below_nil w1).mono ?_
        rintro e w' ⟨rfl, rfl⟩
        exact ⟨_, rfl, .inl ⟨rfl, rfl⟩, Below.refl _ _⟩
      · rw [if_neg h0, ptrR_some _ h0]
        obtain ⟨h2, h3⟩ := hd t ht h0
        refine (ih (S.be t) w1 (by omega) h3 (H.lo l) hl).mono ?_
        rintro e w' ⟨v, rfl, ho, _, l2⟩
        exact ⟨v, rfl, ho.row, l2⟩
    have hlen := hl i (k + 1) hi h1
    rw [preR, List.length_cons, List.length_append] at hlen
    rw [preR]
    exact below_step b i _ _ _ _ w c5 c6 (sub (2 * i) (by omega) (by omega)) (sub (2 * i + 1) (by omega) (by omega)) (by omega)
end
section
open Go.RowKit
/-- Each rod hangs below a rod with a less number, and nowhere else. -/
structure TreeR (n : Nat) (S : RodF) : Prop where
  down : ∀ t, t < 2 * n → S.be t ≠ 0 → t / 2 < S.be t ∧ S.be t < n
  once : ∀ t u, t < 2 * n → u < 2 * n → S.be t = S.be u → S.be t ≠ 0 → t = u
theorem cntM_two (m : MobV) (j : Nat) {t u T : Nat} (htu : t < u) (hu : u < T) (h1 : hvM m t = -(j : Int)) (h2 : hvM m u = -(j : Int)) : 2 ≤ cntM m T j := by
  have a : cntM m (t + 1) j = cntM m t j + 1 := by rw [cntM, if_pos h1]
  have b : cntM m (u + 1) j = cntM m u j + 1 := by rw [cntM, if_pos h2]
  have c := cntM_mono m j (show t + 1 ≤ u by omega)
  have d := cntM_mono m j (show u + 1 ≤ T by omega)
  omega
theorem treeR_rodF {m : MobV} (hf : MobF m) : TreeR m.am.length (rodF m) where
  down := (wtR_rodF hf).down
  once := fun t u ht hu he h0 => by
    have hd := (wtR_rodF hf).down t ht h0
    have ht2 := (hf.ends t ht).2
    have hu2 := (hf.ends u hu).2
    have h1 := hf.once ((rodF m).be t) (by omega) hd.2
    simp only [rodF] at he h0 h1
    rcases Nat.lt_trichotomy t u with h | h | h
    · have := cntM_two m (-hvM m t).toNat h hu (by omega) (by omega)
      omega
    · exact h
    · have := cntM_two m (-hvM m t).toNat h ht (by omega) (by omega)
      omega
theorem preR_succ (S : RodF) (k i : Nat) : preR S (k + 1) i = i :: ((if S.be (2 * i) = 0 then [] else preR S k (S.be (2 * i))) ++ (if S.be (2 * i + 1) = 0 then [] else preR S k (S.be (2 * i + 1)))) := rfl
theorem preR_mem (S : RodF) (k i j : Nat) : j ∈ preR S (k + 1) i ↔ j = i ∨ ∃ e, e < 2 ∧ S.be (2 * i + e) ≠ 0 ∧ j ∈ preR S k (S.be (2 * i + e)) := by
  rw [preR_succ, List.mem_cons, List.mem_append]
  constructor
  · rintro (h | h | h)
    · exact .inl h
    · by_cases h0 : S.be (2 * i) = 0
      · rw [if_pos h0] at h; cases h
      · rw [if_neg h0] at h; exact .inr ⟨0, by omega, h0, h⟩
    · by_cases h0 : S.be (2 * i + 1) = 0
      · rw [if_pos h0] at h; cases h
      · rw [if_neg h0] at h; exact .inr ⟨1, by omega, h0, h⟩
  · rintro (h | ⟨e, he, h0, h⟩)
    · exact .inl h
    · rcases (show e = 0 ∨ e = 1 by omega) with rfl | rfl
      · simp only [Nat.add_zero] at h0 h
        exact .inr (.inl (by rw [if_neg h0]; exact h))
      · exact .inr (.inr (by rw [if_neg h0]; exact h))
theorem preR_ge {n : Nat} {S : RodF} (hT : TreeR n S) : ∀ k i j, i < n → j ∈ preR S k i → i ≤ j ∧ j < n := by
  intro k
  induction k with
  | zero => intro i j _ h; cases h
  | succ k ih =>
    intro i j hi h
    rcases (preR_mem S k i j).1 h with rfl | ⟨e, he, h0, h⟩
    · exact ⟨Nat.le_refl _, hi⟩
    · obtain ⟨h1, h2⟩ := hT.down (2 * i + e) (by omega) h0
      have := ih _ j h2 h
      omega
theorem preR_parent {n : Nat} {S : RodF} (hT : TreeR n S) : ∀ k i j, i < n → j ∈ preR S k i → j = i ∨ ∃ t, t < 2 * n ∧ S.be t = j ∧ j ≠ 0 ∧ t / 2 ∈ preR S k i := by
  intro k
  induction k with
  | zero => intro i j _ h; cases h
  | succ k ih =>
    intro i j hi h
    rcases (preR_mem S k i j).1 h with rfl | ⟨e, he, h0, h⟩
    · exact .inl rfl
    · obtain ⟨h1, h2⟩ := hT.down (2 * i + e) (by omega) h0
      right
      rcases ih _ j h2 h with rfl | ⟨t, ht, hb, hj, hp⟩
      · exact ⟨2 * i + e, by omega, rfl, h0, (preR_mem S k i _).2 (.inl (by omega))⟩
      · exact ⟨t, ht, hb, hj, (preR_mem S k i _).2 (.inr ⟨e, he, h0, hp⟩)⟩
theorem preR_disj {n : Nat} {S : RodF} (hT : TreeR n S) (k a b i ta tb : Nat) (ha : a < n) (hb : b < n) (hab : a ≠ b) (hta : ta < 2 * n) (htb : tb < 2 * n) (h1 : S.be ta = a) (h2 : S.be tb = b) (a0 : a ≠ 0) (b0 : b ≠ 0) (p1 : ta / 2 = i) (p2 : tb / 2 = i) (ia : i < a) (ib : i < b) :
    ∀ j, j ∈ preR S k a → j ∈ preR S k b → False := by
  intro j
  induction j using Nat.strongRecOn with
  | _ j ih =>
    intro ja jb
    rcases preR_parent hT k a j ha ja with rfl | ⟨t, ht, hbt, hj0, hp⟩
    · rcases preR_parent hT k b j hb jb with e | ⟨u, hu, hbu, _, hq⟩
      · exact hab e
      · have := hT.once u ta hu hta (by rw [hbu, h1]) (by rw [hbu]; exact a0)
        subst this
        have := (preR_ge hT k b _ hb hq).1
        omega
    · rcases preR_parent hT k b j hb jb with rfl | ⟨u, hu, hbu, _, hq⟩
      · have := hT.once t tb ht htb (by rw [hbt, h2]) (by rw [hbt]; exact b0)
        subst this
        have := (preR_ge hT k a _ ha hp).1
        omega
      · have := hT.once t u ht hu (by rw [hbt, hbu]) (by rw [hbt]; exact hj0)
        subst this
        have := (hT.down t ht (by rw [hbt]; exact hj0)).1
        exact ih _ (by omega) hp hq
theorem preR_nodup {n : Nat} {S : RodF} (hT : TreeR n S) : ∀ k i, i < n → (preR S k i).Nodup := by
  intro k
  induction k with
  | zero => intro i _; exact List.Pairwise.nil
  | succ k ih =>
    intro i hi
    rw [preR_succ, List.nodup_cons]
    constructor
    · rw [List.mem_append]
      have no : ∀ e, e < 2 → S.be (2 * i + e) ≠ 0 → ¬ i ∈ preR S k (S.be (2 * i + e)) := fun e he h0 h => by
        obtain ⟨h1, h2⟩ := hT.down (2 * i + e) (by omega) h0
        have := (preR_ge hT k _ i h2 h).1
        omega
      rintro (h | h)
      · by_cases h0 : S.be (2 * i) = 0
        · rw [if_pos h0] at h; cases h
        · rw [if_neg h0] at h; exact no 0 (by omega) h0 h
      · by_cases h0 : S.be (2 * i + 1) = 0
        · rw [if_pos h0] at h; cases h
        · rw [if_neg h0] at h; exact no 1 (by omega) h0 h
    · rw [List.nodup_append]
      refine ⟨?_, ?_, ?_⟩
      · by_cases h0 : S.be (2 * i) = 0
        · rw [if_pos h0]; exact List.Pairwise.nil
        · rw [if_neg h0]; exact ih _ (hT.down (2 * i) (by omega) h0).2
      · by_cases h0 : S.be (2 * i + 1) = 0
        · rw [if_pos h0]; exact List.Pairwise.nil
        · rw [if_neg h0]; exact ih _ (hT.down (2 * i + 1) (by omega) h0).2
      · intro x hx y hy e
        subst e
        by_cases h0 : S.be (2 * i) = 0
        · rw [if_pos h0] at hx; cases hx
        · by_cases h3 : S.be (2 * i + 1) = 0
          · rw [if_pos h3] at hy; cases hy
          · rw [if_neg h0] at hx
            rw [if_neg h3] at hy
            obtain ⟨d1, d2⟩ := hT.down (2 * i) (by omega) h0
            obtain ⟨d3, d4⟩ := hT.down (2 * i + 1) (by omega) h3
            refine preR_disj hT k (S.be (2 * i)) (S.be (2 * i + 1)) i (2 * i) (2 * i + 1) d2 d4 (fun e => ?_) (by omega) (by omega) rfl rfl h0 h3 (by omega) (by omega) (by omega) (by omega) x hx hy
            have := hT.once (2 * i) (2 * i + 1) (by omega) (by omega) e h0
            omega
theorem preR_down {n : Nat} {S : RodF} (hT : TreeR n S) : ∀ k i t, n ≤ i + k → i < n → t < 2 * n → S.be t ≠ 0 → t / 2 ∈ preR S k i → S.be t ∈ preR S k i := by
  intro k
  induction k with
  | zero => intro i t h1 h2; omega
  | succ k ih =>
    intro i t h1 hi ht h0 h
    obtain ⟨d1, d2⟩ := hT.down t ht h0
    rcases (preR_mem S k i _).1 h with h2 | ⟨e, he, h3, h⟩
    · refine (preR_mem S k i _).2 (.inr ⟨t % 2, by omega, ?_, ?_⟩)
      · rw [show 2 * i + t % 2 = t by omega]; exact h0
      · rw [show 2 * i + t % 2 = t by omega]
        obtain ⟨k', rfl⟩ : ∃ k', k = k' + 1 := ⟨k - 1, by omega⟩
        exact (preR_mem S k' _ _).2 (.inl rfl)
    · obtain ⟨d3, d4⟩ := hT.down (2 * i + e) (by omega) h3
      exact (preR_mem S k i _).2 (.inr ⟨e, he, h3, ih _ t (by omega) d4 ht h0 h⟩)
theorem nodup_len : ∀ (n : Nat) (L : List Nat), L.Nodup → (∀ x, x ∈ L → x < n) → L.length ≤ n := by
  intro n
  induction n with
  | zero =>
    intro L _ h
    cases L with
    | nil => exact Nat.le_refl _
    | cons x L => exact absurd (h x (List.mem_cons_self ..)) (by omega)
  | succ n ih =>
    intro L hn h
    by_cases hm : n ∈ L
    · have h1 := ih (L.erase n) (hn.erase n) (fun x hx => by
        have h2 := (hn.mem_erase_iff).1 hx
        have := h x h2.2
        have := h2.1
        omega)
      rw [List.length_erase_of_mem hm] at h1
      omega
    · have := ih L hn (fun x hx => by
        have := h x hx
        have : x ≠ n := fun e => hm (e ▸ hx)
        omega)
      omega
theorem preR_len {n : Nat} {S : RodF} (hT : TreeR n S) (h6 : n ≤ 6) (k i : Nat) (hi : i < n) : (preR S k i).length ≤ 6 := by
  have := nodup_len n _ (preR_nodup hT k i hi) (fun x hx => (preR_ge hT k i x hi hx).2)
  omega
/-- The rods that stand below rod 0, in order. -/
def keptR (n : Nat) (S : RodF) : List Nat := (List.range n).filter (fun j => decide (j ∈ preR S n 0))
theorem keptR_mem {n : Nat} {S : RodF} (hT : TreeR n S) (h1 : 1 ≤ n) (j : Nat) : j ∈ keptR n S ↔ j ∈ preR S n 0 := by
  unfold keptR
  rw [List.mem_filter, List.mem_range, decide_eq_true_eq]
  exact ⟨fun h => h.2, fun h => ⟨(preR_ge hT n 0 j (by omega) h).2, h⟩⟩
theorem keptR_rise (n : Nat) (S : RodF) : (keptR n S).Pairwise (· < ·) := List.Pairwise.filter _ List.pairwise_lt_range
/-- A list of the same rods in order is that one. -/
theorem keptR_only {n : Nat} {S : RodF} (hT : TreeR n S) (h1 : 1 ≤ n) (L : List Nat) (hp : L.Perm (preR S n 0)) (hs : ∀ i j, i < j → j < L.length → L.getD i 0 ≤ L.getD j 0) : L = keptR n S := by
  have hnd : L.Nodup := hp.nodup_iff.2 (preR_nodup hT n 0 (by omega))
  have hk : (keptR n S).Nodup := (keptR_rise n S).imp (fun h => by omega)
  have hp2 : L.Perm (keptR n S) := by
    refine (List.perm_ext_iff_of_nodup hnd hk).2 (fun x => ?_)
    rw [keptR_mem hT h1, hp.mem_iff]
  refine List.Perm.eq_of_pairwise (le := fun a b : Nat => a ≤ b) (fun a b _ _ h1 h2 => Nat.le_antisymm h1 h2) ?_ ((keptR_rise n S).imp (fun h => by omega)) hp2
  rw [List.pairwise_iff_getElem]
  intro i j hi hj hij
  have := hs i j hij hj
  simpa [List.getD, List.getElem?_eq_getElem hi, List.getElem?_eq_getElem hj] using this
theorem preR_full {m : MobV} (hf : MobF m) : ∀ j, j < m.am.length → j ∈ preR (rodF m) m.am.length 0 := by
  intro j
  induction j using Nat.strongRecOn with
  | _ j ih =>
    intro hj
    obtain ⟨k, hk⟩ : ∃ k, m.am.length = k + 1 := ⟨m.am.length - 1, by omega⟩
    by_cases h0 : j = 0
    · subst h0; rw [hk]; exact (preR_mem _ k 0 0).2 (.inl rfl)
    · have h1 := hf.once j (by omega) hj
      have hex : ∃ t, t < 2 * m.am.length ∧ hvM m t = -(j : Int) := by
        rcases Classical.em (∃ t, t < 2 * m.am.length ∧ hvM m t = -(j : Int)) with h | h
        · exact h
        · rw [cntM_zero m j _ (fun t ht e => h ⟨t, ht, e⟩)] at h1; omega
      obtain ⟨t, ht, hh⟩ := hex
      have hb : (rodF m).be t = j := by simp only [rodF]; omega
      have hd := (wtR_rodF hf).down t ht (by omega)
      rw [hb] at hd
      have := preR_down (treeR_rodF hf) m.am.length 0 t (by omega) (by omega) ht (by omega) (ih _ hd.1 (by omega))
      rw [hb] at this
      exact this
theorem keptR_full {m : MobV} (hf : MobF m) : keptR m.am.length (rodF m) = List.range m.am.length := by
  unfold keptR
  rw [List.filter_eq_self]
  intro j hj
  rw [List.mem_range] at hj
  rw [decide_eq_true_eq]
  exact preR_full hf j hj
end
section
open Go.RowKit Go.Sort
theorem cmpRod_any (gi gj : Nat) (x y : Int) (W : World) (c1 : W.cell? ⟨gi, 0, none⟩ = some (.int .i64 x)) (c2 : W.cell? ⟨gj, 0, none⟩ = some (.int .i64 y)) :
    Calls Try.prog 169 #[.pointer (some ⟨gi, 0, none⟩), .pointer (some ⟨gj, 0, none⟩)] W fun e w' => e = .returned (.int .i64 (Lib.compareInt x y)) ∧ ∃ q, w' = W.drewN q := by
  have C := Lib.hid (fun W' => Try.cmp_Compare_int x y W')
  generalize Lib.compareInt x y = r at C ⊢
  go_enter Try.func169, Try.ntmps169
  go_wp2
  go_quiet ((go_at_call 135; exact Calls.quiet_of_same (C.out _)))
  go_wp2
  go_ret
  exact ⟨rfl, _, rfl⟩
/-- A number of a rod, in any case. -/
def clR (n i : Nat) : Nat := if i < n then i else 0
theorem clR_lt {n : Nat} (h0 : 0 < n) (i : Nat) : clR n i < n := by unfold clR; split <;> omega
theorem clR_id {n i : Nat} (h : i < n) : clR n i = i := if_pos h
def encR (b : Nat → Nat) (n i : Nat) : Value := ptrB b (clR n i)
def cfR (nu : Nat → Int) (n x y : Nat) : Int := Lib.compareInt (nu (clR n x)) (nu (clR n y))
theorem ltR (nu : Nat → Int) (n x y : Nat) : ltOf (cfR nu n) x y = decide (nu (clR n x) < nu (clR n y)) := by
  unfold ltOf cfR Lib.compareInt
  generalize nu (clR n x) = p
  generalize nu (clR n y) = q
  by_cases h1 : p < q
  · simp [h1]
  · by_cases h2 : q < p
    · simp [h1, h2]
    · simp [h1, h2]
theorem swoR (nu : Nat → Int) (n : Nat) : SWO (ltOf (cfR nu n)) := by
  refine ⟨fun x => ?_, fun x y z => ?_, fun x y z => ?_⟩
  · rw [ltR]; simp
  · rw [ltR, ltR, ltR]; simp; omega
  · rw [ltR, ltR, ltR]; simp; omega
theorem sortWorld_far {α : Type} [Inhabited α] (enc : α → Value) (w : World) (g off m k : Nat) (d : Array α) (os : Array Obj) (hk : k ≠ g) (hl : k < w.heap.size) : (sortWorld enc w g off m d os).heap[k]? = w.heap[k]? := by
  unfold sortWorld grow putRow mapBlock
  show ((w.heap.modify g _) ++ os)[k]? = w.heap[k]?
  rw [Array.getElem?_append, if_pos (by simpa using hl), Array.getElem?_modify, if_neg (fun e => hk e.symm)]
theorem lenR_any (n : Nat) (W : World) (h : n ≤ 12) : Calls Try.prog 172 #[.int .u64 n] W fun e w' => (∃ l : Int, e = .returned (.int .i64 l)) ∧ w' = W :=
  (Try.bits_Len n W (by omega) (by omega)).mono fun _ _ ⟨he, hw⟩ => ⟨⟨_, he⟩, hw⟩
theorem permR_of_sort {d d' : Array Nat} (h : Sort.PermIn 0 d.size d d') : d'.toList.Perm d.toList := by
  obtain ⟨hs, _, hp⟩ := h
  have e : d'.extract 0 d.size = d' := by rw [← hs]; exact Array.extract_size
  rw [e, Array.extract_size] at hp
  exact hp
theorem getR_list (d : Array Nat) (j : Nat) (h : j < d.size) : d[j]! = d.toList.getD j 0 := by
  rw [getElem!_pos d j h, List.getD, List.getElem?_eq_getElem (by simpa using h)]
  simp
set_option maxHeartbeats 800000 in
/-- The sort leaves the rods, in ascending order of their numbers; it turns that row alone. -/
theorem sortP_any (g cap B B2 n : Nat) (b : Nat → Nat) (nu : Nat → Int) (S : RodF) (L : List Nat) (w : World) (h : OwnRp w B (.slice (some ⟨g, 0, none⟩) L.length cap) b L) (H : RodsIn w B2 0 n b nu S) (hg : ∀ i, i < n → b i ≠ g) (hL : ∀ i, i ∈ L → i < n) (h0 : 0 < n) (h12 : L.length ≤ 12) :
    Calls Try.prog 168 #[.slice (some ⟨g, 0, none⟩) L.length cap, .func (.func 169) #[] #[]] w fun e w' => e = .returned (.tuple #[]) ∧ ∃ L' : List Nat, L'.Perm L ∧ (∀ i j, i < j → j < L'.length → nu (L'.getD i 0) ≤ nu (L'.getD j 0)) ∧ (∀ j, j < L'.length → w'.cell? ⟨g, j, none⟩ = some (ptrB b (L'.getD j 0))) ∧ Only g w w' := by
  have eg : ∀ args w, (callFunc 169 args).run Try.prog w = .ok (.enter 169 args) w := enters_of Try.func169 (by kernel_rfl) rfl
  unfold OwnRp at h
  have hH : Holds (encR b n) w g 0 L.toArray := fun j hj => by
    have hj' : j < L.length := by simpa using hj
    rw [Nat.zero_add, h.cellAt j (by omega), pcells_at b L j hj', getR_list _ _ hj]
    refine ⟨?_, h.frozenAt j⟩
    unfold encR
    have hm : L.getD j 0 ∈ L := by simp only [List.getD, List.getElem?_eq_getElem hj', Option.getD_some]; exact List.getElem_mem hj'
    rw [show L.toArray.toList = L from rfl, clR_id (hL _ hm)]
  have hcmp : CmpReads Try.prog 169 #[] (encR b n) (cfR nu n) g 0 L.toArray.size w := fun m os dk _ x y => by
    have num : ∀ i, i < n → (sortWorld (encR b n) w g 0 m dk os).cell? ⟨b i, 0, none⟩ = some (.int .i64 (nu i)) := fun i hi => by
      have hr := H.rod i (by omega) hi
      rw [World.cell?_of_block (sortWorld_far _ w g 0 m (b i) dk os (hg i hi) hr.lt)]
      exact hr.num
    exact cmpRod_any _ _ _ _ _ (num _ (clR_lt h0 x)) (num _ (clR_lt h0 y))
  have hcon := Any.slices_SortFunc_small_sorted Try.laysSortP (encR b n) (fun _ => rfl) (cfR nu n) (swoR nu n) 169 #[] g 0 cap L.toArray w eg hcmp hH (by simpa using h12) lenR_any
  change Calls Try.prog 168 _ _ _ at hcon
  rw [show L.toArray.size = L.length from List.size_toArray] at hcon
  refine hcon.mono ?_
  rintro e w' ⟨rfl, d', q, hp, hs, rfl⟩
  have hsz : d'.size = L.length := by have := hp.1; simpa using this
  have hperm : d'.toList.Perm L := by
    have := permR_of_sort (d := L.toArray) (d' := d') (by simpa using hp)
    simpa using this
  have hlt : ∀ j, j < d'.toList.length → d'.toList.getD j 0 < n := fun j hj => by
    have hm : d'.toList.getD j 0 ∈ d'.toList := by simp only [List.getD, List.getElem?_eq_getElem hj, Option.getD_some]; exact List.getElem_mem hj
    exact hL _ (hperm.mem_iff.1 hm)
  refine ⟨rfl, d'.toList, hperm, fun i j hij hj => ?_, fun j hj => ?_, ?_⟩
  · have hj' : j < d'.size := by simpa using hj
    have h1 := hs i j (Nat.zero_le _) hij (by omega)
    rw [ltR, getR_list d' i (by omega), getR_list d' j hj', clR_id (hlt i (by omega)), clR_id (hlt j hj)] at h1
    have := of_decide_eq_false h1
    omega
  · have hj' : j < d'.size := by simpa using hj
    have hh := (holds_putRow (encR b n) w g 0 L.toArray d' hH (by simpa using hsz)) j hj'
    rw [Nat.zero_add] at hh
    have h1 := hh.1
    rw [getR_list d' j hj'] at h1
    unfold encR at h1
    rw [clR_id (hlt j hj)] at h1
    exact h1
  · refine ⟨rfl, rfl, rfl, ?_, fun k hk hl => ?_⟩
    · show w.heap.size ≤ (w.heap.modify g _).size
      simp
    · show (w.heap.modify g _)[k]? = w.heap[k]?
      rw [Array.getElem?_modify, if_neg (fun e => hk e.symm)]
end
end Go.Proofs.Ythncgcdnljoakaa
