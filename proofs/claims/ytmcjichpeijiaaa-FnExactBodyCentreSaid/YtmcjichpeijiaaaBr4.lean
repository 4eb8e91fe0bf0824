/- The centre of a body, both sides. -/
import Derived.Test.YtmcjichpeijiaaaBr2
import Derived.Test.YtmcjichpeijiaaaImpl4
import Derived.Test.YtmcjichpeijiaaaFrac
import Derived.BigRegion
import Derived.RegionTactic
namespace Go.Proofs.Ytmcjichpeijiaaa
open Go.RowKit Go.Maps
theorem cut_scale8 (a b k : Int) (hk : 0 < k) (hb : 0 < b) : cutA (a * k) (b * k) = cutA a b ∧ cutB (a * k) (b * k) = cutB a b := by
  have hg := gc_pos a b hb
  have e : gcF (a * k) (b * k) = gcF a b * k := by
    unfold gcF
    rw [Int.natAbs_mul, Int.natAbs_mul, Nat.gcd_mul_right, Int.natCast_mul, Int.natAbs_of_nonneg (by omega)]
  have hm := cut_mul a b
  have h1 : cutA (a * k) (b * k) = cutA a b := by
    have : a * k = cutA a b * (gcF a b * k) := by rw [← Int.mul_assoc, hm.1]
    unfold cutA at *
    rw [e]
    conv => lhs; rw [this]
    exact Int.mul_tdiv_cancel _ (by have := Int.mul_pos hg hk; omega)
  have h2 : cutB (a * k) (b * k) = cutB a b := by
    have : b * k = cutB a b * (gcF a b * k) := by rw [← Int.mul_assoc, hm.2]
    unfold cutB at *
    rw [e]
    conv => lhs; rw [this]
    exact Int.mul_tdiv_cancel _ (by have := Int.mul_pos hg hk; omega)
  exact ⟨h1, h2⟩
theorem cut_half (m n : Int) (hn : 0 < n) : cutA (cutA m n) (2 * cutB m n) = cutA m (2 * n) ∧ cutB (cutA m n) (2 * cutB m n) = cutB m (2 * n) := by
  have hg := gc_pos m n hn
  have hm := cut_mul m n
  have hp := cut_pos m n hn
  have s := cut_scale8 (cutA m n) (2 * cutB m n) (gcF m n) hg (by omega)
  rw [Int.mul_assoc, hm.1, hm.2] at s
  exact ⟨s.1.symm, s.2.symm⟩
/-- The numbers of the centre along an axis. -/
def cenF (f : Int × Int → Int) (xs : List (Int × Int)) : Int × Int := (cutA (midF f xs) (2 * (xs.length : Int)), cutB (midF f xs) (2 * (xs.length : Int)))
def bodP (b : Bool) (o : Int × Int) : Int × Int := if b = true then o else (0, 0)
/-- Two pairs of numbers in one block. -/
def Cel4 (w : World) (b : Nat) (o p : Int × Int) : Prop := b < w.heap.size ∧ (w.cell? ⟨b, 0, none⟩ = some (.int .i64 o.1) ∧ w.cell? ⟨b, 1, none⟩ = some (.int .i64 o.2) ∧ w.cell? ⟨b, 2, none⟩ = some (.int .i64 p.1) ∧ w.cell? ⟨b, 3, none⟩ = some (.int .i64 p.2)) ∧ ∀ i, w.frozen? ⟨b, i, none⟩ = false
theorem Cel4.lo {w w' : World} {b : Nat} {o p : Int × Int} (h : Cel4 w b o p) (l : Below w.heap.size w w') : Cel4 w' b o p := by
  obtain ⟨h0, ⟨h1, h2, h3, h4⟩, h5⟩ := h
  exact ⟨Nat.lt_of_lt_of_le h0 l.size, ⟨by rw [l.cell (p := ⟨b, 0, none⟩) h0]; exact h1, by rw [l.cell (p := ⟨b, 1, none⟩) h0]; exact h2, by rw [l.cell (p := ⟨b, 2, none⟩) h0]; exact h3, by rw [l.cell (p := ⟨b, 3, none⟩) h0]; exact h4⟩, fun i => by rw [l.frozen (p := ⟨b, i, none⟩) h0]; exact h5 i⟩
theorem cel4_new (w : World) (t : TypeId) : Cel4 (w.alloc (.cells #[.int .i64 0, .int .i64 0, .int .i64 0, .int .i64 0] t)) w.heap.size (0, 0) (0, 0) :=
  ⟨by simp, ⟨by rw [World.cell?_alloc_at _ _ _ _ rfl]; rfl, by rw [World.cell?_alloc_at _ _ _ _ rfl]; rfl, by rw [World.cell?_alloc_at _ _ _ _ rfl]; rfl, by rw [World.cell?_alloc_at _ _ _ _ rfl]; rfl⟩, fun i => World.frozen?_alloc_at _ _ _ _ rfl⟩
theorem Cel4.putx {w : World} {b : Nat} {o p : Int × Int} (h : Cel4 w b o p) (x y : Int) : Cel4 ((w.setCell ⟨b, 0, none⟩ (.int .i64 x)).setCell ⟨b, 1, none⟩ (.int .i64 y)) b (x, y) p := by
  obtain ⟨h0, ⟨h1, h2, h3, h4⟩, h5⟩ := h
  obtain ⟨q0, q1, q2⟩ := two_set w b 0 (.int .i64 x) (.int .i64 y) h1 h2
  rw [Nat.zero_add] at q0 q1
  exact ⟨by simpa using h0, ⟨q0, q1, by rw [q2 2 (by omega) (by omega)]; exact h3, by rw [q2 3 (by omega) (by omega)]; exact h4⟩, fun i => by rw [World.frozen?_setCell, World.frozen?_setCell]; exact h5 i⟩
theorem Cel4.puty {w : World} {b : Nat} {o p : Int × Int} (h : Cel4 w b o p) (x y : Int) : Cel4 ((w.setCell ⟨b, 2, none⟩ (.int .i64 x)).setCell ⟨b, 3, none⟩ (.int .i64 y)) b o (x, y) := by
  obtain ⟨h0, ⟨h1, h2, h3, h4⟩, h5⟩ := h
  obtain ⟨q0, q1, q2⟩ := two_set w b 2 (.int .i64 x) (.int .i64 y) h3 h4
  exact ⟨by simpa using h0, ⟨by rw [q2 0 (by omega) (by omega)]; exact h1, by rw [q2 1 (by omega) (by omega)]; exact h2, q0, q1⟩, fun i => by rw [World.frozen?_setCell, World.frozen?_setCell]; exact h5 i⟩
theorem Cel2.far2 {w : World} {b : Nat} {o : Int × Int} (h : Cel2 w b o) {c : Nat} (hc : b ≠ c) (i j : Nat) (u v : Value) : Cel2 ((w.setCell ⟨c, i, none⟩ u).setCell ⟨c, j, none⟩ v) b o := by
  obtain ⟨h0, h1, h2, h3, h4⟩ := h
  have ne : ∀ i j, (⟨c, i, none⟩ : Addr) ≠ ⟨b, j, none⟩ := fun i j hh => hc (congrArg Addr.block hh).symm
  refine ⟨by simpa using h0, ?_, ?_, by rw [World.frozen?_setCell, World.frozen?_setCell]; exact h3, by rw [World.frozen?_setCell, World.frozen?_setCell]; exact h4⟩
  · rw [World.cell?_setCell_other _ _ _ _ (ne j 0), World.cell?_setCell_other _ _ _ _ (ne i 0)]; exact h1
  · rw [World.cell?_setCell_other _ _ _ _ (ne j 1), World.cell?_setCell_other _ _ _ _ (ne i 1)]; exact h2
theorem Cel4.far2 {w : World} {b : Nat} {o p : Int × Int} (h : Cel4 w b o p) {c : Nat} (hc : b ≠ c) (u v : Value) : Cel4 ((w.setCell ⟨c, 0, none⟩ u).setCell ⟨c, 1, none⟩ v) b o p := by
  obtain ⟨h0, ⟨h1, h2, h3, h4⟩, h5⟩ := h
  have ne : ∀ i j, (⟨c, i, none⟩ : Addr) ≠ ⟨b, j, none⟩ := fun i j hh => hc (congrArg Addr.block hh).symm
  have far : ∀ j, ((w.setCell ⟨c, 0, none⟩ u).setCell ⟨c, 1, none⟩ v).cell? ⟨b, j, none⟩ = w.cell? ⟨b, j, none⟩ := fun j => by
    rw [World.cell?_setCell_other _ _ _ _ (ne 1 j), World.cell?_setCell_other _ _ _ _ (ne 0 j)]
  exact ⟨by simpa using h0, ⟨by rw [far]; exact h1, by rw [far]; exact h2, by rw [far]; exact h3, by rw [far]; exact h4⟩, fun i => by rw [World.frozen?_setCell, World.frozen?_setCell]; exact h5 i⟩
/-- The bounds of what a centre is counted from. -/
theorem cen_bounds {xs : List (Int × Int)} (f : Int × Int → Int) (h : BodF xs) (hf : ∀ c ∈ xs, 0 ≤ f c ∧ f c ≤ 11) : (-100000 ≤ midF f xs ∧ midF f xs ≤ 100000) ∧ (-100000 ≤ cutA (midF f xs) xs.length ∧ cutA (midF f xs) xs.length ≤ 100000) ∧ 1 ≤ cutB (midF f xs) xs.length ∧ cutB (midF f xs) xs.length ≤ 12 := by
  have h1 := h.one
  have h2 := h.short
  have b := midF_bound f 11 xs (fun c hc => by have := hf c hc; omega)
  have t1 : (cutA (midF f xs) xs.length).natAbs ≤ (midF f xs).natAbs := by
    unfold cutA; rw [Int.natAbs_tdiv]; exact Nat.div_le_self _ _
  have t2 : (cutB (midF f xs) xs.length).natAbs ≤ xs.length := by
    unfold cutB; rw [Int.natAbs_tdiv, Int.natAbs_natCast]; exact Nat.div_le_self _ _
  have p := cut_pos (midF f xs) xs.length (by omega)
  omega
theorem mids_ne (f : Int × Int → Int) {xs : List (Int × Int)} (h : 1 ≤ xs.length) : midsL f xs ≠ [] := by
  unfold midsL
  intro e
  have := congrArg List.length e
  rw [List.length_map, List.length_nil] at this
  omega
theorem BodF.ax {xs : List (Int × Int)} (h : BodF xs) : (∀ c ∈ xs, 0 ≤ Prod.fst c ∧ Prod.fst c ≤ 11) ∧ (∀ c ∈ xs, 0 ≤ Prod.snd c ∧ Prod.snd c ≤ 11) :=
  ⟨fun c hc => by have := h.hi c hc; omega, fun c hc => by have := h.hi c hc; omega⟩
set_option maxRecDepth 100000 in
set_option maxHeartbeats 3200000 in
theorem specBodyCentre_any (v : Value) (xs : List (Int × Int)) (w : World) (hr : LoadRow w v xs) :
    Calls Try.prog 28 #[v] w fun e w' => e = .returned (.tuple #[.agg #[.int .i64 (bodP (bodB xs) (cenF Prod.fst xs)).1, .int .i64 (bodP (bodB xs) (cenF Prod.fst xs)).2], .agg #[.int .i64 (bodP (bodB xs) (cenF Prod.snd xs)).1, .int .i64 (bodP (bodB xs) (cenF Prod.snd xs)).2], .bool (bodB xs)]) ∧ Below w.heap.size w w' := by
  obtain ⟨W, hW⟩ : ∃ W, (w.alloc (.cells #[.int .i64 0, .int .i64 0] 29)).alloc (.cells #[.int .i64 0, .int .i64 0] 29) = W := ⟨_, rfl⟩
  have LW := Lib.hid (show Below w.heap.size w W by rw [← hW]; exact alloc_two _ _ _)
  have K1 := Lib.hid (show Cel2 W w.heap.size (0, 0) by rw [← hW]; exact (cel2_new w 0 0 _).lo (below_new _ _))
  have K2 := Lib.hid (show Cel2 W (w.heap.size + 1) (0, 0) by rw [← hW]; have := cel2_new (w.alloc (.cells #[.int .i64 0, .int .i64 0] 29)) 0 0 29; simpa using this)
  have C := Lib.hid (l8Body_any v xs W (hr.lo LW.out))
  have MX := Lib.hid (fun (w1 : World) (l : Below w.heap.size w w1) (hb : bodB xs = true) => l8Middle_x v xs w1 (hr.lo l) ((bodB_iff xs).1 hb).sm (by have := ((bodB_iff xs).1 hb).short; omega))
  have MY := Lib.hid (fun (w1 : World) (l : Below w.heap.size w w1) (hb : bodB xs = true) => l8Middle_y v xs w1 (hr.lo l) ((bodB_iff xs).1 hb).sm (by have := ((bodB_iff xs).1 hb).short; omega))
  have CX := Lib.hid (fun (w1 : World) (hb : bodB xs = true) => show Calls Try.prog 89 #[.int .i64 (midF Prod.fst xs), .int .i64 (2 * (xs.length : Int))] w1 fun e w' => e = .returned (.agg #[.int .i64 (cenF Prod.fst xs).1, .int .i64 (cenF Prod.fst xs).2]) ∧ Below w1.heap.size w1 w' by
    have h := (bodB_iff xs).1 hb
    have b := cen_bounds Prod.fst h h.ax.1
    have h1 := h.one
    have h2 := h.short
    exact l2Cut_any _ _ w1 (by omega) (by omega) (by omega) (by omega))
  have CY := Lib.hid (fun (w1 : World) (hb : bodB xs = true) => show Calls Try.prog 89 #[.int .i64 (midF Prod.snd xs), .int .i64 (2 * (xs.length : Int))] w1 fun e w' => e = .returned (.agg #[.int .i64 (cenF Prod.snd xs).1, .int .i64 (cenF Prod.snd xs).2]) ∧ Below w1.heap.size w1 w' by
    have h := (bodB_iff xs).1 hb
    have b := cen_bounds Prod.snd h h.ax.2
    have h1 := h.one
    have h2 := h.short
    exact l2Cut_any _ _ w1 (by omega) (by omega) (by omega) (by omega))
  have BL := Lib.hid (fun hb : bodB xs = true => ((bodB_iff xs).1 hb).short)
  unfold bodP
  generalize bodB xs = b at *
  generalize cenF Prod.fst xs = o at *
  generalize cenF Prod.snd xs = p at *
  generalize midF Prod.fst xs = mx at *
  generalize midF Prod.snd xs = my at *
  obtain ⟨o1, o2⟩ := o
  obtain ⟨p1, p2⟩ := p
  obtain ⟨a, c, rfl, _⟩ := hr
  cases b with
  | false =>
    go_enter Try.func28, Try.ntmps28
    go_wp2_with fail
    clear hW
    refine C.out.mono ?_
    rintro e w1 ⟨rfl, l1⟩
    have R1 := K1.out.lo l1
    have R2 := K2.out.lo l1
    have P1 := Lib.hid (((R1.put 0 0).far (c := w.heap.size + 1) (by omega) (.int .i64 0) (.int .i64 0)))
    have P2 := Lib.hid (((R2.far (c := w.heap.size) (by omega) (.int .i64 0) (.int .i64 0)).put 0 0))
    have LL := Lib.hid (two_below (g := w.heap.size) (lo_on LW.out l1) (.int .i64 0) (.int .i64 0))
    obtain ⟨_, a1, a2, a3, a4⟩ := R1
    obtain ⟨_, b1, b2, b3, b4⟩ := R2.far (c := w.heap.size) (by omega) (.int .i64 0) (.int .i64 0)
    clear l1
    go_wp2
    obtain ⟨_, q1, q2, _, _⟩ := P1.out
    obtain ⟨_, q3, q4, _, _⟩ := P2.out
    exact bodyPost_ret (v := .tuple #[.agg #[.int .i64 0, .int .i64 0], .agg #[.int .i64 0, .int .i64 0], .bool false]) (by simp [results, Try.results28, go_sem, q1, q2, q3, q4]) rfl ⟨rfl, (LL.out.setCell (p := ⟨w.heap.size + 1, 0, none⟩) (by simp) _).setCell (p := ⟨w.heap.size + 1, 1, none⟩) (by simp) _⟩
  | true =>
    have MX2 := Lib.hid (fun w1 l => MX.out w1 l rfl)
    have MY2 := Lib.hid (fun w1 l => MY.out w1 l rfl)
    have CX2 := Lib.hid (fun w1 => CX.out w1 rfl)
    have CY2 := Lib.hid (fun w1 => CY.out w1 rfl)
    have hlen := BL.out rfl
    clear MX MY CX CY BL
    go_enter Try.func28, Try.ntmps28
    go_wp2_with fail
    clear hW
    refine C.out.mono ?_
    rintro e w1 ⟨rfl, l1⟩
    have L1 := Lib.hid (lo_on LW.out l1)
    have R1 := Lib.hid (K1.out.lo l1)
    have R2 := Lib.hid (K2.out.lo l1)
    have M1 := Lib.hid (MX2.out w1 L1.out)
    clear l1
    go_wp2_with fail
    refine M1.out.mono ?_
    rintro e w' ⟨rfl, rfl⟩
    go_wp2_with fail
    refine (CX2.out _).mono ?_
    rintro e w2 ⟨rfl, l2⟩
    have L2 := Lib.hid (lo_on L1.out l2)
    have S1 := Lib.hid (R1.out.lo l2)
    have S2 := Lib.hid (R2.out.lo l2)
    have M2 := Lib.hid (MY2.out w2 L2.out)
    clear l2
    go_wp2_with fail
    refine M2.out.mono ?_
    rintro e w' ⟨rfl, rfl⟩
    go_wp2_with fail
    refine (CY2.out _).mono ?_
    rintro e w3 ⟨rfl, l3⟩
    have T1 := S1.out.lo l3
    have T2 := S2.out.lo l3
    have P1 := Lib.hid (((T1.put o1 o2).far (c := w.heap.size + 1) (by omega) (.int .i64 p1) (.int .i64 p2)))
    have P2 := Lib.hid (((T2.far (c := w.heap.size) (by omega) (.int .i64 o1) (.int .i64 o2)).put p1 p2))
    have LL := Lib.hid (two_below (g := w.heap.size) (lo_on L2.out l3) (.int .i64 o1) (.int .i64 o2))
    obtain ⟨_, a1, a2, a3, a4⟩ := T1
    obtain ⟨_, b1, b2, b3, b4⟩ := T2.far (c := w.heap.size) (by omega) (.int .i64 o1) (.int .i64 o2)
    clear l3
    go_wp2
    obtain ⟨_, q1, q2, _, _⟩ := P1.out
    obtain ⟨_, q3, q4, _, _⟩ := P2.out
    exact bodyPost_ret (v := .tuple #[.agg #[.int .i64 o1, .int .i64 o2], .agg #[.int .i64 p1, .int .i64 p2], .bool true]) (by simp [results, Try.results28, go_sem, q1, q2, q3, q4]) rfl ⟨rfl, (LL.out.setCell (p := ⟨w.heap.size + 1, 0, none⟩) (by simp) _).setCell (p := ⟨w.heap.size + 1, 1, none⟩) (by simp) _⟩
set_option maxRecDepth 100000 in
set_option maxHeartbeats 6400000 in
theorem bodyCentre_any (v : Value) (xs : List (Int × Int)) (w : World) (hr : LoadRow w v xs) (hw : WfL xs) (hn : xs.length ≤ 2000000) :
    Calls Try.prog 29 #[v] w fun e w' => e = .returned (.tuple #[.agg #[.int .i64 (bodP (bodB xs) (cenF Prod.fst xs)).1, .int .i64 (bodP (bodB xs) (cenF Prod.fst xs)).2], .agg #[.int .i64 (bodP (bodB xs) (cenF Prod.snd xs)).1, .int .i64 (bodP (bodB xs) (cenF Prod.snd xs)).2], .bool (bodB xs)]) ∧ Below w.heap.size w w' := by
  obtain ⟨W, hW⟩ : ∃ W, (w.alloc (.cells #[.int .i64 0, .int .i64 0] 29)).alloc (.cells #[.int .i64 0, .int .i64 0] 29) = W := ⟨_, rfl⟩
  have LW := Lib.hid (show Below w.heap.size w W by rw [← hW]; exact alloc_two _ _ _)
  have K1 := Lib.hid (show Cel2 W w.heap.size (0, 0) by rw [← hW]; exact (cel2_new w 0 0 _).lo (below_new _ _))
  have K2 := Lib.hid (show Cel2 W (w.heap.size + 1) (0, 0) by rw [← hW]; have := cel2_new (w.alloc (.cells #[.int .i64 0, .int .i64 0] 29)) 0 0 29; simpa using this)
  have C := Lib.hid (isBody_any v xs W (hr.lo LW.out) hw hn)
  have Mx := Lib.hid (fun (w1 : World) (l : Below w.heap.size w w1) (hb : bodB xs = true) => middlesOf_x v xs w1 (hr.lo l) ((bodB_iff xs).1 hb).sm (by have := ((bodB_iff xs).1 hb).short; omega))
  have Cx := Lib.hid (fun (u : Value) (w1 : World) (hu : LoadRow w1 u (midsL Prod.fst xs)) (hb : bodB xs = true) => show Calls Try.prog 91 #[u] w1 fun e w' => e = .returned (.tuple #[.agg #[.int .i64 (cutA (midF Prod.fst xs) xs.length), .int .i64 (cutB (midF Prod.fst xs) xs.length)], .bool true]) ∧ Below w1.heap.size w1 w' by
    have h := (bodB_iff xs).1 hb
    have t := centreOf_yes u _ w1 hu (mids_row Prod.fst h.short h.ax.1) (mids_ne Prod.fst h.one)
    rw [mids_mom, mids_wt] at t
    exact t)
  have Qx := Lib.hid (fun (w1 : World) (hb : bodB xs = true) => show Calls Try.prog 93 #[.int .i64 (cutA (midF Prod.fst xs) xs.length), .int .i64 (2 * cutB (midF Prod.fst xs) xs.length)] w1 fun e w' => e = .returned (.agg #[.int .i64 (cenF Prod.fst xs).1, .int .i64 (cenF Prod.fst xs).2]) ∧ Below w1.heap.size w1 w' by
    have h := (bodB_iff xs).1 hb
    have b := cen_bounds Prod.fst h h.ax.1
    have h1 := h.one
    have t := lowest_any (cutA (midF Prod.fst xs) xs.length) (2 * cutB (midF Prod.fst xs) xs.length) w1 (by omega) (by omega) (by omega) (by omega)
    rw [(cut_half _ _ (by omega)).1, (cut_half _ _ (by omega)).2] at t
    exact t)
  have Bx := Lib.hid (fun hb : bodB xs = true => (cen_bounds Prod.fst ((bodB_iff xs).1 hb) ((bodB_iff xs).1 hb).ax.1).2)
  have My := Lib.hid (fun (w1 : World) (l : Below w.heap.size w w1) (hb : bodB xs = true) => middlesOf_y v xs w1 (hr.lo l) ((bodB_iff xs).1 hb).sm (by have := ((bodB_iff xs).1 hb).short; omega))
  have Cy := Lib.hid (fun (u : Value) (w1 : World) (hu : LoadRow w1 u (midsL Prod.snd xs)) (hb : bodB xs = true) => show Calls Try.prog 91 #[u] w1 fun e w' => e = .returned (.tuple #[.agg #[.int .i64 (cutA (midF Prod.snd xs) xs.length), .int .i64 (cutB (midF Prod.snd xs) xs.length)], .bool true]) ∧ Below w1.heap.size w1 w' by
    have h := (bodB_iff xs).1 hb
    have t := centreOf_yes u _ w1 hu (mids_row Prod.snd h.short h.ax.2) (mids_ne Prod.snd h.one)
    rw [mids_mom, mids_wt] at t
    exact t)
  have Qy := Lib.hid (fun (w1 : World) (hb : bodB xs = true) => show Calls Try.prog 93 #[.int .i64 (cutA (midF Prod.snd xs) xs.length), .int .i64 (2 * cutB (midF Prod.snd xs) xs.length)] w1 fun e w' => e = .returned (.agg #[.int .i64 (cenF Prod.snd xs).1, .int .i64 (cenF Prod.snd xs).2]) ∧ Below w1.heap.size w1 w' by
    have h := (bodB_iff xs).1 hb
    have b := cen_bounds Prod.snd h h.ax.2
    have h1 := h.one
    have t := lowest_any (cutA (midF Prod.snd xs) xs.length) (2 * cutB (midF Prod.snd xs) xs.length) w1 (by omega) (by omega) (by omega) (by omega)
    rw [(cut_half _ _ (by omega)).1, (cut_half _ _ (by omega)).2] at t
    exact t)
  have By := Lib.hid (fun hb : bodB xs = true => (cen_bounds Prod.snd ((bodB_iff xs).1 hb) ((bodB_iff xs).1 hb).ax.2).2)
  have hzW : W.heap.size = w.heap.size + 2 := by rw [← hW]; simp
  unfold bodP
  generalize bodB xs = b at *
  generalize cenF Prod.fst xs = o at *
  generalize cenF Prod.snd xs = p at *
  generalize cutA (midF Prod.fst xs) xs.length = ax at *
  generalize cutB (midF Prod.fst xs) xs.length = bx at *
  generalize cutA (midF Prod.snd xs) xs.length = ay at *
  generalize cutB (midF Prod.snd xs) xs.length = bY at *
  obtain ⟨o1, o2⟩ := o
  obtain ⟨p1, p2⟩ := p
  obtain ⟨a, c, rfl, _⟩ := hr
  cases b with
  | false =>
    go_enter Try.func29, Try.ntmps29
    go_wp2_with fail
    clear hW
    refine C.out.mono ?_
    rintro e w1 ⟨rfl, l1⟩
    have R1 := K1.out.lo l1
    have R2 := K2.out.lo l1
    have P1 := Lib.hid (((R1.put 0 0).far (c := w.heap.size + 1) (by omega) (.int .i64 0) (.int .i64 0)))
    have P2 := Lib.hid (((R2.far (c := w.heap.size) (by omega) (.int .i64 0) (.int .i64 0)).put 0 0))
    have LL := Lib.hid (two_below (g := w.heap.size) (lo_on LW.out l1) (.int .i64 0) (.int .i64 0))
    obtain ⟨_, a1, a2, a3, a4⟩ := R1
    obtain ⟨_, b1, b2, b3, b4⟩ := R2.far (c := w.heap.size) (by omega) (.int .i64 0) (.int .i64 0)
    clear l1
    go_wp2
    obtain ⟨_, q1, q2, _, _⟩ := P1.out
    obtain ⟨_, q3, q4, _, _⟩ := P2.out
    exact bodyPost_ret (v := .tuple #[.agg #[.int .i64 0, .int .i64 0], .agg #[.int .i64 0, .int .i64 0], .bool false]) (by simp [results, Try.results29, go_sem, q1, q2, q3, q4]) rfl ⟨rfl, (LL.out.setCell (p := ⟨w.heap.size + 1, 0, none⟩) (by simp) _).setCell (p := ⟨w.heap.size + 1, 1, none⟩) (by simp) _⟩
  | true =>
    have Mx2 := Lib.hid (fun w1 l => Mx.out w1 l rfl)
    have My2 := Lib.hid (fun w1 l => My.out w1 l rfl)
    have Cx2 := Lib.hid (fun u w1 hu => Cx.out u w1 hu rfl)
    have Cy2 := Lib.hid (fun u w1 hu => Cy.out u w1 hu rfl)
    have Qx2 := Lib.hid (fun w1 => Qx.out w1 rfl)
    have Qy2 := Lib.hid (fun w1 => Qy.out w1 rfl)
    obtain ⟨⟨bx1, bx2⟩, bx3, bx4⟩ := Bx.out rfl
    obtain ⟨⟨by1, by2⟩, by3, by4⟩ := By.out rfl
    clear Mx My Cx Cy Qx Qy Bx By
    go_enter Try.func29, Try.ntmps29
    go_wp2_with fail
    clear hW
    refine C.out.mono ?_
    rintro e w1 ⟨rfl, l1⟩
    have L1 := Lib.hid (lo_on LW.out l1)
    have R1 := Lib.hid (K1.out.lo l1)
    have R2 := Lib.hid (K2.out.lo l1)
    have hz1 : w.heap.size + 2 ≤ w1.heap.size := by have := l1.size; omega
    clear l1
    go_wp2
    have A4 := Lib.hid (cel4_new w1 80)
    have A1 := Lib.hid (R1.out.lo (below_new w1 (.cells #[.int .i64 0, .int .i64 0, .int .i64 0, .int .i64 0] 80)))
    have A2 := Lib.hid (R2.out.lo (below_new w1 (.cells #[.int .i64 0, .int .i64 0, .int .i64 0, .int .i64 0] 80)))
    have AB := Lib.hid (L1.out.alloc L1.out.size (.cells #[.int .i64 0, .int .i64 0, .int .i64 0, .int .i64 0] 80))
    go_loopw [14] (fun i wr => Hid (Cel2 wr w.heap.size (0, 0)) ∧ Hid (Cel2 wr (w.heap.size + 1) (0, 0)) ∧ Hid (Below w.heap.size w wr) ∧ ((i = .int .i64 0 ∧ Hid (Cel4 wr w1.heap.size (0, 0) (0, 0))) ∨ (i = .int .i64 1 ∧ Hid (Cel4 wr w1.heap.size (o1, o2) (0, 0))) ∨ (i = .int .i64 2 ∧ Hid (Cel4 wr w1.heap.size (o1, o2) (p1, p2))))) (fun i _ => 2 - (intOf i).toNat)
    case atStart => exact ⟨A1, A2, AB, .inl ⟨rfl, A4⟩⟩
    case round =>
      obtain ⟨H1, H2, HB, HK⟩ := hrel
      rcases HK with HK | HK | HK
      · obtain ⟨rfl, H4⟩ := HK
        have M1 := Lib.hid (Mx2.out wr HB.out)
        go_wp2_with fail
        refine M1.out.mono ?_
        rintro e wa ⟨u, rfl, hu, l1⟩
        have L1 := Lib.hid (lo_on HB.out l1)
        have C1 := Lib.hid (Cx2.out u wa hu)
        have S1 := Lib.hid (H1.out.lo l1)
        have S2 := Lib.hid (H2.out.lo l1)
        have S4 := Lib.hid (H4.out.lo l1)
        clear hu l1 H1 H2 H4 HB M1
        go_wp2_with fail
        refine C1.out.mono ?_
        rintro e wb ⟨rfl, l2⟩
        have L2 := Lib.hid (lo_on L1.out l2)
        have T1 := Lib.hid (S1.out.lo l2)
        have T2 := Lib.hid (S2.out.lo l2)
        have T4 := Lib.hid (S4.out.lo l2)
        clear l2 S1 S2 S4 L1 C1
        obtain ⟨wc, hwc⟩ : ∃ wc, wb.alloc (.cells #[.int .i64 ax, .int .i64 bx] 29) = wc := ⟨_, rfl⟩
        have l3 : Below wb.heap.size wb wc := by rw [← hwc]; exact below_new _ _
        obtain ⟨_, c1, c2, _, _⟩ := (show Cel2 wc wb.heap.size (ax, bx) by rw [← hwc]; exact cel2_new _ _ _ _)
        simp only at c1 c2
        have L3 := Lib.hid (lo_on L2.out l3)
        have U1 := Lib.hid (T1.out.lo l3)
        have U2 := Lib.hid (T2.out.lo l3)
        have U4 := Lib.hid (T4.out.lo l3)
        clear l3 T1 T2 T4 L2
        go_wp2_with fail
        clear hwc
        refine (Qx2.out _).mono ?_
        rintro e wd ⟨rfl, l4⟩
        have hz4 := l4.size
        have V1 := (U1.out.lo l4)
        have V2 := (U2.out.lo l4)
        have V4 := (U4.out.lo l4)
        have N1 := Lib.hid (V1.far2 (c := w1.heap.size) (by omega) 0 1 (.int .i64 o1) (.int .i64 o2))
        have N2 := Lib.hid (V2.far2 (c := w1.heap.size) (by omega) 0 1 (.int .i64 o1) (.int .i64 o2))
        have N4 := Lib.hid (V4.putx o1 o2)
        have NB := Lib.hid (((lo_on L3.out l4).setCell (p := ⟨w1.heap.size, 0, none⟩) (by simp only; omega) (.int .i64 o1)).setCell (p := ⟨w1.heap.size, 1, none⟩) (by simp only; omega) (.int .i64 o2))
        obtain ⟨_, ⟨d0, d1, d2, d3⟩, df⟩ := V4
        have f0 := df 0
        have f1 := df 1
        clear V1 V2 U1 U2 U4 L3 l4 df c1 c2
        go_wp2
        go_roundw
        case rel => exact ⟨N1, N2, NB, .inr (.inl ⟨by first | rfl | go_num | simp, N4⟩)⟩
        case measure => simp [intOf]
      · obtain ⟨rfl, H4⟩ := HK
        have M1 := Lib.hid (My2.out wr HB.out)
        go_wp2_with fail
        refine M1.out.mono ?_
        rintro e wa ⟨u, rfl, hu, l1⟩
        have L1 := Lib.hid (lo_on HB.out l1)
        have C1 := Lib.hid (Cy2.out u wa hu)
        have S1 := Lib.hid (H1.out.lo l1)
        have S2 := Lib.hid (H2.out.lo l1)
        have S4 := Lib.hid (H4.out.lo l1)
        clear hu l1 H1 H2 H4 HB M1
        go_wp2_with fail
        refine C1.out.mono ?_
        rintro e wb ⟨rfl, l2⟩
        have L2 := Lib.hid (lo_on L1.out l2)
        have T1 := Lib.hid (S1.out.lo l2)
        have T2 := Lib.hid (S2.out.lo l2)
        have T4 := Lib.hid (S4.out.lo l2)
        clear l2 S1 S2 S4 L1 C1
        obtain ⟨wc, hwc⟩ : ∃ wc, wb.alloc (.cells #[.int .i64 ay, .int .i64 bY] 29) = wc := ⟨_, rfl⟩
        have l3 : Below wb.heap.size wb wc := by rw [← hwc]; exact below_new _ _
        obtain ⟨_, c1, c2, _, _⟩ := (show Cel2 wc wb.heap.size (ay, bY) by rw [← hwc]; exact cel2_new _ _ _ _)
        simp only at c1 c2
        have L3 := Lib.hid (lo_on L2.out l3)
        have U1 := Lib.hid (T1.out.lo l3)
        have U2 := Lib.hid (T2.out.lo l3)
        have U4 := Lib.hid (T4.out.lo l3)
        clear l3 T1 T2 T4 L2
        go_wp2_with fail
        clear hwc
        refine (Qy2.out _).mono ?_
        rintro e wd ⟨rfl, l4⟩
        have hz4 := l4.size
        have V1 := (U1.out.lo l4)
        have V2 := (U2.out.lo l4)
        have V4 := (U4.out.lo l4)
        have N1 := Lib.hid (V1.far2 (c := w1.heap.size) (by omega) 2 3 (.int .i64 p1) (.int .i64 p2))
        have N2 := Lib.hid (V2.far2 (c := w1.heap.size) (by omega) 2 3 (.int .i64 p1) (.int .i64 p2))
        have N4 := Lib.hid (V4.puty p1 p2)
        have NB := Lib.hid (((lo_on L3.out l4).setCell (p := ⟨w1.heap.size, 2, none⟩) (by simp only; omega) (.int .i64 p1)).setCell (p := ⟨w1.heap.size, 3, none⟩) (by simp only; omega) (.int .i64 p2))
        obtain ⟨_, ⟨d0, d1, d2, d3⟩, df⟩ := V4
        have f0 := df 2
        have f1 := df 3
        clear V1 V2 U1 U2 U4 L3 l4 df c1 c2
        go_wp2
        go_roundw
        case rel => exact ⟨N1, N2, NB, .inr (.inr ⟨by first | rfl | go_num | simp, N4⟩)⟩
        case measure => simp [intOf]
      · obtain ⟨rfl, H4⟩ := HK
        have P1 := Lib.hid (((H1.out.put o1 o2).far (c := w.heap.size + 1) (by omega) (.int .i64 p1) (.int .i64 p2)))
        have P2 := Lib.hid (((H2.out.far (c := w.heap.size) (by omega) (.int .i64 o1) (.int .i64 o2)).put p1 p2))
        have LL := Lib.hid (two_below (g := w.heap.size) HB.out (.int .i64 o1) (.int .i64 o2))
        have h1 := H1.out
        have h2 := H2.out.far (c := w.heap.size) (by omega) (.int .i64 o1) (.int .i64 o2)
        have h4 := H4.out
        obtain ⟨_, a1, a2, a3, a4⟩ := h1
        obtain ⟨_, b1, b2, b3, b4⟩ := h2
        obtain ⟨_, ⟨d0, d1, d2, d3⟩, df⟩ := h4
        simp only at d0 d1 d2 d3 a1 a2 b1 b2
        clear df
        go_wp2_with fail
        have X4 := Cel4.far2 H4.out (c := w.heap.size) (by omega) (.int .i64 o1) (.int .i64 o2)
        obtain ⟨_, ⟨x0, x1, x2, x3⟩, _⟩ := X4
        simp only at x0 x1 x2 x3
        clear x0 x1 K1 K2 Mx2 My2 Cx2 Cy2 Qx2 Qy2 C LW hw hzW
        go_region
        go_wp2
        obtain ⟨_, q1, q2, _, _⟩ := P1.out
        obtain ⟨_, q3, q4, _, _⟩ := P2.out
        exact bodyPost_ret (v := .tuple #[.agg #[.int .i64 o1, .int .i64 o2], .agg #[.int .i64 p1, .int .i64 p2], .bool true]) (by simp [results, Try.results29, go_sem, q1, q2, q3, q4]) rfl ⟨rfl, ((LL.out.setCell (p := ⟨w.heap.size + 1, 0, none⟩) (by simp) _).setCell (p := ⟨w.heap.size + 1, 1, none⟩) (by simp) _).drew⟩
end Go.Proofs.Ytmcjichpeijiaaa
