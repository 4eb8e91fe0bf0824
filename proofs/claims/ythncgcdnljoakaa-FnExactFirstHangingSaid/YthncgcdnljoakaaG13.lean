/- Rod1, A2, Rod2, as one text. -/
import Derived.Test.YthncgcdnljoakaaG11
import Derived.Test.YthncgcdnljoakaaG12
import Derived.Test.YthncgcdnljoakaaG1
import Derived.StillTailTactics
import Derived.Test.YthncgcdnljoakaaG4
import Derived.BigQuiet
namespace Go.Proofs.Ythncgcdnljoakaa
open Go.RowKit
theorem infoRodp : (Try.prog.info? 144).map (fun i => (i.zero, i.size, i.bytes)) = some (some (.pointer none), 1, 8) := by kernel_rfl
theorem make_rods (n : Nat) (hn : n ≤ 2000000) (u : World) :
    (Instr.makeSlice 137 (.int .i64 (n : Int)) (.int .i64 (n : Int))).run Try.prog u = .ok (.slice (some ⟨u.heap.size, 0, none⟩) n n) (u.alloc (.cells (madeCells #[.pointer none] n) 144)) := by
  obtain ⟨i0, hi, hz0, hz1, hz2⟩ := info_parts infoRodp
  have h := run_make (P := Try.prog) u 137 144 i0 (.pointer none) Try.underlying137 hi hz0 .i64 .i64 (n : Int) (n : Int) (by omega) (Int.le_refl _) (by rw [hz2]; omega) (by omega)
  simpa [hz1, Value.cells] using h
theorem made_rod (m j : Nat) (h : j < m) : (madeCells #[.pointer none] m)[j]? = some (.pointer none) := by
  rw [← Array.getElem?_toList, toList_madeCells_one]; simp [h]
/-- The rods from k on have been made. -/
structure RodsTo (w : World) (B g k n : Nat) (b : Nat → Nat) (S : RodF) : Prop where
  rods : RodsIn w B k n b (fun i => (i : Int)) S
  row : ∀ j, j < n → w.cell? ⟨g, j, none⟩ = some (.pointer (if j < k then none else some ⟨b j, 0, none⟩))
  fz : ∀ j, w.frozen? ⟨g, j, none⟩ = false
  lt : g < w.heap.size
  apart : ∀ i, k ≤ i → i < n → b i ≠ g
theorem RodsTo.mono {w : World} {B B' g k n : Nat} {b : Nat → Nat} {S : RodF} (h : RodsTo w B g k n b S) (hB : B' ≤ B) : RodsTo w B' g k n b S :=
  ⟨⟨h.rods.rod, fun i h1 h2 => Nat.le_trans hB (h.rods.far i h1 h2), h.rods.apart⟩, h.row, h.fz, h.lt, h.apart⟩
/-- Rod i is under way: its first e ends are done. -/
structure RodsMid (w : World) (B g i e n : Nat) (b : Nat → Nat) (q : Nat) (S : RodF) : Prop where
  rods : RodsIn w B (i + 1) n b (fun i => (i : Int)) S
  row : ∀ j, j < n → w.cell? ⟨g, j, none⟩ = some (.pointer (if j < i then none else some ⟨if j = i then q else b j, 0, none⟩))
  fz : ∀ j, w.frozen? ⟨g, j, none⟩ = false
  lt : g < w.heap.size
  apart : ∀ j, i < j → j < n → b j ≠ g ∧ b j ≠ q
  own : q ≠ g ∧ B ≤ q
  rod : RodAt w (fun j => if j = i then q else b j) q (i : Int) (fun j => S.ar (2 * i + j)) (fun j => if j < e then S.le (2 * i + j) else 0) (fun j => if j < e then S.be (2 * i + j) else 0)
theorem RodsMid.leaf {w : World} {B g i e n q : Nat} {b : Nat → Nat} {S : RodF} (h : RodsMid w B g i e n b q S) (he : e < 2) (h0 : S.be (2 * i + e) = 0) : RodsMid (w.setCell ⟨q, 3 + e, none⟩ (.int .i64 (S.le (2 * i + e)))) B g i (e + 1) n b q S where
  rods := h.rods.set _ _ _ (fun j h1 h2 => (h.apart j (by omega) h2).2)
  row := fun j hj => by rw [World.cell?_setCell_other _ _ _ _ (fun hh => h.own.1 (congrArg Addr.block hh))]; exact h.row j hj
  fz := fun j => by rw [World.frozen?_setCell]; exact h.fz j
  lt := by simpa using h.lt
  apart := h.apart
  own := h.own
  rod := (h.rod.set_leaf e he _).congr (fun _ _ => rfl) (fun j hj => by
    by_cases e1 : j = e
    · subst e1; rw [if_pos rfl, if_pos (by omega)]
    · rw [if_neg e1]
      by_cases e2 : j < e
      · rw [if_pos e2, if_pos (by omega)]
      · rw [if_neg e2, if_neg (by omega)]) (fun j hj => by
    by_cases e1 : j = e
    · subst e1; rw [if_neg (by omega), if_pos (by omega), h0]
    · by_cases e2 : j < e
      · rw [if_pos e2, if_pos (by omega)]
      · rw [if_neg e2, if_neg (by omega)])
theorem RodsMid.below {w : World} {B g i e n q : Nat} {b : Nat → Nat} {S : RodF} (h : RodsMid w B g i e n b q S) (he : e < 2) (h0 : S.le (2 * i + e) = 0) (h1 : S.be (2 * i + e) ≠ 0) (h2 : S.be (2 * i + e) ≠ i) : RodsMid (w.setCell ⟨q, 5 + e, none⟩ (.pointer (some ⟨b (S.be (2 * i + e)), 0, none⟩))) B g i (e + 1) n b q S where
  rods := h.rods.set _ _ _ (fun j h1 h2 => (h.apart j (by omega) h2).2)
  row := fun j hj => by rw [World.cell?_setCell_other _ _ _ _ (fun hh => h.own.1 (congrArg Addr.block hh))]; exact h.row j hj
  fz := fun j => by rw [World.frozen?_setCell]; exact h.fz j
  lt := by simpa using h.lt
  apart := h.apart
  own := h.own
  rod := by
    have := h.rod.set_below e he (S.be (2 * i + e))
    rw [ptrR_some _ h1, if_neg h2] at this
    refine this.congr (fun _ _ => rfl) (fun j hj => ?_) (fun j hj => ?_)
    · by_cases e1 : j = e
      · subst e1; rw [if_neg (by omega), if_pos (by omega), h0]
      · by_cases e2 : j < e
        · rw [if_pos e2, if_pos (by omega)]
        · rw [if_neg e2, if_neg (by omega)]
    · by_cases e1 : j = e
      · subst e1; rw [if_pos rfl, if_pos (by omega)]
      · rw [if_neg e1]
        by_cases e2 : j < e
        · rw [if_pos e2, if_pos (by omega)]
        · rw [if_neg e2, if_neg (by omega)]
theorem RodsMid.lo {w w' : World} {B g i e n q : Nat} {b : Nat → Nat} {S : RodF} (h : RodsMid w B g i e n b q S) (l : Below w.heap.size w w') : RodsMid w' B g i e n b q S where
  rods := h.rods.lo l
  row := fun j hj => by rw [l.cell (p := ⟨g, j, none⟩) h.lt]; exact h.row j hj
  fz := fun j => by rw [l.frozen (p := ⟨g, j, none⟩) h.lt]; exact h.fz j
  lt := Nat.lt_of_lt_of_le h.lt l.size
  apart := h.apart
  own := h.own
  rod := h.rod.keep l.size (l.block _ h.rod.lt)
theorem RodsMid.done {w : World} {B g i n q : Nat} {b : Nat → Nat} {S : RodF} (h : RodsMid w B g i 2 n b q S) (hd : ∀ t, t < 2 * n → S.be t = 0 ∨ (t / 2 < S.be t ∧ S.be t < n)) : RodsTo w B g i n (fun j => if j = i then q else b j) S where
  rods := h.rods.more (fun j h1 _ => if_neg (by omega)) (fun j h1 h2 => by rw [if_pos rfl]; exact (h.apart j h1 h2).2) (by rw [if_pos rfl]; exact h.own.2)
    (fun j e h1 h2 he => by have := hd (2 * j + e) (by omega); omega) (by
      rw [if_pos rfl]
      exact h.rod.congr (fun _ _ => rfl) (fun e he => if_pos he) (fun e he => by rw [if_pos he]))
  row := h.row
  fz := h.fz
  lt := h.lt
  apart := fun j h1 h2 => by
    by_cases e : j = i
    · rw [if_pos e]; exact h.own.1
    · rw [if_neg e]; exact (h.apart j (by omega) h2).1
/-- A new rod is begun. -/
theorem RodsTo.begin {w : World} {B g i n : Nat} {b : Nat → Nat} {S : RodF} (h : RodsTo w B g (i + 1) n b S) (hi : i < n) (hB : B ≤ w.heap.size) (t : TypeId) :
    RodsMid ((w.setCell ⟨g, i, none⟩ (.pointer (some ⟨w.heap.size, 0, none⟩))).alloc (.cells #[.int .i64 (i : Int), .int .i64 (S.ar (2 * i)), .int .i64 (S.ar (2 * i + 1)), .int .i64 0, .int .i64 0, .pointer none, .pointer none] t)) B g i 0 n b w.heap.size S where
  rods := (h.rods.set _ _ _ (fun j h1 h2 => h.apart j h1 h2)).lo ((Below.refl _ _).alloc (Nat.le_refl _) _)
  row := fun j hj => by
    have hne : w.heap.size ≠ g := by have := h.lt; omega
    rw [((Below.refl _ _).alloc (Nat.le_refl _) _).cell (p := ⟨g, j, none⟩) (by simpa using h.lt)]
    by_cases e : j = i
    · subst e
      rw [cell_set _ _ _ _ (h.row j hj), if_neg (by omega), if_pos rfl]
    · rw [cell_keep _ _ _ _ _ e, h.row j hj]
      by_cases e2 : j < i
      · rw [if_pos (by omega), if_pos e2]
      · rw [if_neg (by omega), if_neg e2, if_neg e]
  fz := fun j => by rw [((Below.refl _ _).alloc (Nat.le_refl _) _).frozen (p := ⟨g, j, none⟩) (by simpa using h.lt), World.frozen?_setCell]; exact h.fz j
  lt := by have := h.lt; simp; omega
  apart := fun j h1 h2 => ⟨h.apart j (by omega) h2, by have := (h.rods.rod j (by omega) h2).lt; omega⟩
  own := ⟨by have := h.lt; omega, hB⟩
  rod := by
    have e1 : ∀ k, ((w.setCell ⟨g, i, none⟩ (.pointer (some ⟨w.heap.size, 0, none⟩))).alloc (.cells #[.int .i64 (i : Int), .int .i64 (S.ar (2 * i)), .int .i64 (S.ar (2 * i + 1)), .int .i64 0, .int .i64 0, .pointer none, .pointer none] t)).cell? ⟨w.heap.size, k, none⟩ = #[Value.int .i64 (i : Int), .int .i64 (S.ar (2 * i)), .int .i64 (S.ar (2 * i + 1)), .int .i64 0, .int .i64 0, .pointer none, .pointer none][k]? := fun k => World.cell?_alloc_at _ _ _ _ (by simp)
    refine ⟨(e1 0).trans rfl, fun e he => ?_, fun e he => ?_, fun e he => ?_, fun j => World.frozen?_alloc_at _ _ _ _ (by simp), by simp⟩
    · rcases (show e = 0 ∨ e = 1 by omega) with rfl | rfl
      · exact (e1 1).trans rfl
      · exact (e1 2).trans rfl
    · rw [if_neg (by omega)]
      rcases (show e = 0 ∨ e = 1 by omega) with rfl | rfl
      · exact (e1 3).trans rfl
      · exact (e1 4).trans rfl
    · rw [if_neg (by omega), ptrR_none _ rfl]
      rcases (show e = 0 ∨ e = 1 by omega) with rfl | rfl
      · exact (e1 5).trans rfl
      · exact (e1 6).trans rfl
set_option maxRecDepth 100000 in
set_option maxHeartbeats 6400000 in
theorem rodsOf_yes (v : Value) (m : MobV) (w : World) (hv : MobRow w v m) (hb : BndM m) (hf : MobF m) :
    Calls Try.prog 141 #[v] w fun e w' => ∃ g b, e = .returned (.tuple #[.slice (some ⟨g, 0, none⟩) m.am.length m.am.length, .bool true]) ∧ RodsTo w' w.heap.size g 0 m.am.length b (rodF m) ∧ w.heap.size ≤ g ∧ Below w.heap.size w w' := by
  have h1 := hf.one
  have h6 := hf.short
  have hs := hf.same
  have IM := Lib.hid (fun w1 (l : Below w.heap.size w w1) => isMobile_any v m w1 (hv.lo l) hf.small hb)
  rw [(goodB_iff m).2 hf] at IM
  obtain ⟨av, bv, rfl, ha, hh⟩ := hv
  obtain ⟨g, off, c, rfl, hg, hca⟩ := pair_at ha (by omega)
  obtain ⟨g', off', c', rfl, hg', hch⟩ := pair_at hh (by omega)
  obtain ⟨n, hn⟩ : ∃ n, m.am.length = n := ⟨_, rfl⟩
  have EC := Lib.hid (fun i e (h1 : i < n) (h2 : e < 2) => end_cells hn (hs.trans hn) hca hch i e h1 h2)
  have HEN := Lib.hid (fun t (ht : t < 2 * n) => show (1 ≤ hvM m t ∧ hvM m t ≤ 99) ∨ (hvM m t < 0 ∧ ((t / 2 : Nat) : Int) + 1 ≤ -hvM m t ∧ -hvM m t ≤ (n : Int) - 1) by have := (hf.ends t (by omega)).2; rw [hn] at this; exact this)
  obtain ⟨W, hW⟩ : ∃ W, w.alloc (.cells #[.slice (some ⟨g, off, none⟩) n c, .slice (some ⟨g', off', none⟩) n c'] 62) = W := ⟨_, rfl⟩
  have LW := Lib.hid (show Below w.heap.size w W by rw [← hW]; exact (Below.refl _ _).alloc (Nat.le_refl _) _)
  have BX := Lib.hid (show Box2 W w.heap.size (.slice (some ⟨g, off, none⟩) n c) (.slice (some ⟨g', off', none⟩) n c') by rw [← hW]; exact box2_new _ _ _ _)
  have IM1 := Lib.hid (IM.out W LW.out)
  rw [hs, hn] at IM1
  rw [hs, hn]
  rw [hn] at h1 h6
  have HM := make_rods n (by omega)
  clear ha hh hca hch hs hn hf hb IM
  obtain ⟨bx, u0, u1⟩ := BX.out
  go_enter Try.func141, Try.ntmps141
  go_wp2_with fail
  clear hW
  refine IM1.out.mono ?_
  rintro e w1 ⟨rfl, l1⟩
  clear IM1 u0 u1
  have L1 := Lib.hid (lo_on LW.out l1)
  have BX1 := Lib.hid (BX.out.lo l1)
  clear l1 BX LW
  obtain ⟨_, u0, u1⟩ := BX1.out
  have hwr : w.heap.size ≤ w1.heap.size := L1.out.size
  obtain ⟨W1, hW1⟩ : ∃ X, w1.alloc (.cells (madeCells #[.pointer none] n) 144) = X := ⟨_, rfl⟩
  have S0 := Lib.hid (show RodsTo W1 w1.heap.size w1.heap.size n n (fun _ => 0) (rodF m) from ⟨⟨fun i h1 h2 => by omega, fun i h1 h2 => by omega, fun i j h1 h2 => by omega⟩, fun j hj => by rw [← hW1, World.cell?_alloc_at _ _ _ _ rfl, if_pos hj]; exact made_rod _ _ hj, fun j => by rw [← hW1]; exact World.frozen?_alloc_at _ _ _ _ rfl, by rw [← hW1]; simp, fun i h1 h2 => by omega⟩)
  have L2 := Lib.hid (show Below w1.heap.size w1 W1 by rw [← hW1]; exact (Below.refl _ _).alloc (Nat.le_refl _) _)
  go_wp2
  clear hW1 u0 u1
  go_loopw [5] (fun x wr => ∃ (k : Nat) (b : Nat → Nat), k ≤ n ∧ x = .int .i64 ((k : Int) - 1) ∧ Hid (RodsTo wr w1.heap.size w1.heap.size k n b (rodF m)) ∧ Hid (Below w1.heap.size w1 wr)) (fun x _ => (intOf x + 1).toNat)
  case atStart => exact ⟨n, _, Nat.le_refl _, rfl, S0, L2⟩
  case round =>
    obtain ⟨k, b, hk, rfl, HS, HW⟩ := hrel
    obtain ⟨wq, rfl⟩ : ∃ wq : World, wq = wr := ⟨_, rfl⟩
    clear S0 L2
    by_cases hlt : 0 < k
    · obtain ⟨i, rfl⟩ : ∃ i, k = i + 1 := ⟨k - 1, by omega⟩
      rw [show (((i + 1 : Nat) : Int) - 1) = (i : Int) by omega]
      have hin : i < n := by omega
      have hin' : (i : Int) < (n : Int) := by omega
      have hi0 : (0 : Int) ≤ (i : Int) := by omega
      have LX := L1.out.trans (HW.out.mono hwr)
      obtain ⟨_, u0, u1⟩ := BX1.out.lo HW.out
      have a0 := (EC.out i 0 hin (by omega)).1
      have a1 := (EC.out i 1 hin (by omega)).1
      have e0 := (EC.out i 0 hin (by omega)).2
      have e1 := (EC.out i 1 hin (by omega)).2
      rw [← LX.cell (p := ⟨g, off + i * 2 + 0, none⟩) hg] at a0
      rw [← LX.cell (p := ⟨g, off + i * 2 + 1, none⟩) hg] at a1
      rw [← LX.cell (p := ⟨g', off' + i * 2 + 0, none⟩) hg'] at e0
      rw [← LX.cell (p := ⟨g', off' + i * 2 + 1, none⟩) hg'] at e1
      simp only [Nat.add_zero] at a0 e0
      have cr := HS.out.row i hin
      rw [if_pos (by omega)] at cr
      have fr := HS.out.fz i
      have hgl := HS.out.lt
      have hne : w.heap.size ≠ w1.heap.size := by have := BX1.out.1; omega
      have hgne : g' ≠ w1.heap.size := by omega
      have hgne2 : w1.heap.size ≠ g' := by omega
      have hgq : g' < wq.heap.size := by omega
      have hgq2 : ¬ g' = wq.heap.size := by omega
      go_wp2
      clear u0 u1 cr fr
      have HM0 := Lib.hid (HS.out.begin (i := i) hin (show w1.heap.size ≤ wq.heap.size by have := HW.out.size; omega) 147)
      have HW0 := Lib.hid (show Below w1.heap.size w1 _ from (HW.out.setCell (p := ⟨w1.heap.size, i, none⟩) (Nat.le_refl _) (.pointer (some ⟨wq.heap.size, 0, none⟩))).alloc (by have := HW.out.size; simpa using this) (.cells #[.int .i64 (i : Int), .int .i64 ((rodF m).ar (2 * i)), .int .i64 ((rodF m).ar (2 * i + 1)), .int .i64 0, .int .i64 0, .pointer none, .pointer none] 147))
      have eq0 : (rodF m).ar (2 * i) = avM m (2 * i) := rfl
      have eq1 : (rodF m).ar (2 * i + 1) = avM m (2 * i + 1) := rfl
      rw [eq0, eq1] at HM0 HW0
      obtain ⟨q, hq⟩ : ∃ q, wq.heap.size = q := ⟨_, rfl⟩
      rw [hq] at HM0 HW0
      obtain ⟨V, hV⟩ : ∃ V, (wq.setCell ⟨w1.heap.size, i, none⟩ (.pointer (some ⟨q, 0, none⟩))).alloc (.cells #[.int .i64 (i : Int), .int .i64 (avM m (2 * i)), .int .i64 (avM m (2 * i + 1)), .int .i64 0, .int .i64 0, .pointer none, .pointer none] 147) = V := ⟨_, rfl⟩
      rw [hV] at HM0 HW0
      rw [hq, hV]
      have HIX := Lib.hid (fun e (he : e < 2) w => index_two (hvM m (2 * i)) (hvM m (2 * i + 1)) (hvM m (2 * i + e)) e he (by
        rcases (show e = 0 ∨ e = 1 by omega) with rfl | rfl
        · rfl
        · rfl) w)
      clear hV hq LX a0 a1 e0 e1 eq0 eq1 HS HW hgq hgq2 hgl
      generalize hvM m (2 * i) = z0 at *
      generalize hvM m (2 * i + 1) = z1 at *
      go_loopw [38] (fun x wr => ∃ e : Nat, e ≤ 2 ∧ x = .int .i64 e ∧ Hid (RodsMid wr w1.heap.size w1.heap.size i e n b q (rodF m)) ∧ Hid (Below w1.heap.size w1 wr)) (fun x _ => 2 - (intOf x).toNat)
      case atStart => exact ⟨0, Nat.zero_le _, rfl, HM0, HW0⟩
      case round =>
        obtain ⟨e, he, rfl, HM2, HW2⟩ := hrel
        obtain ⟨wx, rfl⟩ : ∃ wx : World, wx = wr := ⟨_, rfl⟩
        clear HM0 HW0
        by_cases hel : e < 2
        · have hel' : (e : Int) < 2 := by omega
          have hix := HIX.out e hel wx
          have hen := HEN.out (2 * i + e) (by omega)
          rw [show (2 * i + e) / 2 = i by omega] at hen
          have HLE := Lib.hid (show (rodF m).le (2 * i + e) = if 0 < hvM m (2 * i + e) then hvM m (2 * i + e) else 0 from rfl)
          have HBE := Lib.hid (show (rodF m).be (2 * i + e) = (-hvM m (2 * i + e)).toNat from rfl)
          have ci := HM2.out.row i hin
          rw [if_neg (by omega), if_pos rfl] at ci
          have cl := HM2.out.rod.leaf e hel
          have cb := HM2.out.rod.below e hel
          rw [if_neg (by omega)] at cl
          rw [if_neg (by omega), ptrR_none _ rfl] at cb
          have fl := HM2.out.rod.fz (3 + e)
          have fb := HM2.out.rod.fz (5 + e)
          have hqw := HM2.out.rod.lt
          have HROW := Lib.hid HM2.out.row
          obtain ⟨h, hh⟩ : ∃ h, hvM m (2 * i + e) = h := ⟨_, rfl⟩
          rw [hh] at hix hen HLE HBE
          clear hh
          by_cases hpos : 0 < h
          · have HMN := Lib.hid (HM2.out.leaf hel (by rw [HBE.out]; omega))
            rw [HLE.out, if_pos hpos] at HMN
            have HWN := Lib.hid (HW2.out.setCell (p := ⟨q, 3 + e, none⟩) HM2.out.own.2 (.int .i64 h))
            clear HLE HBE cb fb
            go_wp2
            go_roundw
            case rel => exact ⟨e + 1, by omega, by go_num, HMN, HWN⟩
            case measure => simp [intOf]; omega
          · obtain ⟨r, hr⟩ : ∃ r : Nat, h = -(r : Int) := ⟨(-h).toNat, by omega⟩
            subst hr
            have hbe : (rodF m).be (2 * i + e) = r := by rw [HBE.out]; omega
            have hle : (rodF m).le (2 * i + e) = 0 := by rw [HLE.out, if_neg (by omega)]
            have hrn : r < n := by omega
            have hrn' : (r : Int) < (n : Int) := by omega
            have cr := HROW.out r hrn
            rw [if_neg (by omega), if_neg (by omega)] at cr
            have HMN := Lib.hid ((HM2.out.lo (drew_below wx)).below hel hle (by rw [hbe]; omega) (by rw [hbe]; omega))
            rw [hbe] at HMN
            have HWN := Lib.hid ((lo_on HW2.out (drew_below wx)).setCell (p := ⟨q, 5 + e, none⟩) HM2.out.own.2 (.pointer (some ⟨b r, 0, none⟩)))
            have hr6 : (r : Int) ≤ 6 := by omega
            have hr0 : (0 : Int) ≤ (r : Int) := by omega
            have hwr1 : IntKind.i64.wrap (r : Int) = (r : Int) := wrap_mid _ (by omega) (by omega)
            have hwr2 : IntKind.i64.wrap (- -(r : Int)) = (r : Int) := by rw [Int.neg_neg]; exact hwr1
            clear HLE HBE cl fl HROW hbe hle hen
            go_wp2
            refine wp_region_still_tail 13 (by kernel_rfl) (by kernel_rfl) ?_
            simp only [List.take_succ_cons, List.take_zero, List.drop_succ_cons, List.drop_zero]
            change wpStill _ _ wx.drew _ _ _
            repeat still_step
            refine wpStill_nil ?_
            change wpList _ _ _ _ _ wx.drew
            have cbd : wx.drew.cell? ⟨q, 5 + e, none⟩ = _ := cb
            have fbd : wx.drew.frozen? ⟨q, 5 + e, none⟩ = false := fb
            clear cb fb ci cr HM2 HW2 hqw hix
            generalize wx.drew = wd at *
            go_wp2
            go_roundw
            case rel => exact ⟨e + 1, by omega, by go_num, HMN, HWN⟩
            case measure => simp [intOf]; omega
        · obtain rfl : e = 2 := by omega
          go_wp2
          go_roundw
          case rel => exact ⟨i, _, by omega, rfl, Lib.hid (HM2.out.done (fun t ht => by
            have := HEN.out t ht
            simp only [rodF]
            omega)), HW2⟩
          case measure => simp only [intOf]; omega
    · obtain rfl : k = 0 := by omega
      have hneg : ((0 : Nat) : Int) - 1 = -1 := by omega
      rw [hneg]
      have LF := Lib.hid (L1.out.trans (HW.out.mono hwr))
      have HS' := Lib.hid (HS.out.mono hwr)
      go_wp2
      go_ret2
      exact ⟨_, b, rfl, HS'.out, hwr, LF.out⟩
end Go.Proofs.Ythncgcdnljoakaa
namespace Go.Proofs.Ythncgcdnljoakaa
open Go.RowKit
theorem drewN_lo (w : World) (n : Nat) : Below w.heap.size w (w.drewN n) := ⟨rfl, rfl, rfl, Nat.le_refl _, fun _ _ => rfl⟩
end Go.Proofs.Ythncgcdnljoakaa
namespace Go.Proofs.Ythncgcdnljoakaa
open Go.RowKit
theorem rodsOf_no (v : Value) (m : MobV) (w : World) (hv : MobRow w v m) (hs : SmallM m) (hb : BndM m) (hf : goodB m = false) :
    Calls Try.prog 141 #[v] w fun e w' => e = .returned (.tuple #[.slice none 0 0, .bool false]) ∧ Below w.heap.size w w' := by
  have IM := Lib.hid (fun w1 (l : Below w.heap.size w w1) => isMobile_any v m w1 (hv.lo l) hs hb)
  rw [hf] at IM
  obtain ⟨a, b, c, d, rfl⟩ := hv.form
  generalize m.am.length = n at *
  generalize m.hu.length = k at *
  clear hv hs hb hf
  obtain ⟨W, hW⟩ : ∃ W, w.alloc (.cells #[.slice a n c, .slice b k d] 62) = W := ⟨_, rfl⟩
  have LW := Lib.hid (show Below w.heap.size w W by rw [← hW]; exact (Below.refl _ _).alloc (Nat.le_refl _) _)
  have BX := Lib.hid (show Box2 W w.heap.size (.slice a n c) (.slice b k d) by rw [← hW]; exact box2_new _ _ _ _)
  have IM1 := Lib.hid (IM.out W LW.out)
  clear IM
  obtain ⟨_, u0, u1⟩ := BX.out
  go_enter Try.func141, Try.ntmps141
  go_wp2_with fail
  clear hW u0 u1
  refine IM1.out.mono ?_
  rintro e w1 ⟨rfl, l1⟩
  have L1 := Lib.hid (lo_on LW.out l1)
  clear l1 IM1
  go_wp2
  go_ret2
  exact ⟨rfl, L1.out⟩
theorem pull_bnd {n : Nat} {S : RodF} {W : Nat → Int} (K : WtR n S W) (t : Nat) (ht : t < 2 * n) (ha : 0 ≤ S.ar t ∧ S.ar t ≤ 24) : 0 ≤ S.ar t * atR S W t ∧ S.ar t * atR S W t ≤ 152064 := by
  have hb := K.at_bnd t ht
  generalize S.ar t = x at *
  generalize atR S W t = z at *
  have hm0 : 0 ≤ x * z := Int.mul_nonneg ha.1 hb.1
  have hm1 : x * z ≤ 24 * 6336 := Int.mul_le_mul ha.2 hb.2 hb.1 (by omega)
  omega
def turnR (S : RodF) (W : Nat → Int) (i : Nat) : Int := S.ar (2 * i + 1) * atR S W (2 * i + 1) - S.ar (2 * i) * atR S W (2 * i)
theorem length_any {n B : Nat} {b : Nat → Nat} {nu : Nat → Int} {S : RodF} (i : Nat) (w : World) (hi : i < n) (ha : ∀ t, t < 2 * n → 0 ≤ S.ar t ∧ S.ar t ≤ 24) (H : RodsIn w B 0 n b nu S) :
    Calls Try.prog 144 #[.pointer (some ⟨b i, 0, none⟩)] w fun r w' => r = .returned (.int .i64 (S.ar (2 * i) + S.ar (2 * i + 1))) ∧ ∃ d, w' = w.drewN d := by
  have c0 := (H.rod i (by omega) hi).arm 0 (by omega)
  have c1 := (H.rod i (by omega) hi).arm 1 (by omega)
  have hlt := (H.rod i (by omega) hi).lt
  obtain ⟨a0, a1⟩ := ha (2 * i) (by omega)
  obtain ⟨a2, a3⟩ := ha (2 * i + 1) (by omega)
  simp only [Nat.add_zero] at c0 c1
  generalize S.ar (2 * i) = x at *
  generalize S.ar (2 * i + 1) = y at *
  have hw := wrap_mid (x + y) (by omega) (by omega)
  clear H ha
  go_enter Try.func144, Try.ntmps144
  go_wp2
  go_quiet (fail)
  go_wp2
  go_ret
  exact ⟨rfl, _, rfl⟩
end Go.Proofs.Ythncgcdnljoakaa
