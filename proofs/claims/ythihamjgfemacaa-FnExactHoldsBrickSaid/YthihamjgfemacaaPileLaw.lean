/- The contracts of the law's own functions on piles: measured, copied, compared, marked, and the marks looked at again. -/
import Derived.Test.YthihamjgfemacaaIntLaw
import Derived.Test.YthihamjgfemacaaPiles
import Derived.Test.YthihamjgfemacaaIn
import Derived.Deep.RegionHeld3
namespace Go.Proofs.Ythihamjgfemacaa
open Go.RowKit
/-- A block holds a struct of three cells. -/
def Box3 (w : World) (b : Nat) (x y z : Value) : Prop := b < w.heap.size ∧ w.cell? ⟨b, 0, none⟩ = some x ∧ w.cell? ⟨b, 1, none⟩ = some y ∧ w.cell? ⟨b, 2, none⟩ = some z
theorem Box3.lo {w w' : World} {b : Nat} {x y z : Value} (h : Box3 w b x y z) (l : Below w.heap.size w w') : Box3 w' b x y z := by
  obtain ⟨h0, h1, h2, h3⟩ := h
  exact ⟨Nat.lt_of_lt_of_le h0 l.size, by rw [l.cell (p := ⟨b, 0, none⟩) h0]; exact h1, by rw [l.cell (p := ⟨b, 1, none⟩) h0]; exact h2, by rw [l.cell (p := ⟨b, 2, none⟩) h0]; exact h3⟩
theorem Box3.part {w w' : World} {b B E : Nat} {x y z : Value} (h : Box3 w b x y z) (l : Part B E w w') (hb : b < B ∨ E ≤ b) : Box3 w' b x y z := by
  obtain ⟨h0, h1, h2, h3⟩ := h
  exact ⟨Nat.lt_of_lt_of_le h0 l.size, by rw [l.cell (p := ⟨b, 0, none⟩) h0 hb]; exact h1, by rw [l.cell (p := ⟨b, 1, none⟩) h0 hb]; exact h2, by rw [l.cell (p := ⟨b, 2, none⟩) h0 hb]; exact h3⟩
theorem box3_new (w : World) (x y z : Value) (t : TypeId) : Box3 (w.alloc (.cells #[x, y, z] t)) w.heap.size x y z :=
  ⟨by simp, by rw [World.cell?_alloc_at _ _ _ _ rfl]; rfl, by rw [World.cell?_alloc_at _ _ _ _ rfl]; rfl, by rw [World.cell?_alloc_at _ _ _ _ rfl]; rfl⟩
theorem drew_below (w : World) : Below w.heap.size w w.drew := ⟨rfl, rfl, rfl, Nat.le_refl _, fun _ _ => rfl⟩
def Box2 (w : World) (b : Nat) (x y : Value) : Prop := b < w.heap.size ∧ w.cell? ⟨b, 0, none⟩ = some x ∧ w.cell? ⟨b, 1, none⟩ = some y
theorem Box2.lo {w w' : World} {b : Nat} {x y : Value} (h : Box2 w b x y) (l : Below w.heap.size w w') : Box2 w' b x y := by
  obtain ⟨h0, h1, h2⟩ := h
  exact ⟨Nat.lt_of_lt_of_le h0 l.size, by rw [l.cell (p := ⟨b, 0, none⟩) h0]; exact h1, by rw [l.cell (p := ⟨b, 1, none⟩) h0]; exact h2⟩
theorem box2_new (w : World) (x y : Value) (t : TypeId) : Box2 (w.alloc (.cells #[x, y] t)) w.heap.size x y :=
  ⟨by simp, by rw [World.cell?_alloc_at _ _ _ _ rfl]; rfl, by rw [World.cell?_alloc_at _ _ _ _ rfl]; rfl⟩
def SzP (p : PileV) (w : World) (e : Ending) (w' : World) : Prop := ∃ y : Int, e = .returned (.int .i64 y) ∧ Below w.heap.size w w' ∧ (y < 0 ∨ (0 ≤ y ∧ SmallP p))
theorem szInts_at (a : Option Addr) (n c : Nat) (z : Int) (w : World) (hn : n ≤ maxLen) (z0 : 0 ≤ z) (z1 : z ≤ 1048576) : Calls Try.prog 103 #[.slice a n c, .int .i64 z] w fun e w' => e = .returned (.int .i64 (if z - n < 0 then -1 else z - n)) ∧ w = w' := by
  unfold maxLen at hn
  by_cases h : z - n < 0
  all_goals go_enter Try.func103, Try.ntmps103
  all_goals go_wp2
  all_goals go_ret
  all_goals exact ⟨rfl, rfl⟩
set_option maxRecDepth 100000 in
set_option maxHeartbeats 800000 in
theorem szPile_any (a b : Option Addr) (c d : Nat) (p : PileV) (w : World) (ha : p.ls.length ≤ maxLen) (hb : p.ws.length ≤ maxLen) :
    Calls Try.prog 61 #[.agg #[.int .i64 p.wd, .slice a p.ls.length c, .slice b p.ws.length d], .int .i64 1048576] w (SzP p w) := by
  obtain ⟨wd, ls, ws⟩ := p
  simp only at ha hb ⊢
  by_cases h1 : (1048576 : Int) - ls.length < 0
  · have S1 := Lib.hid (fun w => szInts_at a ls.length c 1048576 w ha (by omega) (by omega))
    rw [if_pos h1] at S1
    go_enter Try.func61, Try.ntmps61
    go_wp2_with fail
    refine (S1.out _).mono ?_
    rintro e w' ⟨rfl, rfl⟩
    go_wp2
    go_ret
    exact ⟨_, rfl, (Below.refl _ _).alloc (Nat.le_refl _) _, .inl (by decide)⟩
  · have S1 := Lib.hid (fun w => szInts_at a ls.length c 1048576 w ha (by omega) (by omega))
    rw [if_neg h1] at S1
    have S2 := Lib.hid (fun w => szInts_at b ws.length d (1048576 - (ls.length : Int)) w hb (by omega) (by omega))
    by_cases h2 : (1048576 : Int) - ls.length - ws.length < 0
    · rw [if_pos h2] at S2
      go_enter Try.func61, Try.ntmps61
      go_wp2_with fail
      refine (S1.out _).mono ?_
      rintro e w' ⟨rfl, rfl⟩
      go_wp2_with fail
      refine (S2.out _).mono ?_
      rintro e w' ⟨rfl, rfl⟩
      go_wp2
      go_ret
      exact ⟨_, rfl, (Below.refl _ _).alloc (Nat.le_refl _) _, .inl (by decide)⟩
    · rw [if_neg h2] at S2
      go_enter Try.func61, Try.ntmps61
      go_wp2_with fail
      refine (S1.out _).mono ?_
      rintro e w' ⟨rfl, rfl⟩
      go_wp2_with fail
      refine (S2.out _).mono ?_
      rintro e w' ⟨rfl, rfl⟩
      go_wp2
      go_ret
      exact ⟨_, rfl, (Below.refl _ _).alloc (Nat.le_refl _) _, .inr ⟨by omega, by simp only; omega, by simp only; omega⟩⟩
set_option maxRecDepth 100000 in
set_option maxHeartbeats 800000 in
theorem eqPile_same (u v : Value) (p : PileV) (w : World) (hu : PileRow w u p) (hv : PileRow w v p) (hs : SmallP p) :
    Calls Try.prog 65 #[u, v] w fun e w' => e = .returned (.bool true) ∧ Below w.heap.size w w' := by
  obtain ⟨a, b, rfl, h1, h2⟩ := hu
  obtain ⟨c, d, rfl, k1, k2⟩ := hv
  obtain ⟨hs1, hs2⟩ := hs
  obtain ⟨wd, ls, ws⟩ := p
  simp only at *
  have hne : (wd != wd) = false := by simp
  have E1 := Lib.hid (fun w1 (l : Below w.heap.size w w1) => eqInts_same a c ls w1 (h1.lo l) (k1.lo l) hs1)
  have E2 := Lib.hid (fun w1 (l : Below w.heap.size w w1) => eqInts_same b d ws w1 (h2.lo l) (k2.lo l) hs2)
  have HN := Lib.hid hne
  clear h1 h2 k1 k2 hne
  have AL := Lib.hid (((Below.refl w.heap.size w).alloc (Nat.le_refl _) (.cells #[.int .i64 wd, a, b] 63)).alloc (by simp) (.cells #[.int .i64 wd, c, d] 63))
  have hbx := Lib.hid (box3_new w (.int .i64 wd) a b 63)
  have hby := Lib.hid (box3_new (w.alloc (.cells #[.int .i64 wd, a, b] 63)) (.int .i64 wd) c d 63)
  have hne := HN.out
  go_enter Try.func65, Try.ntmps65
  go_wp2_with fail
  refine (E1.out _ AL.out).mono ?_
  rintro e w1 ⟨rfl, l1⟩
  have bx := ((hbx.out.lo ((Below.refl _ _).alloc (Nat.le_refl _) _)).lo l1).2
  have by_ := (hby.out.lo l1).2
  simp only [World.size_alloc] at by_
  obtain ⟨x0, x1, x2⟩ := bx
  obtain ⟨y0, y1, y2⟩ := by_
  have L1 := Lib.hid (AL.out.trans (l1.mono (by simp; omega)))
  clear hbx hby AL E1 l1
  go_wp2_with fail
  refine (E2.out _ L1.out).mono ?_
  rintro e w2 ⟨rfl, l2⟩
  have L2 := Lib.hid (lo_on L1.out l2)
  clear L1 E2 l2 x0 x1 x2 y0 y1 y2
  go_wp2
  go_ret
  exact ⟨rfl, L2.out⟩
theorem frz_old {w : World} {o : Obj} {b : Nat} (h : b < w.heap.size) (j : Nat) : (w.alloc o).frozen? ⟨b, j, none⟩ = w.frozen? ⟨b, j, none⟩ := World.frozen?_of_block (Below.heap_alloc _ _ _ h)
theorem box_three (w : World) {x1 y1 z1 x2 y2 z2 x3 y3 z3 : Value} {t1 t2 t3 : TypeId} {W : World} (h : (((w.alloc (.cells #[x1, y1, z1] t1)).alloc (.cells #[x2, y2, z2] t2)).alloc (.cells #[x3, y3, z3] t3)) = W) :
    Box3 W w.heap.size x1 y1 z1 ∧ Box3 W (w.heap.size + 1) x2 y2 z2 ∧ Box3 W (w.heap.size + 1 + 1) x3 y3 z3 ∧ W.heap.size = w.heap.size + 3 ∧ (∀ j, W.frozen? ⟨w.heap.size + 1, j, none⟩ = false) ∧ ∀ j, W.frozen? ⟨w.heap.size + 1 + 1, j, none⟩ = false := by
  subst h
  have A := fun (v : World) (o : Obj) => (Below.refl v.heap.size v).alloc (Nat.le_refl _) o
  have b2 := box3_new (w.alloc (.cells #[x1, y1, z1] t1)) x2 y2 z2 t2
  have b3 := box3_new ((w.alloc (.cells #[x1, y1, z1] t1)).alloc (.cells #[x2, y2, z2] t2)) x3 y3 z3 t3
  simp only [World.size_alloc] at b2 b3
  refine ⟨((box3_new w x1 y1 z1 t1).lo (A _ _)).lo (A _ _), b2.lo (A _ _), b3, by simp, fun j => ?_, fun j => ?_⟩
  · rw [frz_old (by simp)]; exact World.frozen?_alloc_at _ _ _ _ (by simp)
  · exact World.frozen?_alloc_at _ _ _ _ (by simp)
theorem three_set (w : World) (g : Nat) {x y z : Value} (h : Box3 w g x y z) (u v t : Value) : Box3 (((w.setCell ⟨g, 0, none⟩ u).setCell ⟨g, 1, none⟩ v).setCell ⟨g, 2, none⟩ t) g u v t := by
  obtain ⟨h0, h1, h2, h3⟩ := h
  have s1 := one_set w g 0 u h1
  have s2 := one_set (w.setCell ⟨g, 0, none⟩ u) g 1 v (by rw [s1.2 1 (by omega)]; exact h2)
  have s3 := one_set ((w.setCell ⟨g, 0, none⟩ u).setCell ⟨g, 1, none⟩ v) g 2 t (by rw [s2.2 2 (by omega), s1.2 2 (by omega)]; exact h3)
  refine ⟨by simpa using h0, ?_, ?_, s3.1⟩
  · rw [s3.2 0 (by omega), s2.2 0 (by omega)]; exact s1.1
  · rw [s3.2 1 (by omega)]; exact s2.1
theorem set_box1 (w : World) (g : Nat) {x y z : Value} (h : Box3 w g x y z) (u : Value) : Box3 (w.setCell ⟨g, 1, none⟩ u) g x u z := by
  obtain ⟨h0, h1, h2, h3⟩ := h
  have s2 := one_set w g 1 u h2
  exact ⟨by simpa using h0, by rw [s2.2 0 (by omega)]; exact h1, s2.1, by rw [s2.2 2 (by omega)]; exact h3⟩
set_option maxRecDepth 100000 in
set_option maxHeartbeats 800000 in
theorem toPile_any (v : Value) (p : PileV) (w : World) (hv : PileRow w v p) (hs : SmallP p) :
    Calls Try.prog 63 #[v] w fun e w' => ∃ u, e = .returned u ∧ MinePl w' w.heap.size w'.heap.size u p ∧ PileCap u ∧ Below w.heap.size w w' := by
  obtain ⟨a, b, rfl, h1, h2⟩ := hv
  obtain ⟨hs1, hs2⟩ := hs
  obtain ⟨wd, ls, ws⟩ := p
  simp only at *
  obtain ⟨a1, a2, rfl, _⟩ := id h1
  obtain ⟨b1, b2, rfl, _⟩ := id h2
  have T1 := Lib.hid (fun w1 (l : Below w.heap.size w w1) => toInts_at a1 a2 ls w1 (h1.lo l) hs1)
  have T2 := Lib.hid (fun w1 (l : Below w.heap.size w w1) => toInts_at b1 b2 ws w1 (h2.lo l) hs2)
  clear h1 h2
  go_enter Try.func63, Try.ntmps63
  go_wp2_with fail
  obtain ⟨W0, hW0⟩ : ∃ x, (((w.alloc (.cells #[.int .i64 wd, .slice a1 ls.length a2, .slice b1 ws.length b2] 60)).alloc (.cells #[.int .i64 0, .slice none 0 0, .slice none 0 0] 63)).alloc (.cells #[.int .i64 wd, .slice none 0 0, .slice none 0 0] 63)) = x := ⟨_, rfl⟩
  have L0 := Lib.hid (show Below w.heap.size w W0 by rw [← hW0]; exact (((Below.refl _ _).alloc (Nat.le_refl _) _).alloc (by simp) _).alloc (by simp; omega) _)
  obtain ⟨B0, R0, O0, z0, FR, FO⟩ := box_three w hW0
  rw [hW0]
  have hB0 := Lib.hid B0
  have hR0 := Lib.hid R0
  have hO0 := Lib.hid O0
  clear B0 R0 O0 hW0
  refine (T1.out _ L0.out).mono ?_
  rintro e w1 ⟨rfl, m1, l1⟩
  have hB1 := Lib.hid (hB0.out.lo l1)
  have hR1 := Lib.hid (hR0.out.lo l1)
  obtain ⟨og, o0, o1, o2⟩ := hO0.out.lo l1
  obtain ⟨bg, b0, b1', b2'⟩ := hB1.out
  have fo : w1.frozen? ⟨w.heap.size + 1 + 1, 1, none⟩ = false := by rw [l1.frozen (p := ⟨w.heap.size + 1 + 1, 1, none⟩) (by simp only; omega)]; exact FO 1
  have FR1 := Lib.hid (fun j => show w1.frozen? ⟨w.heap.size + 1, j, none⟩ = false by rw [l1.frozen (p := ⟨w.heap.size + 1, j, none⟩) (by simp only; omega)]; exact FR j)
  have FO1 := Lib.hid (fun j => show w1.frozen? ⟨w.heap.size + 1 + 1, j, none⟩ = false by rw [l1.frozen (p := ⟨w.heap.size + 1 + 1, j, none⟩) (by simp only; omega)]; exact FO j)
  have L1 := Lib.hid (lo_on L0.out l1)
  have M1 := Lib.hid m1
  have hs1' := l1.size
  have P1 := Lib.hid ((only_set w1 (w.heap.size + 1 + 1) 1 (.slice (some ⟨W0.heap.size, 0, none⟩) ls.length ls.length)).part (B := w.heap.size + 1) (E := w.heap.size + 3) (by omega) (by omega))
  clear l1 m1 T1 L0 FR FO hB0 hR0 hO0
  generalize some (⟨W0.heap.size, 0, none⟩ : Addr) = x1 at *
  go_wp2_with fail
  have L2 := Lib.hid (L1.out.trans ((only_set w1 (w.heap.size + 1 + 1) 1 (.slice x1 ls.length ls.length)).below (by omega) |>.mono (by omega)))
  have hO2 := Lib.hid (set_box1 w1 (w.heap.size + 1 + 1) ⟨og, o0, o1, o2⟩ (.slice x1 ls.length ls.length))
  have hB2 := Lib.hid (hB1.out.part P1.out (by omega))
  have hR2 := Lib.hid (hR1.out.part ((only_set w1 (w.heap.size + 1 + 1) 1 (.slice x1 ls.length ls.length)).part (Nat.le_refl _) (Nat.lt_succ_self _)) (by omega))
  have M2 := Lib.hid (M1.out.part P1.out (by omega))
  have FR2 := Lib.hid (fun j => show (w1.setCell ⟨w.heap.size + 1 + 1, 1, none⟩ (.slice x1 ls.length ls.length)).frozen? ⟨w.heap.size + 1, j, none⟩ = false by rw [World.frozen?_setCell]; exact FR1.out j)
  have FO2 := Lib.hid (fun j => show (w1.setCell ⟨w.heap.size + 1 + 1, 1, none⟩ (.slice x1 ls.length ls.length)).frozen? ⟨w.heap.size + 1 + 1, j, none⟩ = false by rw [World.frozen?_setCell]; exact FO1.out j)
  have hsz : (w1.setCell ⟨w.heap.size + 1 + 1, 1, none⟩ (.slice x1 ls.length ls.length)).heap.size = w1.heap.size := by simp
  clear M1 P1 L1 hB1 hR1 FR1 FO1 og o0 o1 o2 bg b0 b1' b2' fo
  generalize w1.setCell ⟨w.heap.size + 1 + 1, 1, none⟩ (.slice x1 ls.length ls.length) = W2 at *
  refine (T2.out _ L2.out).mono ?_
  rintro e w3 ⟨rfl, m3, l3⟩
  obtain ⟨og, o0, o1, o2⟩ := hO2.out.lo l3
  obtain ⟨rg, r0, r1, r2⟩ := hR2.out.lo l3
  have hR3 := Lib.hid (hR2.out.lo l3)
  have fo := (show w3.frozen? ⟨w.heap.size + 1 + 1, 2, none⟩ = false by rw [l3.frozen (p := ⟨w.heap.size + 1 + 1, 2, none⟩) (by simp only; omega)]; exact FO2.out 2)
  have hfr : ∀ j, w3.frozen? ⟨w.heap.size + 1, j, none⟩ = false := fun j => by rw [l3.frozen (p := ⟨w.heap.size + 1, j, none⟩) (by simp only; omega)]; exact FR2.out j
  have f0 := hfr 0
  have f1 := hfr 1
  have f2 := hfr 2
  have L3 := Lib.hid (lo_on L2.out l3)
  have M3 := Lib.hid (M2.out.lo l3)
  have N3 := Lib.hid m3
  have hsz3 := l3.size
  clear l3 m3 T2 L2 hO2 hR2 hB2 FO2 FR2 M2 hfr
  generalize some (⟨W2.heap.size, 0, none⟩ : Addr) = y1 at *
  have S0 := (only_set w3 (w.heap.size + 1 + 1) 2 (.slice y1 ws.length ws.length))
  have hR4 := hR3.out.part (S0.part (B := w.heap.size + 1 + 1) (E := w.heap.size + 1 + 1 + 1) (Nat.le_refl _) (Nat.lt_succ_self _)) (by omega)
  have TS := Lib.hid (three_set _ _ hR4 (.int .i64 wd) (.slice x1 ls.length ls.length) (.slice y1 ws.length ws.length))
  clear hR3 hR4 S0
  go_wp2
  obtain ⟨_, q0, q1, q2⟩ := TS.out
  refine bodyPost_ret (v := .agg #[.int .i64 wd, .slice x1 ls.length ls.length, .slice y1 ws.length ws.length]) (by simp [results, Try.results63, go_sem, q0, q1, q2]) rfl ?_
  have PA := Lib.hid (((((only_set w3 (w.heap.size + 1 + 1) 2 (.slice y1 ws.length ws.length)).part (B := w.heap.size + 1) (E := w.heap.size + 3) (by omega) (by omega)).trans ((only_set _ (w.heap.size + 1) 0 (.int .i64 wd)).part (by omega) (by omega))).trans ((only_set _ (w.heap.size + 1) 1 (.slice x1 ls.length ls.length)).part (by omega) (by omega))).trans ((only_set _ (w.heap.size + 1) 2 (.slice y1 ws.length ws.length)).part (by omega) (by omega)))
  refine ⟨_, rfl, ⟨_, _, W0.heap.size, w1.heap.size, w1.heap.size, w3.heap.size, rfl, ⟨by omega, by have := PA.out.size; omega, by omega, PA.out.size, .inl (Nat.le_refl _)⟩, ?_, ?_⟩, ⟨_, _, _, _, _, _, _, rfl, Nat.le_refl _, Nat.le_refl _⟩, ?_⟩
  · exact M3.out.part PA.out (by omega)
  · have := N3.out
    rw [hsz] at this
    exact this.part PA.out (by omega)
  · exact L3.out.trans ((PA.out.below (by omega)).mono (by omega))
end Go.Proofs.Ythihamjgfemacaa
