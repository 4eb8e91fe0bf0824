/- The draws of a stage and of a load. -/
import Derived.Test.YtpklccpkgefniaaRowDraw1
import Derived.Test.YtpklccpkgefniaaChs
import Derived.Test.YtpklccpkgefniaaCh1
namespace Go.Proofs.Ytpklccpkgefniaa
open Go.RowKit
theorem Cel3.only {w w' : World} {b C : Nat} {x y z : Value} (h : Cel3 w b x y z) (o : Only C w w') (hC : b ≠ C) : Cel3 w' b x y z := by
  obtain ⟨h0, h1, h2, h3⟩ := h
  exact ⟨Nat.lt_of_lt_of_le h0 o.size, (o.cell (p := ⟨b, 0, none⟩) hC h0).trans h1, (o.cell (p := ⟨b, 1, none⟩) hC h0).trans h2, (o.cell (p := ⟨b, 2, none⟩) hC h0).trans h3⟩
/-- Three cells of a block of one's own. -/
def Fb (w : World) (g : Nat) (x y z : Value) : Prop := Cel3 w g x y z ∧ ∀ j, w.frozen? ⟨g, j, none⟩ = false
theorem Fb.only {w w' : World} {g C : Nat} {x y z : Value} (h : Fb w g x y z) (o : Only C w w') (hC : g ≠ C) : Fb w' g x y z :=
  ⟨h.1.only o hC, fun j => (World.frozen?_of_block (w := w) (a := ⟨g, j, none⟩) (o.block g hC h.1.1)).trans (h.2 j)⟩
theorem Fb.lo {w w' : World} {g : Nat} {x y z : Value} (h : Fb w g x y z) (l : Below w.heap.size w w') : Fb w' g x y z :=
  ⟨h.1.lo l, fun j => (l.frozen (p := ⟨g, j, none⟩) h.1.1).trans (h.2 j)⟩
theorem fb_new (w : World) (x y z : Value) (T : TypeId) : Fb (w.alloc (.cells #[x, y, z] T)) w.heap.size x y z :=
  ⟨cel3_new _ _ _ _ _, fun _ => World.frozen?_alloc_at _ _ _ _ rfl⟩
theorem Fb.apart {w : World} {g g' : Nat} {x y z : Value} (h : Fb w g x y z) (hg : g ≠ g') (j : Nat) (u : Value) : Fb (w.setCell ⟨g', j, none⟩ u) g x y z := by
  obtain ⟨⟨h0, h1, h2, h3⟩, hf⟩ := h
  have ne : ∀ i, (⟨g', j, none⟩ : Addr) ≠ ⟨g, i, none⟩ := fun i e => by cases e; exact hg rfl
  refine ⟨⟨by simpa using h0, ?_, ?_, ?_⟩, fun j => by rw [World.frozen?_setCell]; exact hf j⟩
  · rw [World.cell?_setCell_other (h := ne 0)]; exact h1
  · rw [World.cell?_setCell_other (h := ne 1)]; exact h2
  · rw [World.cell?_setCell_other (h := ne 2)]; exact h3
theorem Fb.set0 {w : World} {g : Nat} {x y z : Value} (h : Fb w g x y z) (u : Value) : Fb (w.setCell ⟨g, 0, none⟩ u) g u y z := by
  obtain ⟨⟨h0, h1, h2, h3⟩, hf⟩ := h
  refine ⟨⟨by simpa using h0, World.cell?_setCell_same' _ _ _ (by rw [h1]; rfl), ?_, ?_⟩, fun j => by rw [World.frozen?_setCell]; exact hf j⟩
  · rw [World.cell?_setCell_other _ _ _ _ (fun h => by cases h)]; exact h2
  · rw [World.cell?_setCell_other _ _ _ _ (fun h => by cases h)]; exact h3
theorem Fb.set1 {w : World} {g : Nat} {x y z : Value} (h : Fb w g x y z) (u : Value) : Fb (w.setCell ⟨g, 1, none⟩ u) g x u z := by
  obtain ⟨⟨h0, h1, h2, h3⟩, hf⟩ := h
  refine ⟨⟨by simpa using h0, ?_, World.cell?_setCell_same' _ _ _ (by rw [h2]; rfl), ?_⟩, fun j => by rw [World.frozen?_setCell]; exact hf j⟩
  · rw [World.cell?_setCell_other _ _ _ _ (fun h => by cases h)]; exact h1
  · rw [World.cell?_setCell_other _ _ _ _ (fun h => by cases h)]; exact h3
theorem Fb.set2 {w : World} {g : Nat} {x y z : Value} (h : Fb w g x y z) (u : Value) : Fb (w.setCell ⟨g, 2, none⟩ u) g x y u := by
  obtain ⟨⟨h0, h1, h2, h3⟩, hf⟩ := h
  refine ⟨⟨by simpa using h0, ?_, ?_, World.cell?_setCell_same' _ _ _ (by rw [h3]; rfl)⟩, fun j => by rw [World.frozen?_setCell]; exact hf j⟩
  · rw [World.cell?_setCell_other _ _ _ _ (fun h => by cases h)]; exact h1
  · rw [World.cell?_setCell_other _ _ _ _ (fun h => by cases h)]; exact h2
theorem any3 {x0 x1 x2 : Int} : ∀ j, j < 3 → ∃ z, (#[.int .i64 x0, .int .i64 x1, .int .i64 x2] : Array Value)[j]? = some (.int .i64 z) ∧ True := by
  intro j hj
  have : j = 0 ∨ j = 1 ∨ j = 2 := by omega
  rcases this with rfl | rfl | rfl <;> exact ⟨_, rfl, trivial⟩
def StgEnd (C : Nat) (a : Option Addr) (len cap p k : Nat) (w : World) (e : Ending) (w' : World) : Prop :=
  ∃ (b : StageV) (seed' : Int) (p' : Nat), e = .returned (.agg #[.int .i64 b.k, .int .i64 b.a, .int .i64 b.b]) ∧ p' ≤ p + k ∧ Dr w' C a len cap p' seed' ∧ Only C w w'
def Upto (n t : Int) : Prop := 1 ≤ t ∧ t ≤ n
theorem upto5 : ∀ j, j < 5 → ∃ z, (#[.int .i64 1, .int .i64 2, .int .i64 3, .int .i64 4, .int .i64 5] : Array Value)[j]? = some (.int .i64 z) ∧ Upto 5 z := by
  intro j hj
  have : j = 0 ∨ j = 1 ∨ j = 2 ∨ j = 3 ∨ j = 4 := by omega
  rcases this with rfl | rfl | rfl | rfl | rfl <;> exact ⟨_, rfl, by unfold Upto; omega⟩
set_option maxHeartbeats 800000 in
theorem haul7_any (C : Nat) (a : Option Addr) (len cap p : Nat) (seed : Int) (w : World) (h : Dr w C a len cap p seed) (hp : p ≤ 800000) :
    Calls Try.prog 138 #[.pointer (some ⟨C, 0, none⟩)] w (NumEnd C a len cap p 4 (fun _ => True) w) := by
  have ON := Lib.hid (one_num C a len cap p seed 20 w h (by omega) (by omega) (by omega))
  clear h
  go_enter Try.func138, Try.ntmps138
  go_wp2_with fail
  refine ON.out.mono ?_
  rintro e w1 ⟨x, s1, p1, rfl, hp1, d1, b1⟩
  have D1 := Lib.hid d1
  have B1 := Lib.hid b1
  clear d1 b1 ON
  cases x
  · have PK := Lib.hid (pick_num C a len cap p1 s1 200 w1 D1.out (by omega) (by omega) (by omega))
    go_wp2_with fail
    refine PK.out.mono ?_
    rintro e w3 ⟨u, s3, p3, rfl, _, hp3, d3, b3⟩
    have D3 := Lib.hid d3
    have B3 := Lib.hid (B1.out.trans b3)
    clear d3 b3
    go_wp2
    go_ret
    exact ⟨u, s3, p3, rfl, trivial, by omega, D3.out, B3.out⟩
  · go_wp2_with fail
    refine (among_new C a len cap p1 4 s1 w1 _ _ (fun _ => True) D1.out (by omega) (by omega) (by omega) any4).mono ?_
    rintro e w2 ⟨t, s2, p2, rfl, _, hp2, d2, b2⟩
    have D2 := Lib.hid d2
    have B2 := Lib.hid (B1.out.trans b2)
    clear d2 b2
    go_wp2
    go_ret
    exact ⟨t, s2, p2, rfl, trivial, by omega, D2.out, B2.out⟩
set_option maxRecDepth 100000 in
set_option maxHeartbeats 3200000 in
theorem stage7_any (C : Nat) (a0 : Option Addr) (len cap p : Nat) (seed : Int) (w : World) (h : Dr w C a0 len cap p seed) (hp : p ≤ 800000) :
    Calls Try.prog 139 #[.pointer (some ⟨C, 0, none⟩)] w (StgEnd C a0 len cap p 12 w) := by
  have hC := curC h.cur
  obtain ⟨W, hW⟩ : ∃ W, w.alloc (.cells #[.int .i64 0, .int .i64 0, .int .i64 0] 25) = W := ⟨_, rfl⟩
  have l0 : Lo w W := by rw [← hW]; exact lo_alloc _ _
  have RB := Lib.hid (show Fb W w.heap.size (.int .i64 0) (.int .i64 0) (.int .i64 0) by rw [← hW]; exact fb_new _ _ _ _ _)
  have O0 := Lib.hid (show Only C w W from Only.of_lo l0)
  have D0 := Lib.hid (h.lo l0)
  clear h
  go_enter Try.func139, Try.ntmps139
  go_wp2_with fail
  clear hW
  refine (among_new C a0 len cap p 5 seed W _ _ (Upto 5) D0.out (by omega) (by omega) (by omega) upto5).mono ?_
  rintro e w1 ⟨k, s1, p1, rfl, ⟨k0, k1⟩, hp1, d1, b1⟩
  have B1 := Lib.hid (O0.out.trans b1)
  have R1 := Lib.hid (RB.out.only b1 (by omega))
  have PA := Lib.hid (pick_num C a0 len cap p1 s1 6 w1 d1 (by omega) (by omega) (by omega))
  clear d1 b1 RB O0 D0
  go_wp2_with fail
  refine PA.out.mono ?_
  rintro e w2 ⟨x, s2, p2, rfl, ⟨x0, x1⟩, hp2, d2, b2⟩
  have B2 := Lib.hid (B1.out.trans b2)
  have R2 := Lib.hid (R1.out.only b2 (by omega))
  have PB := Lib.hid (pick_num C a0 len cap p2 s2 4 w2 d2 (by omega) (by omega) (by omega))
  clear d2 b2 PA B1 R1
  go_wp2_with fail
  refine PB.out.mono ?_
  rintro e w3 ⟨y, s3, p3, rfl, ⟨y0, y1⟩, hp3, d3, b3⟩
  obtain ⟨a, ha⟩ : ∃ a, 1 + x = a := ⟨_, rfl⟩
  obtain ⟨b, hb⟩ : ∃ b, 1 + y = b := ⟨_, rfl⟩
  have a1 : 1 ≤ a ∧ a ≤ 6 := by omega
  have b1 : 1 ≤ b ∧ b ≤ 4 := by omega
  have l4 : Lo w3 (w3.alloc (.cells #[.int .i64 k, .int .i64 a, .int .i64 b] 25)) := lo_alloc _ _
  have hs3 : w.heap.size < w3.heap.size := Nat.lt_of_lt_of_le R2.out.1.1 b3.size
  have B4 := Lib.hid ((B2.out.trans b3).trans (Only.of_lo l4))
  have R4 := Lib.hid ((R2.out.only b3 (by omega)).lo l4)
  have S4 := Lib.hid (fb_new w3 (.int .i64 k) (.int .i64 a) (.int .i64 b) 25)
  have D4 := Lib.hid (d3.lo l4)
  obtain ⟨g, hg⟩ : ∃ g, w3.heap.size = g := ⟨_, rfl⟩
  rw [hg] at S4 hs3
  obtain ⟨W4, hW4⟩ : ∃ W4, w3.alloc (.cells #[.int .i64 k, .int .i64 a, .int .i64 b] 25) = W4 := ⟨_, rfl⟩
  rw [hW4] at B4 R4 S4 D4
  have hgC : g ≠ C := by omega
  clear d3 b3 l4 PB B2 R2
  rw [ha]
  clear x0 x1 y0 y1
  obtain ⟨⟨_, u0, u1, u2⟩, fu⟩ := S4.out
  have fu0 := fu 0
  have fu1 := fu 1
  have fu2 := fu 2
  clear fu
  by_cases h2 : k = 2
  · subst h2
    obtain ⟨W5, hW5⟩ : ∃ W5, W4.setCell ⟨g, 2, none⟩ (.int .i64 (0)) = W5 := ⟨_, rfl⟩
    have S5 := Lib.hid (show Fb W5 g _ _ _ by rw [← hW5]; exact S4.out.set2 (.int .i64 (0)))
    have R5 := Lib.hid (show Fb W5 w.heap.size _ _ _ by rw [← hW5]; exact R4.out.apart (by omega) 2 (.int .i64 (0)))
    have B5 := Lib.hid (show Only C w W5 by rw [← hW5]; exact only_set_own B4.out (by omega) 2 (.int .i64 (0)))
    have D5 := Lib.hid (show Dr W5 C a0 len cap p3 s3 by rw [← hW5]; exact D4.out.set (B := g) (by omega) (Nat.le_refl _) 2 (.int .i64 (0)))
    clear S4 R4 B4 D4
    have PQ := Lib.hid (pick_num C a0 len cap p3 s3 40 W5 D5.out (by omega) (by omega) (by omega))
    go_wp2_with fail
    clear hW4 hW5 hg u0 u1 u2 fu0 fu1 fu2 ha hb
    refine PQ.out.mono ?_
    rintro e w6 ⟨r, s6, p6, rfl, ⟨r0, r1⟩, hp6, d6, b6⟩
    have B6 := Lib.hid (B5.out.trans b6)
    have R6 := Lib.hid (R5.out.only b6 (by omega))
    have S6 := Lib.hid (S5.out.only b6 hgC)
    have D6 := Lib.hid d6
    clear d6 b6 PQ B5 R5 S5 D5
    obtain ⟨⟨_, y0, y1, y2⟩, fy⟩ := S6.out
    have g0 := fy 0
    have g1 := fy 1
    have g2 := fy 2
    obtain ⟨⟨_, z0, z1, z2⟩, fz⟩ := R6.out
    have k0 := fz 0
    have k1 := fz 1
    have k2 := fz 2
    clear fy fz
    by_cases hr0 : r = 0
    · subst hr0
      go_wp2_with fail
      clear y0 y1 y2 g0 g1 g2 z0 z1 z2 k0 k1 k2
      refine (among_new C a0 len cap p6 4 s6 w6 _ _ (fun _ => True) D6.out (by omega) (by omega) (by omega) any4).mono ?_
      rintro e w7 ⟨v, s7, p7, rfl, _, hp7, d7, b7⟩
      have S7 := Lib.hid (S6.out.only b7 hgC)
      have R7 := Lib.hid (R6.out.only b7 (by omega))
      have B7 := Lib.hid (B6.out.trans b7)
      have D7 := Lib.hid d7
      clear d7 b7 S6 R6 B6 D6
      obtain ⟨⟨_, y0, y1, y2⟩, fy⟩ := S7.out
      have g0 := fy 1
      clear fy
      obtain ⟨W8, hW8⟩ : ∃ W8, w7.setCell ⟨g, 1, none⟩ (.int .i64 v) = W8 := ⟨_, rfl⟩
      have S8 := Lib.hid (show Fb W8 g _ _ _ by rw [← hW8]; exact S7.out.set1 (.int .i64 v))
      have R8 := Lib.hid (show Fb W8 w.heap.size _ _ _ by rw [← hW8]; exact R7.out.apart (by omega) 1 (.int .i64 v))
      have B8 := Lib.hid (show Only C w W8 by rw [← hW8]; exact only_set_own B7.out (by omega) 1 (.int .i64 v))
      have D8 := Lib.hid (show Dr W8 C a0 len cap p7 s7 by rw [← hW8]; exact D7.out.set (B := g) (by omega) (Nat.le_refl _) 1 (.int .i64 v))
      clear S7 R7 B7 D7
      obtain ⟨⟨_, x0, x1, x2⟩, _⟩ := S8.out
      obtain ⟨⟨_, z0, z1, z2⟩, fz⟩ := R8.out
      have k0 := fz 0
      have k1 := fz 1
      have k2 := fz 2
      clear fz
      go_wp2
      obtain ⟨⟨_, q0, q1, q2⟩, _⟩ := (((R8.out.set0 (.int .i64 (2))).set1 (.int .i64 (v))).set2 (.int .i64 (0)))
      exact bodyPost_ret (v := .agg #[.int .i64 (2), .int .i64 (v), .int .i64 (0)]) (by simp [results, Try.results139, go_sem, q0, q1, q2]) rfl ⟨⟨2, v, 0⟩, s7, p7, rfl, by omega, ((D8.out.set (B := w.heap.size) hC (Nat.le_refl _) 0 _).set (B := w.heap.size) hC (Nat.le_refl _) 1 _).set (B := w.heap.size) hC (Nat.le_refl _) 2 _, only_set_own (only_set_own (only_set_own B8.out (Nat.le_refl _) 0 _) (Nat.le_refl _) 1 _) (Nat.le_refl _) 2 _⟩
    have qr0 : (r == 0) = false := by simpa using hr0
    by_cases hr1 : r = 1
    · subst hr1
      clear qr0 hr0
      go_wp2_with fail
      clear y0 y1 y2 g0 g1 g2 z0 z1 z2 k0 k1 k2
      refine (among_new C a0 len cap p6 4 s6 w6 _ _ (fun _ => True) D6.out (by omega) (by omega) (by omega) any4).mono ?_
      rintro e w7 ⟨v, s7, p7, rfl, _, hp7, d7, b7⟩
      have S7 := Lib.hid (S6.out.only b7 hgC)
      have R7 := Lib.hid (R6.out.only b7 (by omega))
      have B7 := Lib.hid (B6.out.trans b7)
      have D7 := Lib.hid d7
      clear d7 b7 S6 R6 B6 D6
      obtain ⟨⟨_, y0, y1, y2⟩, fy⟩ := S7.out
      have g0 := fy 2
      clear fy
      obtain ⟨W8, hW8⟩ : ∃ W8, w7.setCell ⟨g, 2, none⟩ (.int .i64 v) = W8 := ⟨_, rfl⟩
      have S8 := Lib.hid (show Fb W8 g _ _ _ by rw [← hW8]; exact S7.out.set2 (.int .i64 v))
      have R8 := Lib.hid (show Fb W8 w.heap.size _ _ _ by rw [← hW8]; exact R7.out.apart (by omega) 2 (.int .i64 v))
      have B8 := Lib.hid (show Only C w W8 by rw [← hW8]; exact only_set_own B7.out (by omega) 2 (.int .i64 v))
      have D8 := Lib.hid (show Dr W8 C a0 len cap p7 s7 by rw [← hW8]; exact D7.out.set (B := g) (by omega) (Nat.le_refl _) 2 (.int .i64 v))
      clear S7 R7 B7 D7
      obtain ⟨⟨_, x0, x1, x2⟩, _⟩ := S8.out
      obtain ⟨⟨_, z0, z1, z2⟩, fz⟩ := R8.out
      have k0 := fz 0
      have k1 := fz 1
      have k2 := fz 2
      clear fz
      go_wp2
      obtain ⟨⟨_, q0, q1, q2⟩, _⟩ := (((R8.out.set0 (.int .i64 (2))).set1 (.int .i64 (a))).set2 (.int .i64 (v)))
      exact bodyPost_ret (v := .agg #[.int .i64 (2), .int .i64 (a), .int .i64 (v)]) (by simp [results, Try.results139, go_sem, q0, q1, q2]) rfl ⟨⟨2, a, v⟩, s7, p7, rfl, by omega, ((D8.out.set (B := w.heap.size) hC (Nat.le_refl _) 0 _).set (B := w.heap.size) hC (Nat.le_refl _) 1 _).set (B := w.heap.size) hC (Nat.le_refl _) 2 _, only_set_own (only_set_own (only_set_own B8.out (Nat.le_refl _) 0 _) (Nat.le_refl _) 1 _) (Nat.le_refl _) 2 _⟩
    have qr1 : (r == 1) = false := by simpa using hr1
    by_cases hr2 : r = 2
    · subst hr2
      clear qr0 qr1 hr0 hr1
      go_wp2_with fail
      clear y0 y1 y2 g0 g1 g2 z0 z1 z2 k0 k1 k2
      refine (among_new C a0 len cap p6 3 s6 w6 _ _ (fun _ => True) D6.out (by omega) (by omega) (by omega) any3).mono ?_
      rintro e w7 ⟨v, s7, p7, rfl, _, hp7, d7, b7⟩
      have S7 := Lib.hid (S6.out.only b7 hgC)
      have R7 := Lib.hid (R6.out.only b7 (by omega))
      have B7 := Lib.hid (B6.out.trans b7)
      have D7 := Lib.hid d7
      clear d7 b7 S6 R6 B6 D6
      obtain ⟨⟨_, y0, y1, y2⟩, fy⟩ := S7.out
      have g0 := fy 0
      clear fy
      obtain ⟨W8, hW8⟩ : ∃ W8, w7.setCell ⟨g, 0, none⟩ (.int .i64 v) = W8 := ⟨_, rfl⟩
      have S8 := Lib.hid (show Fb W8 g _ _ _ by rw [← hW8]; exact S7.out.set0 (.int .i64 v))
      have R8 := Lib.hid (show Fb W8 w.heap.size _ _ _ by rw [← hW8]; exact R7.out.apart (by omega) 0 (.int .i64 v))
      have B8 := Lib.hid (show Only C w W8 by rw [← hW8]; exact only_set_own B7.out (by omega) 0 (.int .i64 v))
      have D8 := Lib.hid (show Dr W8 C a0 len cap p7 s7 by rw [← hW8]; exact D7.out.set (B := g) (by omega) (Nat.le_refl _) 0 (.int .i64 v))
      clear S7 R7 B7 D7
      obtain ⟨⟨_, x0, x1, x2⟩, _⟩ := S8.out
      obtain ⟨⟨_, z0, z1, z2⟩, fz⟩ := R8.out
      have k0 := fz 0
      have k1 := fz 1
      have k2 := fz 2
      clear fz
      go_wp2
      obtain ⟨⟨_, q0, q1, q2⟩, _⟩ := (((R8.out.set0 (.int .i64 (v))).set1 (.int .i64 (a))).set2 (.int .i64 (0)))
      exact bodyPost_ret (v := .agg #[.int .i64 (v), .int .i64 (a), .int .i64 (0)]) (by simp [results, Try.results139, go_sem, q0, q1, q2]) rfl ⟨⟨v, a, 0⟩, s7, p7, rfl, by omega, ((D8.out.set (B := w.heap.size) hC (Nat.le_refl _) 0 _).set (B := w.heap.size) hC (Nat.le_refl _) 1 _).set (B := w.heap.size) hC (Nat.le_refl _) 2 _, only_set_own (only_set_own (only_set_own B8.out (Nat.le_refl _) 0 _) (Nat.le_refl _) 1 _) (Nat.le_refl _) 2 _⟩
    have qr2 : (r == 2) = false := by simpa using hr2
    go_wp2
    obtain ⟨⟨_, q0, q1, q2⟩, _⟩ := (((R6.out.set0 (.int .i64 (2))).set1 (.int .i64 (a))).set2 (.int .i64 (0)))
    exact bodyPost_ret (v := .agg #[.int .i64 (2), .int .i64 (a), .int .i64 (0)]) (by simp [results, Try.results139, go_sem, q0, q1, q2]) rfl ⟨⟨2, a, 0⟩, s6, p6, rfl, by omega, ((D6.out.set (B := w.heap.size) hC (Nat.le_refl _) 0 _).set (B := w.heap.size) hC (Nat.le_refl _) 1 _).set (B := w.heap.size) hC (Nat.le_refl _) 2 _, only_set_own (only_set_own (only_set_own B6.out (Nat.le_refl _) 0 _) (Nat.le_refl _) 1 _) (Nat.le_refl _) 2 _⟩
  have q2 : (k == 2) = false := by simpa using h2
  by_cases h4 : k = 4
  · subst h4
    have MO := Lib.hid (fun w => l1Most_any a b w)
    obtain ⟨mx, hmx⟩ : ∃ mx, (if b < a then a else b) = mx := ⟨_, rfl⟩
    rw [hmx] at MO
    clear hmx q2
    go_wp2_with fail
    refine (MO.out _).mono ?_
    rintro e w' ⟨rfl, rfl⟩
    obtain ⟨W5, hW5⟩ : ∃ W5, W4.setCell ⟨g, 1, none⟩ (.int .i64 (mx)) = W5 := ⟨_, rfl⟩
    have S5 := Lib.hid (show Fb W5 g _ _ _ by rw [← hW5]; exact S4.out.set1 (.int .i64 (mx)))
    have R5 := Lib.hid (show Fb W5 w.heap.size _ _ _ by rw [← hW5]; exact R4.out.apart (by omega) 1 (.int .i64 (mx)))
    have B5 := Lib.hid (show Only C w W5 by rw [← hW5]; exact only_set_own B4.out (by omega) 1 (.int .i64 (mx)))
    have D5 := Lib.hid (show Dr W5 C a0 len cap p3 s3 by rw [← hW5]; exact D4.out.set (B := g) (by omega) (Nat.le_refl _) 1 (.int .i64 (mx)))
    clear S4 R4 B4 D4
    have PQ := Lib.hid (pick_num C a0 len cap p3 s3 40 W5 D5.out (by omega) (by omega) (by omega))
    go_wp2_with fail
    clear hW5 u0 u1 u2 fu0 fu1 fu2 hg ha hb
    refine PQ.out.mono ?_
    rintro e w6 ⟨r, s6, p6, rfl, ⟨r0, r1⟩, hp6, d6, b6⟩
    have B6 := Lib.hid (B5.out.trans b6)
    have R6 := Lib.hid (R5.out.only b6 (by omega))
    have S6 := Lib.hid (S5.out.only b6 hgC)
    have D6 := Lib.hid d6
    clear d6 b6 PQ B5 R5 S5 D5
    obtain ⟨⟨_, y0, y1, y2⟩, fy⟩ := S6.out
    have g0 := fy 0
    have g1 := fy 1
    have g2 := fy 2
    obtain ⟨⟨_, z0, z1, z2⟩, fz⟩ := R6.out
    have k0 := fz 0
    have k1 := fz 1
    have k2 := fz 2
    clear fy fz
    by_cases hr0 : r = 0
    · subst hr0
      go_wp2_with fail
      clear y0 y1 y2 g0 g1 g2 z0 z1 z2 k0 k1 k2
      refine (among_new C a0 len cap p6 4 s6 w6 _ _ (fun _ => True) D6.out (by omega) (by omega) (by omega) any4).mono ?_
      rintro e w7 ⟨v, s7, p7, rfl, _, hp7, d7, b7⟩
      have S7 := Lib.hid (S6.out.only b7 hgC)
      have R7 := Lib.hid (R6.out.only b7 (by omega))
      have B7 := Lib.hid (B6.out.trans b7)
      have D7 := Lib.hid d7
      clear d7 b7 S6 R6 B6 D6
      obtain ⟨⟨_, y0, y1, y2⟩, fy⟩ := S7.out
      have g0 := fy 1
      clear fy
      obtain ⟨W8, hW8⟩ : ∃ W8, w7.setCell ⟨g, 1, none⟩ (.int .i64 v) = W8 := ⟨_, rfl⟩
      have S8 := Lib.hid (show Fb W8 g _ _ _ by rw [← hW8]; exact S7.out.set1 (.int .i64 v))
      have R8 := Lib.hid (show Fb W8 w.heap.size _ _ _ by rw [← hW8]; exact R7.out.apart (by omega) 1 (.int .i64 v))
      have B8 := Lib.hid (show Only C w W8 by rw [← hW8]; exact only_set_own B7.out (by omega) 1 (.int .i64 v))
      have D8 := Lib.hid (show Dr W8 C a0 len cap p7 s7 by rw [← hW8]; exact D7.out.set (B := g) (by omega) (Nat.le_refl _) 1 (.int .i64 v))
      clear S7 R7 B7 D7
      obtain ⟨⟨_, x0, x1, x2⟩, _⟩ := S8.out
      obtain ⟨⟨_, z0, z1, z2⟩, fz⟩ := R8.out
      have k0 := fz 0
      have k1 := fz 1
      have k2 := fz 2
      clear fz
      go_wp2
      obtain ⟨⟨_, q0, q1, q2⟩, _⟩ := (((R8.out.set0 (.int .i64 (4))).set1 (.int .i64 (v))).set2 (.int .i64 (b)))
      exact bodyPost_ret (v := .agg #[.int .i64 (4), .int .i64 (v), .int .i64 (b)]) (by simp [results, Try.results139, go_sem, q0, q1, q2]) rfl ⟨⟨4, v, b⟩, s7, p7, rfl, by omega, ((D8.out.set (B := w.heap.size) hC (Nat.le_refl _) 0 _).set (B := w.heap.size) hC (Nat.le_refl _) 1 _).set (B := w.heap.size) hC (Nat.le_refl _) 2 _, only_set_own (only_set_own (only_set_own B8.out (Nat.le_refl _) 0 _) (Nat.le_refl _) 1 _) (Nat.le_refl _) 2 _⟩
    have qr0 : (r == 0) = false := by simpa using hr0
    by_cases hr1 : r = 1
    · subst hr1
      clear qr0 hr0
      go_wp2_with fail
      clear y0 y1 y2 g0 g1 g2 z0 z1 z2 k0 k1 k2
      refine (among_new C a0 len cap p6 4 s6 w6 _ _ (fun _ => True) D6.out (by omega) (by omega) (by omega) any4).mono ?_
      rintro e w7 ⟨v, s7, p7, rfl, _, hp7, d7, b7⟩
      have S7 := Lib.hid (S6.out.only b7 hgC)
      have R7 := Lib.hid (R6.out.only b7 (by omega))
      have B7 := Lib.hid (B6.out.trans b7)
      have D7 := Lib.hid d7
      clear d7 b7 S6 R6 B6 D6
      obtain ⟨⟨_, y0, y1, y2⟩, fy⟩ := S7.out
      have g0 := fy 2
      clear fy
      obtain ⟨W8, hW8⟩ : ∃ W8, w7.setCell ⟨g, 2, none⟩ (.int .i64 v) = W8 := ⟨_, rfl⟩
      have S8 := Lib.hid (show Fb W8 g _ _ _ by rw [← hW8]; exact S7.out.set2 (.int .i64 v))
      have R8 := Lib.hid (show Fb W8 w.heap.size _ _ _ by rw [← hW8]; exact R7.out.apart (by omega) 2 (.int .i64 v))
      have B8 := Lib.hid (show Only C w W8 by rw [← hW8]; exact only_set_own B7.out (by omega) 2 (.int .i64 v))
      have D8 := Lib.hid (show Dr W8 C a0 len cap p7 s7 by rw [← hW8]; exact D7.out.set (B := g) (by omega) (Nat.le_refl _) 2 (.int .i64 v))
      clear S7 R7 B7 D7
      obtain ⟨⟨_, x0, x1, x2⟩, _⟩ := S8.out
      obtain ⟨⟨_, z0, z1, z2⟩, fz⟩ := R8.out
      have k0 := fz 0
      have k1 := fz 1
      have k2 := fz 2
      clear fz
      go_wp2
      obtain ⟨⟨_, q0, q1, q2⟩, _⟩ := (((R8.out.set0 (.int .i64 (4))).set1 (.int .i64 (mx))).set2 (.int .i64 (v)))
      exact bodyPost_ret (v := .agg #[.int .i64 (4), .int .i64 (mx), .int .i64 (v)]) (by simp [results, Try.results139, go_sem, q0, q1, q2]) rfl ⟨⟨4, mx, v⟩, s7, p7, rfl, by omega, ((D8.out.set (B := w.heap.size) hC (Nat.le_refl _) 0 _).set (B := w.heap.size) hC (Nat.le_refl _) 1 _).set (B := w.heap.size) hC (Nat.le_refl _) 2 _, only_set_own (only_set_own (only_set_own B8.out (Nat.le_refl _) 0 _) (Nat.le_refl _) 1 _) (Nat.le_refl _) 2 _⟩
    have qr1 : (r == 1) = false := by simpa using hr1
    by_cases hr2 : r = 2
    · subst hr2
      clear qr0 qr1 hr0 hr1
      go_wp2_with fail
      clear y0 y1 y2 g0 g1 g2 z0 z1 z2 k0 k1 k2
      refine (among_new C a0 len cap p6 3 s6 w6 _ _ (fun _ => True) D6.out (by omega) (by omega) (by omega) any3).mono ?_
      rintro e w7 ⟨v, s7, p7, rfl, _, hp7, d7, b7⟩
      have S7 := Lib.hid (S6.out.only b7 hgC)
      have R7 := Lib.hid (R6.out.only b7 (by omega))
      have B7 := Lib.hid (B6.out.trans b7)
      have D7 := Lib.hid d7
      clear d7 b7 S6 R6 B6 D6
      obtain ⟨⟨_, y0, y1, y2⟩, fy⟩ := S7.out
      have g0 := fy 0
      clear fy
      obtain ⟨W8, hW8⟩ : ∃ W8, w7.setCell ⟨g, 0, none⟩ (.int .i64 v) = W8 := ⟨_, rfl⟩
      have S8 := Lib.hid (show Fb W8 g _ _ _ by rw [← hW8]; exact S7.out.set0 (.int .i64 v))
      have R8 := Lib.hid (show Fb W8 w.heap.size _ _ _ by rw [← hW8]; exact R7.out.apart (by omega) 0 (.int .i64 v))
      have B8 := Lib.hid (show Only C w W8 by rw [← hW8]; exact only_set_own B7.out (by omega) 0 (.int .i64 v))
      have D8 := Lib.hid (show Dr W8 C a0 len cap p7 s7 by rw [← hW8]; exact D7.out.set (B := g) (by omega) (Nat.le_refl _) 0 (.int .i64 v))
      clear S7 R7 B7 D7
      obtain ⟨⟨_, x0, x1, x2⟩, _⟩ := S8.out
      obtain ⟨⟨_, z0, z1, z2⟩, fz⟩ := R8.out
      have k0 := fz 0
      have k1 := fz 1
      have k2 := fz 2
      clear fz
      go_wp2
      obtain ⟨⟨_, q0, q1, q2⟩, _⟩ := (((R8.out.set0 (.int .i64 (v))).set1 (.int .i64 (mx))).set2 (.int .i64 (b)))
      exact bodyPost_ret (v := .agg #[.int .i64 (v), .int .i64 (mx), .int .i64 (b)]) (by simp [results, Try.results139, go_sem, q0, q1, q2]) rfl ⟨⟨v, mx, b⟩, s7, p7, rfl, by omega, ((D8.out.set (B := w.heap.size) hC (Nat.le_refl _) 0 _).set (B := w.heap.size) hC (Nat.le_refl _) 1 _).set (B := w.heap.size) hC (Nat.le_refl _) 2 _, only_set_own (only_set_own (only_set_own B8.out (Nat.le_refl _) 0 _) (Nat.le_refl _) 1 _) (Nat.le_refl _) 2 _⟩
    have qr2 : (r == 2) = false := by simpa using hr2
    go_wp2
    obtain ⟨⟨_, q0, q1, q2⟩, _⟩ := (((R6.out.set0 (.int .i64 (4))).set1 (.int .i64 (mx))).set2 (.int .i64 (b)))
    exact bodyPost_ret (v := .agg #[.int .i64 (4), .int .i64 (mx), .int .i64 (b)]) (by simp [results, Try.results139, go_sem, q0, q1, q2]) rfl ⟨⟨4, mx, b⟩, s6, p6, rfl, by omega, ((D6.out.set (B := w.heap.size) hC (Nat.le_refl _) 0 _).set (B := w.heap.size) hC (Nat.le_refl _) 1 _).set (B := w.heap.size) hC (Nat.le_refl _) 2 _, only_set_own (only_set_own (only_set_own B6.out (Nat.le_refl _) 0 _) (Nat.le_refl _) 1 _) (Nat.le_refl _) 2 _⟩
  have q4 : (k == 4) = false := by simpa using h4
  by_cases h5 : k = 5
  · subst h5
    clear q2 q4
    obtain ⟨W5, hW5⟩ : ∃ W5, W4.setCell ⟨g, 1, none⟩ (.int .i64 (b + a)) = W5 := ⟨_, rfl⟩
    have S5 := Lib.hid (show Fb W5 g _ _ _ by rw [← hW5]; exact S4.out.set1 (.int .i64 (b + a)))
    have R5 := Lib.hid (show Fb W5 w.heap.size _ _ _ by rw [← hW5]; exact R4.out.apart (by omega) 1 (.int .i64 (b + a)))
    have B5 := Lib.hid (show Only C w W5 by rw [← hW5]; exact only_set_own B4.out (by omega) 1 (.int .i64 (b + a)))
    have D5 := Lib.hid (show Dr W5 C a0 len cap p3 s3 by rw [← hW5]; exact D4.out.set (B := g) (by omega) (Nat.le_refl _) 1 (.int .i64 (b + a)))
    clear S4 R4 B4 D4
    have PQ := Lib.hid (pick_num C a0 len cap p3 s3 40 W5 D5.out (by omega) (by omega) (by omega))
    go_wp2_with fail
    clear hW4 hW5 hg u0 u1 u2 fu0 fu1 fu2 ha hb
    refine PQ.out.mono ?_
    rintro e w6 ⟨r, s6, p6, rfl, ⟨r0, r1⟩, hp6, d6, b6⟩
    have B6 := Lib.hid (B5.out.trans b6)
    have R6 := Lib.hid (R5.out.only b6 (by omega))
    have S6 := Lib.hid (S5.out.only b6 hgC)
    have D6 := Lib.hid d6
    clear d6 b6 PQ B5 R5 S5 D5
    obtain ⟨⟨_, y0, y1, y2⟩, fy⟩ := S6.out
    have g0 := fy 0
    have g1 := fy 1
    have g2 := fy 2
    obtain ⟨⟨_, z0, z1, z2⟩, fz⟩ := R6.out
    have k0 := fz 0
    have k1 := fz 1
    have k2 := fz 2
    clear fy fz
    by_cases hr0 : r = 0
    · subst hr0
      go_wp2_with fail
      clear y0 y1 y2 g0 g1 g2 z0 z1 z2 k0 k1 k2
      refine (among_new C a0 len cap p6 4 s6 w6 _ _ (fun _ => True) D6.out (by omega) (by omega) (by omega) any4).mono ?_
      rintro e w7 ⟨v, s7, p7, rfl, _, hp7, d7, b7⟩
      have S7 := Lib.hid (S6.out.only b7 hgC)
      have R7 := Lib.hid (R6.out.only b7 (by omega))
      have B7 := Lib.hid (B6.out.trans b7)
      have D7 := Lib.hid d7
      clear d7 b7 S6 R6 B6 D6
      obtain ⟨⟨_, y0, y1, y2⟩, fy⟩ := S7.out
      have g0 := fy 1
      clear fy
      obtain ⟨W8, hW8⟩ : ∃ W8, w7.setCell ⟨g, 1, none⟩ (.int .i64 v) = W8 := ⟨_, rfl⟩
      have S8 := Lib.hid (show Fb W8 g _ _ _ by rw [← hW8]; exact S7.out.set1 (.int .i64 v))
      have R8 := Lib.hid (show Fb W8 w.heap.size _ _ _ by rw [← hW8]; exact R7.out.apart (by omega) 1 (.int .i64 v))
      have B8 := Lib.hid (show Only C w W8 by rw [← hW8]; exact only_set_own B7.out (by omega) 1 (.int .i64 v))
      have D8 := Lib.hid (show Dr W8 C a0 len cap p7 s7 by rw [← hW8]; exact D7.out.set (B := g) (by omega) (Nat.le_refl _) 1 (.int .i64 v))
      clear S7 R7 B7 D7
      obtain ⟨⟨_, x0, x1, x2⟩, _⟩ := S8.out
      obtain ⟨⟨_, z0, z1, z2⟩, fz⟩ := R8.out
      have k0 := fz 0
      have k1 := fz 1
      have k2 := fz 2
      clear fz
      go_wp2
      obtain ⟨⟨_, q0, q1, q2⟩, _⟩ := (((R8.out.set0 (.int .i64 (5))).set1 (.int .i64 (v))).set2 (.int .i64 (b)))
      exact bodyPost_ret (v := .agg #[.int .i64 (5), .int .i64 (v), .int .i64 (b)]) (by simp [results, Try.results139, go_sem, q0, q1, q2]) rfl ⟨⟨5, v, b⟩, s7, p7, rfl, by omega, ((D8.out.set (B := w.heap.size) hC (Nat.le_refl _) 0 _).set (B := w.heap.size) hC (Nat.le_refl _) 1 _).set (B := w.heap.size) hC (Nat.le_refl _) 2 _, only_set_own (only_set_own (only_set_own B8.out (Nat.le_refl _) 0 _) (Nat.le_refl _) 1 _) (Nat.le_refl _) 2 _⟩
    have qr0 : (r == 0) = false := by simpa using hr0
    by_cases hr1 : r = 1
    · subst hr1
      clear qr0 hr0
      go_wp2_with fail
      clear y0 y1 y2 g0 g1 g2 z0 z1 z2 k0 k1 k2
      refine (among_new C a0 len cap p6 4 s6 w6 _ _ (fun _ => True) D6.out (by omega) (by omega) (by omega) any4).mono ?_
      rintro e w7 ⟨v, s7, p7, rfl, _, hp7, d7, b7⟩
      have S7 := Lib.hid (S6.out.only b7 hgC)
      have R7 := Lib.hid (R6.out.only b7 (by omega))
      have B7 := Lib.hid (B6.out.trans b7)
      have D7 := Lib.hid d7
      clear d7 b7 S6 R6 B6 D6
      obtain ⟨⟨_, y0, y1, y2⟩, fy⟩ := S7.out
      have g0 := fy 2
      clear fy
      obtain ⟨W8, hW8⟩ : ∃ W8, w7.setCell ⟨g, 2, none⟩ (.int .i64 v) = W8 := ⟨_, rfl⟩
      have S8 := Lib.hid (show Fb W8 g _ _ _ by rw [← hW8]; exact S7.out.set2 (.int .i64 v))
      have R8 := Lib.hid (show Fb W8 w.heap.size _ _ _ by rw [← hW8]; exact R7.out.apart (by omega) 2 (.int .i64 v))
      have B8 := Lib.hid (show Only C w W8 by rw [← hW8]; exact only_set_own B7.out (by omega) 2 (.int .i64 v))
      have D8 := Lib.hid (show Dr W8 C a0 len cap p7 s7 by rw [← hW8]; exact D7.out.set (B := g) (by omega) (Nat.le_refl _) 2 (.int .i64 v))
      clear S7 R7 B7 D7
      obtain ⟨⟨_, x0, x1, x2⟩, _⟩ := S8.out
      obtain ⟨⟨_, z0, z1, z2⟩, fz⟩ := R8.out
      have k0 := fz 0
      have k1 := fz 1
      have k2 := fz 2
      clear fz
      go_wp2
      obtain ⟨⟨_, q0, q1, q2⟩, _⟩ := (((R8.out.set0 (.int .i64 (5))).set1 (.int .i64 (b + a))).set2 (.int .i64 (v)))
      exact bodyPost_ret (v := .agg #[.int .i64 (5), .int .i64 (b + a), .int .i64 (v)]) (by simp [results, Try.results139, go_sem, q0, q1, q2]) rfl ⟨⟨5, b + a, v⟩, s7, p7, rfl, by omega, ((D8.out.set (B := w.heap.size) hC (Nat.le_refl _) 0 _).set (B := w.heap.size) hC (Nat.le_refl _) 1 _).set (B := w.heap.size) hC (Nat.le_refl _) 2 _, only_set_own (only_set_own (only_set_own B8.out (Nat.le_refl _) 0 _) (Nat.le_refl _) 1 _) (Nat.le_refl _) 2 _⟩
    have qr1 : (r == 1) = false := by simpa using hr1
    by_cases hr2 : r = 2
    · subst hr2
      clear qr0 qr1 hr0 hr1
      go_wp2_with fail
      clear y0 y1 y2 g0 g1 g2 z0 z1 z2 k0 k1 k2
      refine (among_new C a0 len cap p6 3 s6 w6 _ _ (fun _ => True) D6.out (by omega) (by omega) (by omega) any3).mono ?_
      rintro e w7 ⟨v, s7, p7, rfl, _, hp7, d7, b7⟩
      have S7 := Lib.hid (S6.out.only b7 hgC)
      have R7 := Lib.hid (R6.out.only b7 (by omega))
      have B7 := Lib.hid (B6.out.trans b7)
      have D7 := Lib.hid d7
      clear d7 b7 S6 R6 B6 D6
      obtain ⟨⟨_, y0, y1, y2⟩, fy⟩ := S7.out
      have g0 := fy 0
      clear fy
      obtain ⟨W8, hW8⟩ : ∃ W8, w7.setCell ⟨g, 0, none⟩ (.int .i64 v) = W8 := ⟨_, rfl⟩
      have S8 := Lib.hid (show Fb W8 g _ _ _ by rw [← hW8]; exact S7.out.set0 (.int .i64 v))
      have R8 := Lib.hid (show Fb W8 w.heap.size _ _ _ by rw [← hW8]; exact R7.out.apart (by omega) 0 (.int .i64 v))
      have B8 := Lib.hid (show Only C w W8 by rw [← hW8]; exact only_set_own B7.out (by omega) 0 (.int .i64 v))
      have D8 := Lib.hid (show Dr W8 C a0 len cap p7 s7 by rw [← hW8]; exact D7.out.set (B := g) (by omega) (Nat.le_refl _) 0 (.int .i64 v))
      clear S7 R7 B7 D7
      obtain ⟨⟨_, x0, x1, x2⟩, _⟩ := S8.out
      obtain ⟨⟨_, z0, z1, z2⟩, fz⟩ := R8.out
      have k0 := fz 0
      have k1 := fz 1
      have k2 := fz 2
      clear fz
      go_wp2
      obtain ⟨⟨_, q0, q1, q2⟩, _⟩ := (((R8.out.set0 (.int .i64 (v))).set1 (.int .i64 (b + a))).set2 (.int .i64 (b)))
      exact bodyPost_ret (v := .agg #[.int .i64 (v), .int .i64 (b + a), .int .i64 (b)]) (by simp [results, Try.results139, go_sem, q0, q1, q2]) rfl ⟨⟨v, b + a, b⟩, s7, p7, rfl, by omega, ((D8.out.set (B := w.heap.size) hC (Nat.le_refl _) 0 _).set (B := w.heap.size) hC (Nat.le_refl _) 1 _).set (B := w.heap.size) hC (Nat.le_refl _) 2 _, only_set_own (only_set_own (only_set_own B8.out (Nat.le_refl _) 0 _) (Nat.le_refl _) 1 _) (Nat.le_refl _) 2 _⟩
    have qr2 : (r == 2) = false := by simpa using hr2
    go_wp2
    obtain ⟨⟨_, q0, q1, q2⟩, _⟩ := (((R6.out.set0 (.int .i64 (5))).set1 (.int .i64 (b + a))).set2 (.int .i64 (b)))
    exact bodyPost_ret (v := .agg #[.int .i64 (5), .int .i64 (b + a), .int .i64 (b)]) (by simp [results, Try.results139, go_sem, q0, q1, q2]) rfl ⟨⟨5, b + a, b⟩, s6, p6, rfl, by omega, ((D6.out.set (B := w.heap.size) hC (Nat.le_refl _) 0 _).set (B := w.heap.size) hC (Nat.le_refl _) 1 _).set (B := w.heap.size) hC (Nat.le_refl _) 2 _, only_set_own (only_set_own (only_set_own B6.out (Nat.le_refl _) 0 _) (Nat.le_refl _) 1 _) (Nat.le_refl _) 2 _⟩
  have q5 : (k == 5) = false := by simpa using h5
  have S5 := S4
  have R5 := R4
  have B5 := B4
  have D5 := D4
  clear S4 R4 B4 D4
  have PQ := Lib.hid (pick_num C a0 len cap p3 s3 40 W4 D5.out (by omega) (by omega) (by omega))
  go_wp2_with fail
  clear hW4 hg u0 u1 u2 fu0 fu1 fu2 ha hb
  refine PQ.out.mono ?_
  rintro e w6 ⟨r, s6, p6, rfl, ⟨r0, r1⟩, hp6, d6, b6⟩
  have B6 := Lib.hid (B5.out.trans b6)
  have R6 := Lib.hid (R5.out.only b6 (by omega))
  have S6 := Lib.hid (S5.out.only b6 hgC)
  have D6 := Lib.hid d6
  clear d6 b6 PQ B5 R5 S5 D5
  obtain ⟨⟨_, y0, y1, y2⟩, fy⟩ := S6.out
  have g0 := fy 0
  have g1 := fy 1
  have g2 := fy 2
  obtain ⟨⟨_, z0, z1, z2⟩, fz⟩ := R6.out
  have k0 := fz 0
  have k1 := fz 1
  have k2 := fz 2
  clear fy fz
  by_cases hr0 : r = 0
  · subst hr0
    go_wp2_with fail
    clear y0 y1 y2 g0 g1 g2 z0 z1 z2 k0 k1 k2
    refine (among_new C a0 len cap p6 4 s6 w6 _ _ (fun _ => True) D6.out (by omega) (by omega) (by omega) any4).mono ?_
    rintro e w7 ⟨v, s7, p7, rfl, _, hp7, d7, b7⟩
    have S7 := Lib.hid (S6.out.only b7 hgC)
    have R7 := Lib.hid (R6.out.only b7 (by omega))
    have B7 := Lib.hid (B6.out.trans b7)
    have D7 := Lib.hid d7
    clear d7 b7 S6 R6 B6 D6
    obtain ⟨⟨_, y0, y1, y2⟩, fy⟩ := S7.out
    have g0 := fy 1
    clear fy
    obtain ⟨W8, hW8⟩ : ∃ W8, w7.setCell ⟨g, 1, none⟩ (.int .i64 v) = W8 := ⟨_, rfl⟩
    have S8 := Lib.hid (show Fb W8 g _ _ _ by rw [← hW8]; exact S7.out.set1 (.int .i64 v))
    have R8 := Lib.hid (show Fb W8 w.heap.size _ _ _ by rw [← hW8]; exact R7.out.apart (by omega) 1 (.int .i64 v))
    have B8 := Lib.hid (show Only C w W8 by rw [← hW8]; exact only_set_own B7.out (by omega) 1 (.int .i64 v))
    have D8 := Lib.hid (show Dr W8 C a0 len cap p7 s7 by rw [← hW8]; exact D7.out.set (B := g) (by omega) (Nat.le_refl _) 1 (.int .i64 v))
    clear S7 R7 B7 D7
    obtain ⟨⟨_, x0, x1, x2⟩, _⟩ := S8.out
    obtain ⟨⟨_, z0, z1, z2⟩, fz⟩ := R8.out
    have k0 := fz 0
    have k1 := fz 1
    have k2 := fz 2
    clear fz
    go_wp2
    obtain ⟨⟨_, q0, q1, q2⟩, _⟩ := (((R8.out.set0 (.int .i64 (k))).set1 (.int .i64 (v))).set2 (.int .i64 (b)))
    exact bodyPost_ret (v := .agg #[.int .i64 (k), .int .i64 (v), .int .i64 (b)]) (by simp [results, Try.results139, go_sem, q0, q1, q2]) rfl ⟨⟨k, v, b⟩, s7, p7, rfl, by omega, ((D8.out.set (B := w.heap.size) hC (Nat.le_refl _) 0 _).set (B := w.heap.size) hC (Nat.le_refl _) 1 _).set (B := w.heap.size) hC (Nat.le_refl _) 2 _, only_set_own (only_set_own (only_set_own B8.out (Nat.le_refl _) 0 _) (Nat.le_refl _) 1 _) (Nat.le_refl _) 2 _⟩
  have qr0 : (r == 0) = false := by simpa using hr0
  by_cases hr1 : r = 1
  · subst hr1
    clear qr0 hr0
    go_wp2_with fail
    clear y0 y1 y2 g0 g1 g2 z0 z1 z2 k0 k1 k2
    refine (among_new C a0 len cap p6 4 s6 w6 _ _ (fun _ => True) D6.out (by omega) (by omega) (by omega) any4).mono ?_
    rintro e w7 ⟨v, s7, p7, rfl, _, hp7, d7, b7⟩
    have S7 := Lib.hid (S6.out.only b7 hgC)
    have R7 := Lib.hid (R6.out.only b7 (by omega))
    have B7 := Lib.hid (B6.out.trans b7)
    have D7 := Lib.hid d7
    clear d7 b7 S6 R6 B6 D6
    obtain ⟨⟨_, y0, y1, y2⟩, fy⟩ := S7.out
    have g0 := fy 2
    clear fy
    obtain ⟨W8, hW8⟩ : ∃ W8, w7.setCell ⟨g, 2, none⟩ (.int .i64 v) = W8 := ⟨_, rfl⟩
    have S8 := Lib.hid (show Fb W8 g _ _ _ by rw [← hW8]; exact S7.out.set2 (.int .i64 v))
    have R8 := Lib.hid (show Fb W8 w.heap.size _ _ _ by rw [← hW8]; exact R7.out.apart (by omega) 2 (.int .i64 v))
    have B8 := Lib.hid (show Only C w W8 by rw [← hW8]; exact only_set_own B7.out (by omega) 2 (.int .i64 v))
    have D8 := Lib.hid (show Dr W8 C a0 len cap p7 s7 by rw [← hW8]; exact D7.out.set (B := g) (by omega) (Nat.le_refl _) 2 (.int .i64 v))
    clear S7 R7 B7 D7
    obtain ⟨⟨_, x0, x1, x2⟩, _⟩ := S8.out
    obtain ⟨⟨_, z0, z1, z2⟩, fz⟩ := R8.out
    have k0 := fz 0
    have k1 := fz 1
    have k2 := fz 2
    clear fz
    go_wp2
    obtain ⟨⟨_, q0, q1, q2⟩, _⟩ := (((R8.out.set0 (.int .i64 (k))).set1 (.int .i64 (a))).set2 (.int .i64 (v)))
    exact bodyPost_ret (v := .agg #[.int .i64 (k), .int .i64 (a), .int .i64 (v)]) (by simp [results, Try.results139, go_sem, q0, q1, q2]) rfl ⟨⟨k, a, v⟩, s7, p7, rfl, by omega, ((D8.out.set (B := w.heap.size) hC (Nat.le_refl _) 0 _).set (B := w.heap.size) hC (Nat.le_refl _) 1 _).set (B := w.heap.size) hC (Nat.le_refl _) 2 _, only_set_own (only_set_own (only_set_own B8.out (Nat.le_refl _) 0 _) (Nat.le_refl _) 1 _) (Nat.le_refl _) 2 _⟩
  have qr1 : (r == 1) = false := by simpa using hr1
  by_cases hr2 : r = 2
  · subst hr2
    clear qr0 qr1 hr0 hr1
    go_wp2_with fail
    clear y0 y1 y2 g0 g1 g2 z0 z1 z2 k0 k1 k2
    refine (among_new C a0 len cap p6 3 s6 w6 _ _ (fun _ => True) D6.out (by omega) (by omega) (by omega) any3).mono ?_
    rintro e w7 ⟨v, s7, p7, rfl, _, hp7, d7, b7⟩
    have S7 := Lib.hid (S6.out.only b7 hgC)
    have R7 := Lib.hid (R6.out.only b7 (by omega))
    have B7 := Lib.hid (B6.out.trans b7)
    have D7 := Lib.hid d7
    clear d7 b7 S6 R6 B6 D6
    obtain ⟨⟨_, y0, y1, y2⟩, fy⟩ := S7.out
    have g0 := fy 0
    clear fy
    obtain ⟨W8, hW8⟩ : ∃ W8, w7.setCell ⟨g, 0, none⟩ (.int .i64 v) = W8 := ⟨_, rfl⟩
    have S8 := Lib.hid (show Fb W8 g _ _ _ by rw [← hW8]; exact S7.out.set0 (.int .i64 v))
    have R8 := Lib.hid (show Fb W8 w.heap.size _ _ _ by rw [← hW8]; exact R7.out.apart (by omega) 0 (.int .i64 v))
    have B8 := Lib.hid (show Only C w W8 by rw [← hW8]; exact only_set_own B7.out (by omega) 0 (.int .i64 v))
    have D8 := Lib.hid (show Dr W8 C a0 len cap p7 s7 by rw [← hW8]; exact D7.out.set (B := g) (by omega) (Nat.le_refl _) 0 (.int .i64 v))
    clear S7 R7 B7 D7
    obtain ⟨⟨_, x0, x1, x2⟩, _⟩ := S8.out
    obtain ⟨⟨_, z0, z1, z2⟩, fz⟩ := R8.out
    have k0 := fz 0
    have k1 := fz 1
    have k2 := fz 2
    clear fz
    go_wp2
    obtain ⟨⟨_, q0, q1, q2⟩, _⟩ := (((R8.out.set0 (.int .i64 (v))).set1 (.int .i64 (a))).set2 (.int .i64 (b)))
    exact bodyPost_ret (v := .agg #[.int .i64 (v), .int .i64 (a), .int .i64 (b)]) (by simp [results, Try.results139, go_sem, q0, q1, q2]) rfl ⟨⟨v, a, b⟩, s7, p7, rfl, by omega, ((D8.out.set (B := w.heap.size) hC (Nat.le_refl _) 0 _).set (B := w.heap.size) hC (Nat.le_refl _) 1 _).set (B := w.heap.size) hC (Nat.le_refl _) 2 _, only_set_own (only_set_own (only_set_own B8.out (Nat.le_refl _) 0 _) (Nat.le_refl _) 1 _) (Nat.le_refl _) 2 _⟩
  have qr2 : (r == 2) = false := by simpa using hr2
  go_wp2
  obtain ⟨⟨_, q0, q1, q2⟩, _⟩ := (((R6.out.set0 (.int .i64 (k))).set1 (.int .i64 (a))).set2 (.int .i64 (b)))
  exact bodyPost_ret (v := .agg #[.int .i64 (k), .int .i64 (a), .int .i64 (b)]) (by simp [results, Try.results139, go_sem, q0, q1, q2]) rfl ⟨⟨k, a, b⟩, s6, p6, rfl, by omega, ((D6.out.set (B := w.heap.size) hC (Nat.le_refl _) 0 _).set (B := w.heap.size) hC (Nat.le_refl _) 1 _).set (B := w.heap.size) hC (Nat.le_refl _) 2 _, only_set_own (only_set_own (only_set_own B6.out (Nat.le_refl _) 0 _) (Nat.le_refl _) 1 _) (Nat.le_refl _) 2 _⟩
end Go.Proofs.Ytpklccpkgefniaa
