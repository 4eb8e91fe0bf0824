/- A struct of two rows of pairs of a call's own, in a box; and the contract of the model's MirrorMobile. -/
import Derived.Test.YtnadchgekfljkaaMob5
import Derived.Test.YtnadchgekfljkaaInv
namespace Go.Proofs.Ytnadchgekfljkaa
open Go.RowKit
theorem ownsRow_grown {w w' : World} {B : Nat} {e : TypeId} {s : Nat} {v : Value} {n : Nat} {xs : List Value} {row : Option Nat} (h : w.ownsRow B e s v n xs) (hg : w.grownBy w' row) (hne : ∀ g, v.ownBlock = some g → row ≠ some g) : w'.ownsRow B e s v n xs := by
  refine ⟨h.1, ?_⟩
  rcases h.2 with h | ⟨g, cap, cur, e, hb, hh, r⟩
  · exact .inl h
  · subst e
    exact .inr ⟨g, cap, cur, rfl, hb, (hg.block g (Array.getElem?_eq_some_iff.1 hh).1 (fun e => hne g rfl e.symm)).trans hh, r⟩
theorem ownsRow_set {w : World} {B : Nat} {e : TypeId} {s : Nat} {v : Value} {n : Nat} {xs : List Value} (h : w.ownsRow B e s v n xs) (g o : Nat) (u : Value) (hne : v.ownBlock ≠ some g) : (w.setCell ⟨g, o, none⟩ u).ownsRow B e s v n xs := by
  refine ⟨h.1, ?_⟩
  rcases h.2 with h | ⟨g', cap, cur, e, hb, hg, r⟩
  · exact .inl h
  · subst e
    exact .inr ⟨g', cap, cur, rfl, hb, ((only_set w g o u).block g' (fun e2 => hne (by rw [← e2]; rfl)) (Array.getElem?_eq_some_iff.1 hg).1).trans hg, r⟩
theorem loadRow_a2 {w : World} {B : Nat} {v : Value} {xs : List (Int × Int)} (h' : w.ownsRow B 75 2 v xs.length (cellsF xs)) : LoadRow w v xs := by
  rcases h'.2 with ⟨rfl, h0⟩ | ⟨g, cap, cur, rfl, _, hb, _⟩
  · have : xs = [] := List.length_eq_zero_iff.1 h0
    subst this
    exact ⟨none, 0, rfl, .inl rfl⟩
  · refine ⟨_, cap, rfl, .inr ⟨g, 0, rfl, (Array.getElem?_eq_some_iff.1 hb).1, fun j hj => ?_⟩⟩
    have hc := cellsF_at xs j hj
    rw [Nat.zero_add, h'.cellAt (j * 2) (by omega), h'.cellAt (j * 2 + 1) (by omega)]
    exact hc
/-- The box at b names two rows of pairs of a call's own. -/
structure Out2 (w : World) (b : Nat) (u v : Value) (xs ys : List (Int × Int)) : Prop where
  box : Box2 w b u v
  fz : ∀ j, w.frozen? ⟨b, j, none⟩ = false
  r1 : w.ownsRow (b + 1) 75 2 u xs.length (cellsF xs)
  r2 : w.ownsRow (b + 1) 75 2 v ys.length (cellsF ys)
  ap : ∀ g, u.ownBlock = some g → v.ownBlock ≠ some g
theorem out2_new (w : World) : Out2 (w.alloc (.cells #[.slice none 0 0, .slice none 0 0] 27)) w.heap.size (.slice none 0 0) (.slice none 0 0) [] [] :=
  ⟨box2_new _ _ _ _, fun _ => World.frozen?_alloc_at _ _ _ _ rfl, World.ownsRow_nil _ _ _ _, World.ownsRow_nil _ _ _ _, fun g h => by cases h⟩
theorem Out2.lo {w w' : World} {b : Nat} {u v : Value} {xs ys : List (Int × Int)} (h : Out2 w b u v xs ys) (l : Below w.heap.size w w') : Out2 w' b u v xs ys :=
  ⟨h.box.lo l, fun j => by rw [l.frozen (p := ⟨b, j, none⟩) h.box.1]; exact h.fz j, ownsRow_lo h.r1 l, ownsRow_lo h.r2 l, h.ap⟩
theorem Out2.form {w : World} {b : Nat} {u v : Value} {xs ys : List (Int × Int)} (h : Out2 w b u v xs ys) : ∃ a c a' c', u = .slice a xs.length c ∧ v = .slice a' ys.length c' := by
  obtain ⟨a, c, e1⟩ := own_slice h.r1
  obtain ⟨a', c', e2⟩ := own_slice h.r2
  exact ⟨a, c, a', c', e1, e2⟩
theorem set2_0 (w : World) (b : Nat) {x y : Value} (h : Box2 w b x y) (u : Value) : Box2 (w.setCell ⟨b, 0, none⟩ u) b u y := by
  obtain ⟨h0, h1, h2⟩ := h
  have s := one_set w b 0 u h1
  exact ⟨by simpa using h0, s.1, by rw [s.2 1 (by omega)]; exact h2⟩
theorem set2_1 (w : World) (b : Nat) {x y : Value} (h : Box2 w b x y) (u : Value) : Box2 (w.setCell ⟨b, 1, none⟩ u) b x u := by
  obtain ⟨h0, h1, h2⟩ := h
  have s := one_set w b 1 u h2
  exact ⟨by simpa using h0, by rw [s.2 0 (by omega)]; exact h1, s.1⟩
theorem box2_block {w w' : World} {b : Nat} {x y : Value} (h : Box2 w b x y) (hz : w.heap.size ≤ w'.heap.size) (q : w'.heap[b]? = w.heap[b]?) : Box2 w' b x y :=
  ⟨Nat.lt_of_lt_of_le h.1 hz, by rw [World.cell?_of_block q]; exact h.2.1, by rw [World.cell?_of_block q]; exact h.2.2⟩
theorem cell_al {w : World} {o : Obj} {b j : Nat} {x : Value} (hb : b < w.heap.size) (h : w.cell? ⟨b, j, none⟩ = some x) : (w.alloc o).drew.cell? ⟨b, j, none⟩ = some x := (World.cell?_of_block (Below.heap_alloc _ _ _ hb)).trans h
theorem frz_al {w : World} {o : Obj} {b j : Nat} (hb : b < w.heap.size) (h : w.frozen? ⟨b, j, none⟩ = false) : (w.alloc o).drew.frozen? ⟨b, j, none⟩ = false := (World.frozen?_of_block (Below.heap_alloc _ _ _ hb)).trans h
theorem al (w : World) (o : Obj) : Below w.heap.size w (w.alloc o) := (Below.refl _ _).alloc (Nat.le_refl _) o
theorem lo_b {a w w' : World} {b : Nat} (h : Below b a w) (l : Below w.heap.size w w') (hb : b ≤ w.heap.size) : Below b a w' := h.trans (l.mono hb)
/-- A row of one pair, just made. -/
def Lit2 (w : World) (g : Nat) (y x : Int) : Prop := g < w.heap.size ∧ w.heap[g]? = some (.cells #[.int .i64 y, .int .i64 x] 75 (0, 0))
theorem lit2_new (w : World) (y x : Int) : Lit2 (w.alloc (.cells #[.int .i64 y, .int .i64 x] 75)) w.heap.size y x := ⟨by simp, heap_alloc_new w _⟩
def App2 (w : World) (b f : Nat) (u : Value) : Prop := w.cell? ⟨b, f, none⟩ = some u ∧ w.frozen? ⟨b, f, none⟩ = false
section
variable {w w1 : World} {b k g4 cap : Nat} {u v : Value} {xs ys : List (Int × Int)} {p q : Int}
/-- One more pair in the first row. -/
theorem Out2.app1 (h : Out2 w b u v xs ys) (hk : xs.length = k) (hown : w1.ownsRow (b + 1) 75 2 (.slice (some ⟨g4, 0, none⟩) (k + 1) cap) (k + 1) (cellsF xs ++ [.int .i64 p, .int .i64 q])) (hgrow : w.grownBy w1 u.ownBlock) (hat : u.ownBlock = some g4 ∨ g4 = w.heap.size) :
    App2 w1 b 0 u ∧ Out2 (w1.setCell ⟨b, 0, none⟩ (.slice (some ⟨g4, 0, none⟩) (k + 1) cap)) b (.slice (some ⟨g4, 0, none⟩) (k + 1) cap) v (xs ++ [(p, q)]) ys := by
  have hb := h.box.1
  have hz : w.heap.size ≤ w1.heap.size := hgrow.size
  have hub : ∀ g, u.ownBlock = some g → b + 1 ≤ g := fun g e => (h.r1.lt g e).1
  have hvb : ∀ g, v.ownBlock = some g → b + 1 ≤ g ∧ g < w.heap.size := fun g e => h.r2.lt g e
  have hb1 : w1.heap[b]? = w.heap[b]? := hgrow.block b (by omega) (fun e => by have := hub b e.symm; omega)
  have g4b : b + 1 ≤ g4 := by
    rcases hat with e | e
    · exact hub _ e
    · omega
  have hv4 : ∀ g, v.ownBlock = some g → g ≠ g4 := fun g e e4 => by
    subst e4
    rcases hat with e' | e'
    · exact h.ap g e' e
    · have := (hvb g e).2; omega
  refine ⟨⟨(World.cell?_of_block (a := ⟨b, 0, none⟩) hb1).trans h.box.2.1, (World.frozen?_of_block (a := ⟨b, 0, none⟩) hb1).trans (h.fz 0)⟩, set2_0 _ _ (box2_block h.box (by omega) hb1) _, fun j => by rw [World.frozen?_setCell, World.frozen?_of_block (a := ⟨b, j, none⟩) hb1]; exact h.fz j, ?_, ?_, fun g e => fun e' => hv4 g e' (Option.some.inj e).symm⟩
  · rw [List.length_append, hk, cellsF_app]
    exact ownsRow_set hown b 0 _ (fun e => by have e2 : g4 = b := Option.some.inj e; omega)
  · exact ownsRow_set (ownsRow_grown h.r2 hgrow (fun g e e' => h.ap g e' e)) b 0 _ (fun e => by have := (hvb b e).1; omega)
/-- One more pair in the second row. -/
theorem Out2.app2 (h : Out2 w b u v xs ys) (hk : ys.length = k) (hown : w1.ownsRow (b + 1) 75 2 (.slice (some ⟨g4, 0, none⟩) (k + 1) cap) (k + 1) (cellsF ys ++ [.int .i64 p, .int .i64 q])) (hgrow : w.grownBy w1 v.ownBlock) (hat : v.ownBlock = some g4 ∨ g4 = w.heap.size) :
    App2 w1 b 1 v ∧ Out2 (w1.setCell ⟨b, 1, none⟩ (.slice (some ⟨g4, 0, none⟩) (k + 1) cap)) b u (.slice (some ⟨g4, 0, none⟩) (k + 1) cap) xs (ys ++ [(p, q)]) := by
  have hb := h.box.1
  have hz : w.heap.size ≤ w1.heap.size := hgrow.size
  have hub : ∀ g, u.ownBlock = some g → b + 1 ≤ g ∧ g < w.heap.size := fun g e => h.r1.lt g e
  have hvb : ∀ g, v.ownBlock = some g → b + 1 ≤ g := fun g e => (h.r2.lt g e).1
  have hb1 : w1.heap[b]? = w.heap[b]? := hgrow.block b (by omega) (fun e => by have := hvb b e.symm; omega)
  have g4b : b + 1 ≤ g4 := by
    rcases hat with e | e
    · exact hvb _ e
    · omega
  have hu4 : ∀ g, u.ownBlock = some g → g ≠ g4 := fun g e e4 => by
    subst e4
    rcases hat with e' | e'
    · exact h.ap g e e'
    · have := (hub g e).2; omega
  refine ⟨⟨(World.cell?_of_block (a := ⟨b, 1, none⟩) hb1).trans h.box.2.2, (World.frozen?_of_block (a := ⟨b, 1, none⟩) hb1).trans (h.fz 1)⟩, set2_1 _ _ (box2_block h.box (by omega) hb1) _, fun j => by rw [World.frozen?_setCell, World.frozen?_of_block (a := ⟨b, j, none⟩) hb1]; exact h.fz j, ?_, ?_, fun g e => fun e' => hu4 g e (Option.some.inj e').symm⟩
  · exact ownsRow_set (ownsRow_grown h.r1 hgrow (fun g e e' => h.ap g e e')) b 1 _ (fun e => by have := (hub b e).1; omega)
  · rw [List.length_append, hk, cellsF_app]
    exact ownsRow_set hown b 1 _ (fun e => by have e2 : g4 = b := Option.some.inj e; omega)
end
def swapL (xs : List (Int × Int)) : List (Int × Int) := xs.map (fun p => (p.2, p.1))
noncomputable def mirM (m : MobV) : MobV := if goodB m = true then ⟨swapL m.am, swapL m.hu⟩ else nilM
theorem swap_snoc (xs : List (Int × Int)) (k : Nat) (hk : k < xs.length) : swapL (xs.take (k + 1)) = swapL (xs.take k) ++ [((xs.getD k (0, 0)).2, (xs.getD k (0, 0)).1)] := by
  unfold swapL
  rw [List.take_add_one, List.getElem?_eq_getElem hk, List.getD, List.getElem?_eq_getElem hk, List.map_append]
  rfl
theorem swap_len (xs : List (Int × Int)) : (swapL xs).length = xs.length := List.length_map ..
set_option maxRecDepth 100000 in
set_option maxHeartbeats 6400000 in
theorem specMirror_yes (v : Value) (m : MobV) (w : World) (hv : MobRow w v m) (hb : BndM m) (hf : MobF m) :
    Calls Try.prog 46 #[v] w fun e w' => ∃ u, e = .returned (.tuple #[u, .bool true]) ∧ MobRow w' u ⟨swapL m.am, swapL m.hu⟩ ∧ Below w.heap.size w w' := by
  have hg : goodB m = true := (goodB_iff m).2 hf
  have h1 := hf.one
  have h6 := hf.short
  have hs := hf.same
  have D := Lib.hid (fun w1 (l : Below w.heap.size w w1) => l5Good_any v m w1 (hv.lo l) hf.small hb)
  rw [hg] at D
  obtain ⟨av, bv, rfl, ha, hh⟩ := hv
  obtain ⟨g, off, c, rfl, hgg, hca⟩ := pair_at ha (by omega)
  obtain ⟨g', off', c', rfl, hgg', hch⟩ := pair_at hh (by omega)
  obtain ⟨n, hn⟩ : ∃ n, m.am.length = n := ⟨_, rfl⟩
  have EC := Lib.hid (fun i e (h1 : i < n) (h2 : e < 2) => end_cells hn (hs.trans hn) hca hch i e h1 h2)
  have S1 := Lib.hid (fun k (h : k < n) => (show swapL (m.am.take (k + 1)) = swapL (m.am.take k) ++ [(avM m (2 * k + 1), avM m (2 * k))] by rw [swap_snoc _ k (by omega), (hv_even m k).2, (hv_odd m k).2]))
  have S2 := Lib.hid (fun k (h : k < n) => (show swapL (m.hu.take (k + 1)) = swapL (m.hu.take k) ++ [(hvM m (2 * k + 1), hvM m (2 * k))] by rw [swap_snoc _ k (by omega), (hv_even m k).1, (hv_odd m k).1]))
  have LA := Lib.hid (fun k (h : k ≤ n) => show (swapL (m.am.take k)).length = k by rw [swap_len, List.length_take]; omega)
  have LB := Lib.hid (fun k (h : k ≤ n) => show (swapL (m.hu.take k)).length = k by rw [swap_len, List.length_take]; omega)
  have TA := Lib.hid (show m.am.take n = m.am from List.take_of_length_le (by omega))
  have TB := Lib.hid (show m.hu.take n = m.hu from List.take_of_length_le (by omega))
  obtain ⟨W, hW⟩ : ∃ W, (w.alloc (.cells #[.slice (some ⟨g, off, none⟩) n c, .slice (some ⟨g', off', none⟩) n c'] 27)).alloc (.cells #[.slice none 0 0, .slice none 0 0] 27) = W := ⟨_, rfl⟩
  have LW := Lib.hid (show Below w.heap.size w W by rw [← hW]; exact ((Below.refl _ _).alloc (Nat.le_refl _) _).alloc (by simp) _)
  have BX := Lib.hid (show Box2 W w.heap.size (.slice (some ⟨g, off, none⟩) n c) (.slice (some ⟨g', off', none⟩) n c') by rw [← hW]; exact (box2_new _ _ _ _).lo ((Below.refl _ _).alloc (Nat.le_refl _) _))
  have BY := Lib.hid (show Box2 W (w.heap.size + 1) (.slice none 0 0) (.slice none 0 0) by rw [← hW]; have := box2_new (w.alloc (.cells #[.slice (some ⟨g, off, none⟩) n c, .slice (some ⟨g', off', none⟩) n c'] 27)) (.slice none 0 0) (.slice none 0 0) 27; simpa using this)
  have FY := Lib.hid (show ∀ j, W.frozen? ⟨w.heap.size + 1, j, none⟩ = false by rw [← hW]; exact fun j => World.frozen?_alloc_at _ _ _ _ (by simp))
  rw [hs, hn] at D
  rw [hs, hn]
  rw [hn] at h1 h6
  have D1 := Lib.hid (D.out W LW.out)
  have bx0 : w.heap.size < W.heap.size := BX.out.1
  have by0 : w.heap.size + 1 < W.heap.size := BY.out.1
  obtain ⟨i0, hi, hz0, hz1, hz2⟩ := info_parts infoA2
  clear ha hh hca hch hs hn hf hg D hb
  obtain ⟨_, u0, u1⟩ := BX.out
  go_enter Try.func46, Try.ntmps46
  go_wp2_with fail
  clear hW u0 u1
  refine D1.out.mono ?_
  rintro eq1 w1 ⟨rfl, l1⟩
  have L1 := Lib.hid l1
  have hbb : W.heap.size ≤ w1.heap.size := l1.size
  obtain ⟨b, hbe⟩ : ∃ b, w1.heap.size = b := ⟨_, rfl⟩
  have OZ := Lib.hid (out2_new w1)
  have LZ := Lib.hid (show Below w1.heap.size w1 _ from (Below.refl _ _).alloc (Nat.le_refl _) (.cells #[.slice none 0 0, .slice none 0 0] 27))
  clear l1 D1
  have HBE := Lib.hid hbe
  have hwb : W.heap.size ≤ b := by omega
  clear hbb
  go_wp2_with fail
  have OZ2 := Lib.hid (show Out2 (w1.alloc (Obj.cells #[Value.slice none 0 0, Value.slice none 0 0] 27)) b (.slice none 0 0) (.slice none 0 0) (swapL (m.am.take 0)) (swapL (m.hu.take 0)) by rw [← hbe]; exact OZ.out)
  have LZ2 := Lib.hid (show Below b w1 (w1.alloc (Obj.cells #[Value.slice none 0 0, Value.slice none 0 0] 27)) by rw [← hbe]; exact LZ.out)
  clear hbe OZ LZ
  go_loopw [5] (fun x wr => ∃ (k : Nat) (u v : Value), k ≤ n ∧ x = .int .i64 k ∧ Hid (Out2 wr b u v (swapL (m.am.take k)) (swapL (m.hu.take k))) ∧ Hid (Below b w1 wr)) (fun x _ => n - (intOf x).toNat)
  case atStart => exact ⟨0, _, _, Nat.zero_le _, rfl, OZ2, LZ2⟩
  case round =>
    obtain ⟨k, uu, vv, hk, rfl, HR, HL⟩ := hrel
    clear OZ2 LZ2
    have LX := LW.out.trans ((L1.out.trans (HL.out.mono hwb)).mono LW.out.size)
    have LWX := Lib.hid (L1.out.trans (HL.out.mono hwb))
    obtain ⟨wx, rfl⟩ : ∃ wx : World, wx = wr := ⟨_, rfl⟩
    obtain ⟨_, u0, u1⟩ := BX.out.lo LWX.out
    obtain ⟨aa, ac, ba, bc, ef1, ef2⟩ := HR.out.form
    rw [LA.out k hk] at ef1
    rw [LB.out k hk] at ef2
    subst ef1 ef2
    by_cases hlt : k < n
    · have hlt' : (k : Int) < (n : Int) := by omega
      have HS1 := S1.out k hlt
      have HS2 := S2.out k hlt
      have CE0 := Lib.hid (fun X (l : Below b w1 X) => show X.cell? ⟨g, off + k * 2, none⟩ = some (.int .i64 (avM m (2 * k))) ∧ X.cell? ⟨g, off + k * 2 + 1, none⟩ = some (.int .i64 (avM m (2 * k + 1))) by
        have LX := LW.out.trans ((L1.out.trans (l.mono hwb)).mono LW.out.size)
        rw [LX.cell (p := ⟨g, off + k * 2, none⟩) hgg, LX.cell (p := ⟨g, off + k * 2 + 1, none⟩) hgg]
        exact ⟨(EC.out k 0 hlt (by omega)).1, (EC.out k 1 hlt (by omega)).1⟩)
      have CE1 := Lib.hid (fun X (l : Below b w1 X) => show X.cell? ⟨g', off' + k * 2, none⟩ = some (.int .i64 (hvM m (2 * k))) ∧ X.cell? ⟨g', off' + k * 2 + 1, none⟩ = some (.int .i64 (hvM m (2 * k + 1))) by
        have LX := LW.out.trans ((L1.out.trans (l.mono hwb)).mono LW.out.size)
        rw [LX.cell (p := ⟨g', off' + k * 2, none⟩) hgg', LX.cell (p := ⟨g', off' + k * 2 + 1, none⟩) hgg']
        exact ⟨(EC.out k 0 hlt (by omega)).2, (EC.out k 1 hlt (by omega)).2⟩)
      obtain ⟨x, hx⟩ : ∃ p, avM m (2 * k) = p := ⟨_, rfl⟩
      obtain ⟨y, hy⟩ : ∃ q, avM m (2 * k + 1) = q := ⟨_, rfl⟩
      obtain ⟨p, hp⟩ : ∃ p, hvM m (2 * k) = p := ⟨_, rfl⟩
      obtain ⟨q, hq⟩ : ∃ q, hvM m (2 * k + 1) = q := ⟨_, rfl⟩
      rw [hx, hy] at CE0 HS1
      rw [hp, hq] at CE1 HS2
      obtain ⟨X1, hX1⟩ : ∃ X, swapL (m.am.take k) = X := ⟨_, rfl⟩
      obtain ⟨Y1, hY1⟩ : ∃ X, swapL (m.hu.take k) = X := ⟨_, rfl⟩
      have hl1 := LA.out k hk
      have hl2 := LB.out k hk
      rw [hX1] at HR HS1 hl1
      rw [hY1] at HR HS2 hl2
      have HT1 := Lib.hid HS1
      have HT2 := Lib.hid HS2
      have HL1 := Lib.hid hl1
      have HL2 := Lib.hid hl2
      have HO := Lib.hid HR.out
      have LR := Lib.hid HL.out
      have hbR : b ≤ wx.heap.size := by have := HL.out.size; have := HBE.out; omega
      clear HS1 HS2 hl1 hl2 hX1 hY1 hx hy hp hq LX u1
      go_wp2
      refine wp_region_inv (by kernel_rfl) (by kernel_rfl) (fun D a X => ∃ (t18 t19 t20 t21 t22 t23 t24 t25 t26 t27 t28 t29 t30 t31 t32 t33 t34 t35 : Value) (g15 g16 k16 : Nat), a = (⟨#[(.agg #[.slice (some ⟨g, off, none⟩) n c, .slice (some ⟨g', off', none⟩) n c']), .pointer (some ⟨w.heap.size, 0, none⟩), .pointer (some ⟨w.heap.size + 1, 0, none⟩), .bool false, .pointer (some ⟨b, 0, none⟩), .int .i64 (k : Int), (.agg #[.slice (some ⟨g, off, none⟩) n c, .slice (some ⟨g', off', none⟩) n c']), .bool true, .bool false, undef, .agg #[.slice none 0 0, .slice none 0 0], .int .i64 (k : Int), .pointer (some ⟨w.heap.size, 0, none⟩), .slice (some ⟨g, off, none⟩) n c, .int .i64 (n : Int), .bool true, u16, u17, t18, t19, t20, t21, t22, t23, t24, t25, t26, t27, t28, t29, t30, t31, t32, t33, t34, t35, u36, u37, u38, u39, u40, u41, u42, u43, u44, u45, u46, u47, u48, u49, u50, u51, u52, u53, undef], []⟩ : Act) ∧ (D 18 → ∃ qq cp, Hid (Out2 X b (.slice (some ⟨qq, 0, none⟩) (k + 1) cp) (.slice ba k bc) (X1 ++ [(y, x)]) Y1 ∧ Below b w1 X)) ∧ (¬ D 18 → Hid (Below b w1 X) ∧ (D 0 → (t18 = .pointer (some ⟨b, 0, none⟩))) ∧ (D 1 → (t19 = (.slice aa k ac))) ∧ (D 2 → (t20 = .pointer (some ⟨w.heap.size, 0, none⟩))) ∧ (D 3 → (t21 = .slice (some ⟨g, off, none⟩) n c)) ∧ (D 4 → (t22 = .int .i64 (k : Int))) ∧ (D 5 → (t23 = .pointer (some ⟨g, off + k * 2, none⟩))) ∧ (D 6 → (t24 = .pointer (some ⟨g, off + k * 2 + 1, none⟩))) ∧ (D 7 → (t25 = .int .i64 y)) ∧ (D 8 → (t26 = .pointer (some ⟨w.heap.size, 0, none⟩))) ∧ (D 9 → (t27 = .slice (some ⟨g, off, none⟩) n c)) ∧ (D 10 → (t28 = .int .i64 (k : Int))) ∧ (D 11 → (t29 = .pointer (some ⟨g, off + k * 2, none⟩))) ∧ (D 12 → (t30 = .pointer (some ⟨g, off + k * 2, none⟩))) ∧ (D 13 → (t31 = .int .i64 x)) ∧ (D 14 → (t32 = .agg #[.int .i64 y, .int .i64 x])) ∧ (D 15 → ¬ D 16 → (t33 = .slice (some ⟨g15, 0, none⟩) 1 1 ∧ Lit2 X g15 y x)) ∧ (D 16 → (t34 = (.slice (some ⟨g16, 0, none⟩) (k + 1) k16) ∧ App2 X b 0 (.slice aa k ac) ∧ Out2 (X.setCell ⟨b, 0, none⟩ (.slice (some ⟨g16, 0, none⟩) (k + 1) k16)) b (.slice (some ⟨g16, 0, none⟩) (k + 1) k16) (.slice ba k bc) (X1 ++ [(y, x)]) Y1)) ∧ (D 17 → (t35 = .pointer (some ⟨b, 0, none⟩))) ∧ (¬ D 16 → (Out2 X b (.slice aa k ac) (.slice ba k bc) X1 Y1)))) ?_ ?_ ?_
      · exact ⟨_, _, _, _, _, _, _, _, _, _, _, _, _, _, _, _, _, _, 0, 0, 0, rfl, fun h => h.elim, fun _ => ⟨Lib.hid (LR.out.trans (drew_below _ |>.mono hbR)), fun h => h.elim, fun h => h.elim, fun h => h.elim, fun h => h.elim, fun h => h.elim, fun h => h.elim, fun h => h.elim, fun h => h.elim, fun h => h.elim, fun h => h.elim, fun h => h.elim, fun h => h.elim, fun h => h.elim, fun h => h.elim, fun h => h.elim, fun h => h.elim, fun h => h.elim, fun h => h.elim, fun _ => HO.out.lo (drew_below _)⟩⟩
      · refine (show ∀ i, i < 19 → StepAt _ _ _ _ _ i from ?_)
        refine lt_more (n := 18) ?_ (lt_more (n := 17) ?_ (lt_more (n := 16) ?_ (lt_more (n := 15) ?_ (lt_more (n := 14) ?_ (lt_more (n := 13) ?_ (lt_more (n := 12) ?_ (lt_more (n := 11) ?_ (lt_more (n := 10) ?_ (lt_more (n := 9) ?_ (lt_more (n := 8) ?_ (lt_more (n := 7) ?_ (lt_more (n := 6) ?_ (lt_more (n := 5) ?_ (lt_more (n := 4) ?_ (lt_more (n := 3) ?_ (lt_more (n := 2) ?_ (lt_more (n := 1) ?_ (lt_more (n := 0) ?_ lt_none))))))))))))))))))
        · refine step_of _ [17, 16, 16, 0, 1, 2, 3, 4, 5, 6, 7, 8, 9, 10, 11, 12, 13, 14, 15, 16] [] rfl (by kernel_rfl) (by kernel_rfl) ?_
          rintro D a X hn hd hc ⟨t18, t19, t20, t21, t22, t23, t24, t25, t26, t27, t28, t29, t30, t31, t32, t33, t34, t35, g15, g16, k16, rfl, _, hrest⟩ K' hK
          have nl := hn
          obtain ⟨LX, c0, c1, c2, c3, c4, c5, c6, c7, c8, c9, c10, c11, c12, c13, c14, c15, c16, c17, cO⟩ := hrest nl
          clear hrest
          have d0 := hd 0 (by simp)
          have d1 := hd 1 (by simp)
          have d2 := hd 2 (by simp)
          have d3 := hd 3 (by simp)
          have d4 := hd 4 (by simp)
          have d5 := hd 5 (by simp)
          have d6 := hd 6 (by simp)
          have d7 := hd 7 (by simp)
          have d8 := hd 8 (by simp)
          have d9 := hd 9 (by simp)
          have d10 := hd 10 (by simp)
          have d11 := hd 11 (by simp)
          have d12 := hd 12 (by simp)
          have d13 := hd 13 (by simp)
          have d14 := hd 14 (by simp)
          have d15 := hd 15 (by simp)
          have d16 := hd 16 (by simp)
          have d17 := hd 17 (by simp)
          clear hd hc
          obtain ⟨rfl, ⟨a0, a1⟩, a2⟩ := c16 d16
          obtain rfl := c17 d17
          go_simp
          refine hK _ _ ⟨_, _, _, _, _, _, _, _, _, _, _, _, _, _, _, _, _, _, g15, g16, k16, by first | rfl | simp [Act.put], fun _ => ?_, fun m => absurd (.inl rfl) m⟩
          exact ⟨g16, k16, Lib.hid ⟨a2, LX.out.setCell (p := ⟨b, 0, none⟩) (Nat.le_refl _) _⟩⟩
        · refine step_of _ [0, 1, 2, 3, 4, 5, 6, 7, 8, 9, 10, 11, 12, 13, 14, 15, 16] [(18, 17)] rfl (by kernel_rfl) (by kernel_rfl) ?_
          rintro D a X hn hd hc ⟨t18, t19, t20, t21, t22, t23, t24, t25, t26, t27, t28, t29, t30, t31, t32, t33, t34, t35, g15, g16, k16, rfl, _, hrest⟩ K' hK
          have nl : ¬ D 18 := fun h => hn (hc (18, 17) (by simp) h)
          obtain ⟨LX, c0, c1, c2, c3, c4, c5, c6, c7, c8, c9, c10, c11, c12, c13, c14, c15, c16, c17, cO⟩ := hrest nl
          clear hrest
          have d0 := hd 0 (by simp)
          have d1 := hd 1 (by simp)
          have d2 := hd 2 (by simp)
          have d3 := hd 3 (by simp)
          have d4 := hd 4 (by simp)
          have d5 := hd 5 (by simp)
          have d6 := hd 6 (by simp)
          have d7 := hd 7 (by simp)
          have d8 := hd 8 (by simp)
          have d9 := hd 9 (by simp)
          have d10 := hd 10 (by simp)
          have d11 := hd 11 (by simp)
          have d12 := hd 12 (by simp)
          have d13 := hd 13 (by simp)
          have d14 := hd 14 (by simp)
          have d15 := hd 15 (by simp)
          have d16 := hd 16 (by simp)
          clear hd hc
          go_simp
          refine hK _ _ ⟨_, _, _, _, _, _, _, _, _, _, _, _, _, _, _, _, _, _, g15, g16, k16, by first | rfl | simp [Act.put], fun h => (nl (h.resolve_left (by decide))).elim, fun _ => ⟨LX, ?c0, ?c1, ?c2, ?c3, ?c4, ?c5, ?c6, ?c7, ?c8, ?c9, ?c10, ?c11, ?c12, ?c13, ?c14, ?c15, ?c16, ?c17, ?cO⟩⟩
          case c0 => exact fun h0 => c0 (h0.resolve_left (by decide))
          case c1 => exact fun h1 => c1 (h1.resolve_left (by decide))
          case c2 => exact fun h2 => c2 (h2.resolve_left (by decide))
          case c3 => exact fun h3 => c3 (h3.resolve_left (by decide))
          case c4 => exact fun h4 => c4 (h4.resolve_left (by decide))
          case c5 => exact fun h5 => c5 (h5.resolve_left (by decide))
          case c6 => exact fun h6 => c6 (h6.resolve_left (by decide))
          case c7 => exact fun h7 => c7 (h7.resolve_left (by decide))
          case c8 => exact fun h8 => c8 (h8.resolve_left (by decide))
          case c9 => exact fun h9 => c9 (h9.resolve_left (by decide))
          case c10 => exact fun h10 => c10 (h10.resolve_left (by decide))
          case c11 => exact fun h11 => c11 (h11.resolve_left (by decide))
          case c12 => exact fun h12 => c12 (h12.resolve_left (by decide))
          case c13 => exact fun h13 => c13 (h13.resolve_left (by decide))
          case c14 => exact fun h14 => c14 (h14.resolve_left (by decide))
          case c15 => exact fun h15 m16 => c15 (h15.resolve_left (by decide)) (fun q => m16 (.inr q))
          case c16 => exact fun h16 => c16 (h16.resolve_left (by decide))
          case c17 => exact fun h17 => rfl
          case cO => exact fun m16 => cO (fun q => m16 (.inr q))
        · refine step_of _ [1, 15] [(18, 16)] rfl (by kernel_rfl) (by kernel_rfl) ?_
          rintro D a X hn hd hc ⟨t18, t19, t20, t21, t22, t23, t24, t25, t26, t27, t28, t29, t30, t31, t32, t33, t34, t35, g15, g16, k16, rfl, _, hrest⟩ K' hK
          have nl : ¬ D 18 := fun h => hn (hc (18, 16) (by simp) h)
          obtain ⟨LX, c0, c1, c2, c3, c4, c5, c6, c7, c8, c9, c10, c11, c12, c13, c14, c15, c16, c17, cO⟩ := hrest nl
          clear hrest
          have d1 := hd 1 (by simp)
          have d15 := hd 15 (by simp)
          clear hd hc
          have hbX : b ≤ X.heap.size := by have := LX.out.size; have := HBE.out; omega
          obtain rfl := c1 d1
          obtain ⟨rfl, r15⟩ := c15 d15 hn
          have hO := cO hn
          have hOr := hO.r1
          rw [HL1.out] at hOr
          refine step_append_lies _ (by rfl) _ _ _ (by rfl) (b + 1) 75 i0 _ 2 16 Try.underlying22 hi hz0 hz1 hz2 rfl (by omega) (.slice aa k ac) k (cellsF X1) (by rfl) hOr ⟨g15, 0, none⟩ 1 1 [.int .i64 y, .int .i64 x] (by rfl) (by rfl) (World.news_of_block (cs := #[.int .i64 y, .int .i64 x]) (t := 75) (fr := (0, 0)) r15.2) (by simp [Value.oneCell']) (by omega) (by unfold maxLen; omega) (by omega) (by have := hO.box.1; omega) X.heap.size rfl ?_
          intro g16' k16' X5 hown hgrow hat hlt
          have hA := hO.app1 HL1.out hown hgrow hat
          refine hK _ _ ⟨_, _, _, _, _, _, _, _, _, _, _, _, _, _, _, _, _, _, g15, g16', k16', by first | rfl | simp [Act.put], fun h => (nl (h.resolve_left (by decide))).elim, fun _ => ⟨Lib.hid (LX.out.grown hgrow hbX (fun q hq => by have := (hOr.lt q hq).1; omega)), ?c0, ?c1, ?c2, ?c3, ?c4, ?c5, ?c6, ?c7, ?c8, ?c9, ?c10, ?c11, ?c12, ?c13, ?c14, ?c15, ?c16, ?c17, ?cO⟩⟩
          case c0 => exact fun h0 => c0 (h0.resolve_left (by decide))
          case c1 => exact fun h1 => c1 (h1.resolve_left (by decide))
          case c2 => exact fun h2 => c2 (h2.resolve_left (by decide))
          case c3 => exact fun h3 => c3 (h3.resolve_left (by decide))
          case c4 => exact fun h4 => c4 (h4.resolve_left (by decide))
          case c5 => exact fun h5 => c5 (h5.resolve_left (by decide))
          case c6 => exact fun h6 => c6 (h6.resolve_left (by decide))
          case c7 => exact fun h7 => c7 (h7.resolve_left (by decide))
          case c8 => exact fun h8 => c8 (h8.resolve_left (by decide))
          case c9 => exact fun h9 => c9 (h9.resolve_left (by decide))
          case c10 => exact fun h10 => c10 (h10.resolve_left (by decide))
          case c11 => exact fun h11 => c11 (h11.resolve_left (by decide))
          case c12 => exact fun h12 => c12 (h12.resolve_left (by decide))
          case c13 => exact fun h13 => c13 (h13.resolve_left (by decide))
          case c14 => exact fun h14 => c14 (h14.resolve_left (by decide))
          case c15 => exact fun h15 m16 => absurd (.inl rfl) m16
          case c16 => exact fun h16 => ⟨rfl, hA⟩
          case c17 => exact fun h17 => c17 (h17.resolve_left (by decide))
          case cO => exact fun m16 => absurd (.inl rfl) m16
        · refine step_of _ [14] [(18, 15), (16, 15)] rfl (by kernel_rfl) (by kernel_rfl) ?_
          rintro D a X hn hd hc ⟨t18, t19, t20, t21, t22, t23, t24, t25, t26, t27, t28, t29, t30, t31, t32, t33, t34, t35, g15, g16, k16, rfl, _, hrest⟩ K' hK
          have nl : ¬ D 18 := fun h => hn (hc (18, 15) (by simp) h)
          obtain ⟨LX, c0, c1, c2, c3, c4, c5, c6, c7, c8, c9, c10, c11, c12, c13, c14, c15, c16, c17, cO⟩ := hrest nl
          clear hrest
          have d14 := hd 14 (by simp)
          have e16_15 := hc (16, 15) (by simp)
          clear hd hc
          have hbX : b ≤ X.heap.size := by have := LX.out.size; have := HBE.out; omega
          obtain rfl := c14 d14
          have l := al X (.cells #[.int .i64 y, .int .i64 x] 75)
          go_simp
          refine hK _ _ ⟨_, _, _, _, _, _, _, _, _, _, _, _, _, _, _, _, _, _, X.heap.size, g16, k16, by first | rfl | simp [Act.put], fun h => (nl (h.resolve_left (by decide))).elim, fun _ => ⟨Lib.hid (lo_b LX.out l hbX), ?c0, ?c1, ?c2, ?c3, ?c4, ?c5, ?c6, ?c7, ?c8, ?c9, ?c10, ?c11, ?c12, ?c13, ?c14, ?c15, ?c16, ?c17, ?cO⟩⟩
          case c0 => exact fun h0 => c0 (h0.resolve_left (by decide))
          case c1 => exact fun h1 => c1 (h1.resolve_left (by decide))
          case c2 => exact fun h2 => c2 (h2.resolve_left (by decide))
          case c3 => exact fun h3 => c3 (h3.resolve_left (by decide))
          case c4 => exact fun h4 => c4 (h4.resolve_left (by decide))
          case c5 => exact fun h5 => c5 (h5.resolve_left (by decide))
          case c6 => exact fun h6 => c6 (h6.resolve_left (by decide))
          case c7 => exact fun h7 => c7 (h7.resolve_left (by decide))
          case c8 => exact fun h8 => c8 (h8.resolve_left (by decide))
          case c9 => exact fun h9 => c9 (h9.resolve_left (by decide))
          case c10 => exact fun h10 => c10 (h10.resolve_left (by decide))
          case c11 => exact fun h11 => c11 (h11.resolve_left (by decide))
          case c12 => exact fun h12 => c12 (h12.resolve_left (by decide))
          case c13 => exact fun h13 => c13 (h13.resolve_left (by decide))
          case c14 => exact fun h14 => c14 (h14.resolve_left (by decide))
          case c15 => exact fun h15 m16 => ⟨rfl, lit2_new X y x⟩
          case c16 => exact fun h16 => (hn (e16_15 (h16.resolve_left (by decide)))).elim
          case c17 => exact fun h17 => c17 (h17.resolve_left (by decide))
          case cO => exact fun m16 => (cO (fun q => m16 (.inr q))).lo l
        · refine step_of _ [7, 13] [(18, 14)] rfl (by kernel_rfl) (by kernel_rfl) ?_
          rintro D a X hn hd hc ⟨t18, t19, t20, t21, t22, t23, t24, t25, t26, t27, t28, t29, t30, t31, t32, t33, t34, t35, g15, g16, k16, rfl, _, hrest⟩ K' hK
          have nl : ¬ D 18 := fun h => hn (hc (18, 14) (by simp) h)
          obtain ⟨LX, c0, c1, c2, c3, c4, c5, c6, c7, c8, c9, c10, c11, c12, c13, c14, c15, c16, c17, cO⟩ := hrest nl
          clear hrest
          have d7 := hd 7 (by simp)
          have d13 := hd 13 (by simp)
          clear hd hc
          obtain rfl := c7 d7
          obtain rfl := c13 d13
          go_simp
          refine hK _ _ ⟨_, _, _, _, _, _, _, _, _, _, _, _, _, _, _, _, _, _, g15, g16, k16, by first | rfl | simp [Act.put], fun h => (nl (h.resolve_left (by decide))).elim, fun _ => ⟨LX, ?c0, ?c1, ?c2, ?c3, ?c4, ?c5, ?c6, ?c7, ?c8, ?c9, ?c10, ?c11, ?c12, ?c13, ?c14, ?c15, ?c16, ?c17, ?cO⟩⟩
          case c0 => exact fun h0 => c0 (h0.resolve_left (by decide))
          case c1 => exact fun h1 => c1 (h1.resolve_left (by decide))
          case c2 => exact fun h2 => c2 (h2.resolve_left (by decide))
          case c3 => exact fun h3 => c3 (h3.resolve_left (by decide))
          case c4 => exact fun h4 => c4 (h4.resolve_left (by decide))
          case c5 => exact fun h5 => c5 (h5.resolve_left (by decide))
          case c6 => exact fun h6 => c6 (h6.resolve_left (by decide))
          case c7 => exact fun h7 => c7 (h7.resolve_left (by decide))
          case c8 => exact fun h8 => c8 (h8.resolve_left (by decide))
          case c9 => exact fun h9 => c9 (h9.resolve_left (by decide))
          case c10 => exact fun h10 => c10 (h10.resolve_left (by decide))
          case c11 => exact fun h11 => c11 (h11.resolve_left (by decide))
          case c12 => exact fun h12 => c12 (h12.resolve_left (by decide))
          case c13 => exact fun h13 => c13 (h13.resolve_left (by decide))
          case c14 => exact fun h14 => rfl
          case c15 => exact fun h15 m16 => c15 (h15.resolve_left (by decide)) (fun q => m16 (.inr q))
          case c16 => exact fun h16 => c16 (h16.resolve_left (by decide))
          case c17 => exact fun h17 => c17 (h17.resolve_left (by decide))
          case cO => exact fun m16 => cO (fun q => m16 (.inr q))
        · refine step_of _ [12] [(18, 13)] rfl (by kernel_rfl) (by kernel_rfl) ?_
          rintro D a X hn hd hc ⟨t18, t19, t20, t21, t22, t23, t24, t25, t26, t27, t28, t29, t30, t31, t32, t33, t34, t35, g15, g16, k16, rfl, _, hrest⟩ K' hK
          have nl : ¬ D 18 := fun h => hn (hc (18, 13) (by simp) h)
          obtain ⟨LX, c0, c1, c2, c3, c4, c5, c6, c7, c8, c9, c10, c11, c12, c13, c14, c15, c16, c17, cO⟩ := hrest nl
          clear hrest
          have d12 := hd 12 (by simp)
          clear hd hc
          obtain rfl := c12 d12
          obtain ⟨y0, y1⟩ := CE0.out X LX.out
          go_simp
          refine hK _ _ ⟨_, _, _, _, _, _, _, _, _, _, _, _, _, _, _, _, _, _, g15, g16, k16, by first | rfl | simp [Act.put], fun h => (nl (h.resolve_left (by decide))).elim, fun _ => ⟨LX, ?c0, ?c1, ?c2, ?c3, ?c4, ?c5, ?c6, ?c7, ?c8, ?c9, ?c10, ?c11, ?c12, ?c13, ?c14, ?c15, ?c16, ?c17, ?cO⟩⟩
          case c0 => exact fun h0 => c0 (h0.resolve_left (by decide))
          case c1 => exact fun h1 => c1 (h1.resolve_left (by decide))
          case c2 => exact fun h2 => c2 (h2.resolve_left (by decide))
          case c3 => exact fun h3 => c3 (h3.resolve_left (by decide))
          case c4 => exact fun h4 => c4 (h4.resolve_left (by decide))
          case c5 => exact fun h5 => c5 (h5.resolve_left (by decide))
          case c6 => exact fun h6 => c6 (h6.resolve_left (by decide))
          case c7 => exact fun h7 => c7 (h7.resolve_left (by decide))
          case c8 => exact fun h8 => c8 (h8.resolve_left (by decide))
          case c9 => exact fun h9 => c9 (h9.resolve_left (by decide))
          case c10 => exact fun h10 => c10 (h10.resolve_left (by decide))
          case c11 => exact fun h11 => c11 (h11.resolve_left (by decide))
          case c12 => exact fun h12 => c12 (h12.resolve_left (by decide))
          case c13 => exact fun h13 => rfl
          case c14 => exact fun h14 => c14 (h14.resolve_left (by decide))
          case c15 => exact fun h15 m16 => c15 (h15.resolve_left (by decide)) (fun q => m16 (.inr q))
          case c16 => exact fun h16 => c16 (h16.resolve_left (by decide))
          case c17 => exact fun h17 => c17 (h17.resolve_left (by decide))
          case cO => exact fun m16 => cO (fun q => m16 (.inr q))
        · refine step_of _ [11] [(18, 12)] rfl (by kernel_rfl) (by kernel_rfl) ?_
          rintro D a X hn hd hc ⟨t18, t19, t20, t21, t22, t23, t24, t25, t26, t27, t28, t29, t30, t31, t32, t33, t34, t35, g15, g16, k16, rfl, _, hrest⟩ K' hK
          have nl : ¬ D 18 := fun h => hn (hc (18, 12) (by simp) h)
          obtain ⟨LX, c0, c1, c2, c3, c4, c5, c6, c7, c8, c9, c10, c11, c12, c13, c14, c15, c16, c17, cO⟩ := hrest nl
          clear hrest
          have d11 := hd 11 (by simp)
          clear hd hc
          obtain rfl := c11 d11
          go_simp
          refine hK _ _ ⟨_, _, _, _, _, _, _, _, _, _, _, _, _, _, _, _, _, _, g15, g16, k16, by first | rfl | simp [Act.put], fun h => (nl (h.resolve_left (by decide))).elim, fun _ => ⟨LX, ?c0, ?c1, ?c2, ?c3, ?c4, ?c5, ?c6, ?c7, ?c8, ?c9, ?c10, ?c11, ?c12, ?c13, ?c14, ?c15, ?c16, ?c17, ?cO⟩⟩
          case c0 => exact fun h0 => c0 (h0.resolve_left (by decide))
          case c1 => exact fun h1 => c1 (h1.resolve_left (by decide))
          case c2 => exact fun h2 => c2 (h2.resolve_left (by decide))
          case c3 => exact fun h3 => c3 (h3.resolve_left (by decide))
          case c4 => exact fun h4 => c4 (h4.resolve_left (by decide))
          case c5 => exact fun h5 => c5 (h5.resolve_left (by decide))
          case c6 => exact fun h6 => c6 (h6.resolve_left (by decide))
          case c7 => exact fun h7 => c7 (h7.resolve_left (by decide))
          case c8 => exact fun h8 => c8 (h8.resolve_left (by decide))
          case c9 => exact fun h9 => c9 (h9.resolve_left (by decide))
          case c10 => exact fun h10 => c10 (h10.resolve_left (by decide))
          case c11 => exact fun h11 => c11 (h11.resolve_left (by decide))
          case c12 => exact fun h12 => rfl
          case c13 => exact fun h13 => c13 (h13.resolve_left (by decide))
          case c14 => exact fun h14 => c14 (h14.resolve_left (by decide))
          case c15 => exact fun h15 m16 => c15 (h15.resolve_left (by decide)) (fun q => m16 (.inr q))
          case c16 => exact fun h16 => c16 (h16.resolve_left (by decide))
          case c17 => exact fun h17 => c17 (h17.resolve_left (by decide))
          case cO => exact fun m16 => cO (fun q => m16 (.inr q))
        · refine step_of _ [9, 10] [(18, 11)] rfl (by kernel_rfl) (by kernel_rfl) ?_
          rintro D a X hn hd hc ⟨t18, t19, t20, t21, t22, t23, t24, t25, t26, t27, t28, t29, t30, t31, t32, t33, t34, t35, g15, g16, k16, rfl, _, hrest⟩ K' hK
          have nl : ¬ D 18 := fun h => hn (hc (18, 11) (by simp) h)
          obtain ⟨LX, c0, c1, c2, c3, c4, c5, c6, c7, c8, c9, c10, c11, c12, c13, c14, c15, c16, c17, cO⟩ := hrest nl
          clear hrest
          have d9 := hd 9 (by simp)
          have d10 := hd 10 (by simp)
          clear hd hc
          obtain rfl := c9 d9
          obtain rfl := c10 d10
          go_simp
          refine hK _ _ ⟨_, _, _, _, _, _, _, _, _, _, _, _, _, _, _, _, _, _, g15, g16, k16, by first | rfl | simp [Act.put], fun h => (nl (h.resolve_left (by decide))).elim, fun _ => ⟨LX, ?c0, ?c1, ?c2, ?c3, ?c4, ?c5, ?c6, ?c7, ?c8, ?c9, ?c10, ?c11, ?c12, ?c13, ?c14, ?c15, ?c16, ?c17, ?cO⟩⟩
          case c0 => exact fun h0 => c0 (h0.resolve_left (by decide))
          case c1 => exact fun h1 => c1 (h1.resolve_left (by decide))
          case c2 => exact fun h2 => c2 (h2.resolve_left (by decide))
          case c3 => exact fun h3 => c3 (h3.resolve_left (by decide))
          case c4 => exact fun h4 => c4 (h4.resolve_left (by decide))
          case c5 => exact fun h5 => c5 (h5.resolve_left (by decide))
          case c6 => exact fun h6 => c6 (h6.resolve_left (by decide))
          case c7 => exact fun h7 => c7 (h7.resolve_left (by decide))
          case c8 => exact fun h8 => c8 (h8.resolve_left (by decide))
          case c9 => exact fun h9 => c9 (h9.resolve_left (by decide))
          case c10 => exact fun h10 => c10 (h10.resolve_left (by decide))
          case c11 => exact fun h11 => rfl
          case c12 => exact fun h12 => c12 (h12.resolve_left (by decide))
          case c13 => exact fun h13 => c13 (h13.resolve_left (by decide))
          case c14 => exact fun h14 => c14 (h14.resolve_left (by decide))
          case c15 => exact fun h15 m16 => c15 (h15.resolve_left (by decide)) (fun q => m16 (.inr q))
          case c16 => exact fun h16 => c16 (h16.resolve_left (by decide))
          case c17 => exact fun h17 => c17 (h17.resolve_left (by decide))
          case cO => exact fun m16 => cO (fun q => m16 (.inr q))
        · refine step_of _ [] [(18, 10)] rfl (by kernel_rfl) (by kernel_rfl) ?_
          rintro D a X hn hd hc ⟨t18, t19, t20, t21, t22, t23, t24, t25, t26, t27, t28, t29, t30, t31, t32, t33, t34, t35, g15, g16, k16, rfl, _, hrest⟩ K' hK
          have nl : ¬ D 18 := fun h => hn (hc (18, 10) (by simp) h)
          obtain ⟨LX, c0, c1, c2, c3, c4, c5, c6, c7, c8, c9, c10, c11, c12, c13, c14, c15, c16, c17, cO⟩ := hrest nl
          clear hrest
          clear hd hc
          go_simp
          refine hK _ _ ⟨_, _, _, _, _, _, _, _, _, _, _, _, _, _, _, _, _, _, g15, g16, k16, by first | rfl | simp [Act.put], fun h => (nl (h.resolve_left (by decide))).elim, fun _ => ⟨LX, ?c0, ?c1, ?c2, ?c3, ?c4, ?c5, ?c6, ?c7, ?c8, ?c9, ?c10, ?c11, ?c12, ?c13, ?c14, ?c15, ?c16, ?c17, ?cO⟩⟩
          case c0 => exact fun h0 => c0 (h0.resolve_left (by decide))
          case c1 => exact fun h1 => c1 (h1.resolve_left (by decide))
          case c2 => exact fun h2 => c2 (h2.resolve_left (by decide))
          case c3 => exact fun h3 => c3 (h3.resolve_left (by decide))
          case c4 => exact fun h4 => c4 (h4.resolve_left (by decide))
          case c5 => exact fun h5 => c5 (h5.resolve_left (by decide))
          case c6 => exact fun h6 => c6 (h6.resolve_left (by decide))
          case c7 => exact fun h7 => c7 (h7.resolve_left (by decide))
          case c8 => exact fun h8 => c8 (h8.resolve_left (by decide))
          case c9 => exact fun h9 => c9 (h9.resolve_left (by decide))
          case c10 => exact fun h10 => rfl
          case c11 => exact fun h11 => c11 (h11.resolve_left (by decide))
          case c12 => exact fun h12 => c12 (h12.resolve_left (by decide))
          case c13 => exact fun h13 => c13 (h13.resolve_left (by decide))
          case c14 => exact fun h14 => c14 (h14.resolve_left (by decide))
          case c15 => exact fun h15 m16 => c15 (h15.resolve_left (by decide)) (fun q => m16 (.inr q))
          case c16 => exact fun h16 => c16 (h16.resolve_left (by decide))
          case c17 => exact fun h17 => c17 (h17.resolve_left (by decide))
          case cO => exact fun m16 => cO (fun q => m16 (.inr q))
        · refine step_of _ [8] [(18, 9)] rfl (by kernel_rfl) (by kernel_rfl) ?_
          rintro D a X hn hd hc ⟨t18, t19, t20, t21, t22, t23, t24, t25, t26, t27, t28, t29, t30, t31, t32, t33, t34, t35, g15, g16, k16, rfl, _, hrest⟩ K' hK
          have nl : ¬ D 18 := fun h => hn (hc (18, 9) (by simp) h)
          obtain ⟨LX, c0, c1, c2, c3, c4, c5, c6, c7, c8, c9, c10, c11, c12, c13, c14, c15, c16, c17, cO⟩ := hrest nl
          clear hrest
          have d8 := hd 8 (by simp)
          clear hd hc
          obtain rfl := c8 d8
          obtain ⟨_, x0, x1⟩ := BX.out.lo (L1.out.trans (LX.out.mono hwb))
          go_simp
          refine hK _ _ ⟨_, _, _, _, _, _, _, _, _, _, _, _, _, _, _, _, _, _, g15, g16, k16, by first | rfl | simp [Act.put], fun h => (nl (h.resolve_left (by decide))).elim, fun _ => ⟨LX, ?c0, ?c1, ?c2, ?c3, ?c4, ?c5, ?c6, ?c7, ?c8, ?c9, ?c10, ?c11, ?c12, ?c13, ?c14, ?c15, ?c16, ?c17, ?cO⟩⟩
          case c0 => exact fun h0 => c0 (h0.resolve_left (by decide))
          case c1 => exact fun h1 => c1 (h1.resolve_left (by decide))
          case c2 => exact fun h2 => c2 (h2.resolve_left (by decide))
          case c3 => exact fun h3 => c3 (h3.resolve_left (by decide))
          case c4 => exact fun h4 => c4 (h4.resolve_left (by decide))
          case c5 => exact fun h5 => c5 (h5.resolve_left (by decide))
          case c6 => exact fun h6 => c6 (h6.resolve_left (by decide))
          case c7 => exact fun h7 => c7 (h7.resolve_left (by decide))
          case c8 => exact fun h8 => c8 (h8.resolve_left (by decide))
          case c9 => exact fun h9 => rfl
          case c10 => exact fun h10 => c10 (h10.resolve_left (by decide))
          case c11 => exact fun h11 => c11 (h11.resolve_left (by decide))
          case c12 => exact fun h12 => c12 (h12.resolve_left (by decide))
          case c13 => exact fun h13 => c13 (h13.resolve_left (by decide))
          case c14 => exact fun h14 => c14 (h14.resolve_left (by decide))
          case c15 => exact fun h15 m16 => c15 (h15.resolve_left (by decide)) (fun q => m16 (.inr q))
          case c16 => exact fun h16 => c16 (h16.resolve_left (by decide))
          case c17 => exact fun h17 => c17 (h17.resolve_left (by decide))
          case cO => exact fun m16 => cO (fun q => m16 (.inr q))
        · refine step_of _ [] [(18, 8)] rfl (by kernel_rfl) (by kernel_rfl) ?_
          rintro D a X hn hd hc ⟨t18, t19, t20, t21, t22, t23, t24, t25, t26, t27, t28, t29, t30, t31, t32, t33, t34, t35, g15, g16, k16, rfl, _, hrest⟩ K' hK
          have nl : ¬ D 18 := fun h => hn (hc (18, 8) (by simp) h)
          obtain ⟨LX, c0, c1, c2, c3, c4, c5, c6, c7, c8, c9, c10, c11, c12, c13, c14, c15, c16, c17, cO⟩ := hrest nl
          clear hrest
          clear hd hc
          go_simp
          refine hK _ _ ⟨_, _, _, _, _, _, _, _, _, _, _, _, _, _, _, _, _, _, g15, g16, k16, by first | rfl | simp [Act.put], fun h => (nl (h.resolve_left (by decide))).elim, fun _ => ⟨LX, ?c0, ?c1, ?c2, ?c3, ?c4, ?c5, ?c6, ?c7, ?c8, ?c9, ?c10, ?c11, ?c12, ?c13, ?c14, ?c15, ?c16, ?c17, ?cO⟩⟩
          case c0 => exact fun h0 => c0 (h0.resolve_left (by decide))
          case c1 => exact fun h1 => c1 (h1.resolve_left (by decide))
          case c2 => exact fun h2 => c2 (h2.resolve_left (by decide))
          case c3 => exact fun h3 => c3 (h3.resolve_left (by decide))
          case c4 => exact fun h4 => c4 (h4.resolve_left (by decide))
          case c5 => exact fun h5 => c5 (h5.resolve_left (by decide))
          case c6 => exact fun h6 => c6 (h6.resolve_left (by decide))
          case c7 => exact fun h7 => c7 (h7.resolve_left (by decide))
          case c8 => exact fun h8 => rfl
          case c9 => exact fun h9 => c9 (h9.resolve_left (by decide))
          case c10 => exact fun h10 => c10 (h10.resolve_left (by decide))
          case c11 => exact fun h11 => c11 (h11.resolve_left (by decide))
          case c12 => exact fun h12 => c12 (h12.resolve_left (by decide))
          case c13 => exact fun h13 => c13 (h13.resolve_left (by decide))
          case c14 => exact fun h14 => c14 (h14.resolve_left (by decide))
          case c15 => exact fun h15 m16 => c15 (h15.resolve_left (by decide)) (fun q => m16 (.inr q))
          case c16 => exact fun h16 => c16 (h16.resolve_left (by decide))
          case c17 => exact fun h17 => c17 (h17.resolve_left (by decide))
          case cO => exact fun m16 => cO (fun q => m16 (.inr q))
        · refine step_of _ [6] [(18, 7)] rfl (by kernel_rfl) (by kernel_rfl) ?_
          rintro D a X hn hd hc ⟨t18, t19, t20, t21, t22, t23, t24, t25, t26, t27, t28, t29, t30, t31, t32, t33, t34, t35, g15, g16, k16, rfl, _, hrest⟩ K' hK
          have nl : ¬ D 18 := fun h => hn (hc (18, 7) (by simp) h)
          obtain ⟨LX, c0, c1, c2, c3, c4, c5, c6, c7, c8, c9, c10, c11, c12, c13, c14, c15, c16, c17, cO⟩ := hrest nl
          clear hrest
          have d6 := hd 6 (by simp)
          clear hd hc
          obtain rfl := c6 d6
          obtain ⟨y0, y1⟩ := CE0.out X LX.out
          go_simp
          refine hK _ _ ⟨_, _, _, _, _, _, _, _, _, _, _, _, _, _, _, _, _, _, g15, g16, k16, by first | rfl | simp [Act.put], fun h => (nl (h.resolve_left (by decide))).elim, fun _ => ⟨LX, ?c0, ?c1, ?c2, ?c3, ?c4, ?c5, ?c6, ?c7, ?c8, ?c9, ?c10, ?c11, ?c12, ?c13, ?c14, ?c15, ?c16, ?c17, ?cO⟩⟩
          case c0 => exact fun h0 => c0 (h0.resolve_left (by decide))
          case c1 => exact fun h1 => c1 (h1.resolve_left (by decide))
          case c2 => exact fun h2 => c2 (h2.resolve_left (by decide))
          case c3 => exact fun h3 => c3 (h3.resolve_left (by decide))
          case c4 => exact fun h4 => c4 (h4.resolve_left (by decide))
          case c5 => exact fun h5 => c5 (h5.resolve_left (by decide))
          case c6 => exact fun h6 => c6 (h6.resolve_left (by decide))
          case c7 => exact fun h7 => rfl
          case c8 => exact fun h8 => c8 (h8.resolve_left (by decide))
          case c9 => exact fun h9 => c9 (h9.resolve_left (by decide))
          case c10 => exact fun h10 => c10 (h10.resolve_left (by decide))
          case c11 => exact fun h11 => c11 (h11.resolve_left (by decide))
          case c12 => exact fun h12 => c12 (h12.resolve_left (by decide))
          case c13 => exact fun h13 => c13 (h13.resolve_left (by decide))
          case c14 => exact fun h14 => c14 (h14.resolve_left (by decide))
          case c15 => exact fun h15 m16 => c15 (h15.resolve_left (by decide)) (fun q => m16 (.inr q))
          case c16 => exact fun h16 => c16 (h16.resolve_left (by decide))
          case c17 => exact fun h17 => c17 (h17.resolve_left (by decide))
          case cO => exact fun m16 => cO (fun q => m16 (.inr q))
        · refine step_of _ [5] [(18, 6)] rfl (by kernel_rfl) (by kernel_rfl) ?_
          rintro D a X hn hd hc ⟨t18, t19, t20, t21, t22, t23, t24, t25, t26, t27, t28, t29, t30, t31, t32, t33, t34, t35, g15, g16, k16, rfl, _, hrest⟩ K' hK
          have nl : ¬ D 18 := fun h => hn (hc (18, 6) (by simp) h)
          obtain ⟨LX, c0, c1, c2, c3, c4, c5, c6, c7, c8, c9, c10, c11, c12, c13, c14, c15, c16, c17, cO⟩ := hrest nl
          clear hrest
          have d5 := hd 5 (by simp)
          clear hd hc
          obtain rfl := c5 d5
          go_simp
          refine hK _ _ ⟨_, _, _, _, _, _, _, _, _, _, _, _, _, _, _, _, _, _, g15, g16, k16, by first | rfl | simp [Act.put], fun h => (nl (h.resolve_left (by decide))).elim, fun _ => ⟨LX, ?c0, ?c1, ?c2, ?c3, ?c4, ?c5, ?c6, ?c7, ?c8, ?c9, ?c10, ?c11, ?c12, ?c13, ?c14, ?c15, ?c16, ?c17, ?cO⟩⟩
          case c0 => exact fun h0 => c0 (h0.resolve_left (by decide))
          case c1 => exact fun h1 => c1 (h1.resolve_left (by decide))
          case c2 => exact fun h2 => c2 (h2.resolve_left (by decide))
          case c3 => exact fun h3 => c3 (h3.resolve_left (by decide))
          case c4 => exact fun h4 => c4 (h4.resolve_left (by decide))
          case c5 => exact fun h5 => c5 (h5.resolve_left (by decide))
          case c6 => exact fun h6 => rfl
          case c7 => exact fun h7 => c7 (h7.resolve_left (by decide))
          case c8 => exact fun h8 => c8 (h8.resolve_left (by decide))
          case c9 => exact fun h9 => c9 (h9.resolve_left (by decide))
          case c10 => exact fun h10 => c10 (h10.resolve_left (by decide))
          case c11 => exact fun h11 => c11 (h11.resolve_left (by decide))
          case c12 => exact fun h12 => c12 (h12.resolve_left (by decide))
          case c13 => exact fun h13 => c13 (h13.resolve_left (by decide))
          case c14 => exact fun h14 => c14 (h14.resolve_left (by decide))
          case c15 => exact fun h15 m16 => c15 (h15.resolve_left (by decide)) (fun q => m16 (.inr q))
          case c16 => exact fun h16 => c16 (h16.resolve_left (by decide))
          case c17 => exact fun h17 => c17 (h17.resolve_left (by decide))
          case cO => exact fun m16 => cO (fun q => m16 (.inr q))
        · refine step_of _ [3, 4] [(18, 5)] rfl (by kernel_rfl) (by kernel_rfl) ?_
          rintro D a X hn hd hc ⟨t18, t19, t20, t21, t22, t23, t24, t25, t26, t27, t28, t29, t30, t31, t32, t33, t34, t35, g15, g16, k16, rfl, _, hrest⟩ K' hK
          have nl : ¬ D 18 := fun h => hn (hc (18, 5) (by simp) h)
          obtain ⟨LX, c0, c1, c2, c3, c4, c5, c6, c7, c8, c9, c10, c11, c12, c13, c14, c15, c16, c17, cO⟩ := hrest nl
          clear hrest
          have d3 := hd 3 (by simp)
          have d4 := hd 4 (by simp)
          clear hd hc
          obtain rfl := c3 d3
          obtain rfl := c4 d4
          go_simp
          refine hK _ _ ⟨_, _, _, _, _, _, _, _, _, _, _, _, _, _, _, _, _, _, g15, g16, k16, by first | rfl | simp [Act.put], fun h => (nl (h.resolve_left (by decide))).elim, fun _ => ⟨LX, ?c0, ?c1, ?c2, ?c3, ?c4, ?c5, ?c6, ?c7, ?c8, ?c9, ?c10, ?c11, ?c12, ?c13, ?c14, ?c15, ?c16, ?c17, ?cO⟩⟩
          case c0 => exact fun h0 => c0 (h0.resolve_left (by decide))
          case c1 => exact fun h1 => c1 (h1.resolve_left (by decide))
          case c2 => exact fun h2 => c2 (h2.resolve_left (by decide))
          case c3 => exact fun h3 => c3 (h3.resolve_left (by decide))
          case c4 => exact fun h4 => c4 (h4.resolve_left (by decide))
          case c5 => exact fun h5 => rfl
          case c6 => exact fun h6 => c6 (h6.resolve_left (by decide))
          case c7 => exact fun h7 => c7 (h7.resolve_left (by decide))
          case c8 => exact fun h8 => c8 (h8.resolve_left (by decide))
          case c9 => exact fun h9 => c9 (h9.resolve_left (by decide))
          case c10 => exact fun h10 => c10 (h10.resolve_left (by decide))
          case c11 => exact fun h11 => c11 (h11.resolve_left (by decide))
          case c12 => exact fun h12 => c12 (h12.resolve_left (by decide))
          case c13 => exact fun h13 => c13 (h13.resolve_left (by decide))
          case c14 => exact fun h14 => c14 (h14.resolve_left (by decide))
          case c15 => exact fun h15 m16 => c15 (h15.resolve_left (by decide)) (fun q => m16 (.inr q))
          case c16 => exact fun h16 => c16 (h16.resolve_left (by decide))
          case c17 => exact fun h17 => c17 (h17.resolve_left (by decide))
          case cO => exact fun m16 => cO (fun q => m16 (.inr q))
        · refine step_of _ [] [(18, 4)] rfl (by kernel_rfl) (by kernel_rfl) ?_
          rintro D a X hn hd hc ⟨t18, t19, t20, t21, t22, t23, t24, t25, t26, t27, t28, t29, t30, t31, t32, t33, t34, t35, g15, g16, k16, rfl, _, hrest⟩ K' hK
          have nl : ¬ D 18 := fun h => hn (hc (18, 4) (by simp) h)
          obtain ⟨LX, c0, c1, c2, c3, c4, c5, c6, c7, c8, c9, c10, c11, c12, c13, c14, c15, c16, c17, cO⟩ := hrest nl
          clear hrest
          clear hd hc
          go_simp
          refine hK _ _ ⟨_, _, _, _, _, _, _, _, _, _, _, _, _, _, _, _, _, _, g15, g16, k16, by first | rfl | simp [Act.put], fun h => (nl (h.resolve_left (by decide))).elim, fun _ => ⟨LX, ?c0, ?c1, ?c2, ?c3, ?c4, ?c5, ?c6, ?c7, ?c8, ?c9, ?c10, ?c11, ?c12, ?c13, ?c14, ?c15, ?c16, ?c17, ?cO⟩⟩
          case c0 => exact fun h0 => c0 (h0.resolve_left (by decide))
          case c1 => exact fun h1 => c1 (h1.resolve_left (by decide))
          case c2 => exact fun h2 => c2 (h2.resolve_left (by decide))
          case c3 => exact fun h3 => c3 (h3.resolve_left (by decide))
          case c4 => exact fun h4 => rfl
          case c5 => exact fun h5 => c5 (h5.resolve_left (by decide))
          case c6 => exact fun h6 => c6 (h6.resolve_left (by decide))
          case c7 => exact fun h7 => c7 (h7.resolve_left (by decide))
          case c8 => exact fun h8 => c8 (h8.resolve_left (by decide))
          case c9 => exact fun h9 => c9 (h9.resolve_left (by decide))
          case c10 => exact fun h10 => c10 (h10.resolve_left (by decide))
          case c11 => exact fun h11 => c11 (h11.resolve_left (by decide))
          case c12 => exact fun h12 => c12 (h12.resolve_left (by decide))
          case c13 => exact fun h13 => c13 (h13.resolve_left (by decide))
          case c14 => exact fun h14 => c14 (h14.resolve_left (by decide))
          case c15 => exact fun h15 m16 => c15 (h15.resolve_left (by decide)) (fun q => m16 (.inr q))
          case c16 => exact fun h16 => c16 (h16.resolve_left (by decide))
          case c17 => exact fun h17 => c17 (h17.resolve_left (by decide))
          case cO => exact fun m16 => cO (fun q => m16 (.inr q))
        · refine step_of _ [2] [(18, 3)] rfl (by kernel_rfl) (by kernel_rfl) ?_
          rintro D a X hn hd hc ⟨t18, t19, t20, t21, t22, t23, t24, t25, t26, t27, t28, t29, t30, t31, t32, t33, t34, t35, g15, g16, k16, rfl, _, hrest⟩ K' hK
          have nl : ¬ D 18 := fun h => hn (hc (18, 3) (by simp) h)
          obtain ⟨LX, c0, c1, c2, c3, c4, c5, c6, c7, c8, c9, c10, c11, c12, c13, c14, c15, c16, c17, cO⟩ := hrest nl
          clear hrest
          have d2 := hd 2 (by simp)
          clear hd hc
          obtain rfl := c2 d2
          obtain ⟨_, x0, x1⟩ := BX.out.lo (L1.out.trans (LX.out.mono hwb))
          go_simp
          refine hK _ _ ⟨_, _, _, _, _, _, _, _, _, _, _, _, _, _, _, _, _, _, g15, g16, k16, by first | rfl | simp [Act.put], fun h => (nl (h.resolve_left (by decide))).elim, fun _ => ⟨LX, ?c0, ?c1, ?c2, ?c3, ?c4, ?c5, ?c6, ?c7, ?c8, ?c9, ?c10, ?c11, ?c12, ?c13, ?c14, ?c15, ?c16, ?c17, ?cO⟩⟩
          case c0 => exact fun h0 => c0 (h0.resolve_left (by decide))
          case c1 => exact fun h1 => c1 (h1.resolve_left (by decide))
          case c2 => exact fun h2 => c2 (h2.resolve_left (by decide))
          case c3 => exact fun h3 => rfl
          case c4 => exact fun h4 => c4 (h4.resolve_left (by decide))
          case c5 => exact fun h5 => c5 (h5.resolve_left (by decide))
          case c6 => exact fun h6 => c6 (h6.resolve_left (by decide))
          case c7 => exact fun h7 => c7 (h7.resolve_left (by decide))
          case c8 => exact fun h8 => c8 (h8.resolve_left (by decide))
          case c9 => exact fun h9 => c9 (h9.resolve_left (by decide))
          case c10 => exact fun h10 => c10 (h10.resolve_left (by decide))
          case c11 => exact fun h11 => c11 (h11.resolve_left (by decide))
          case c12 => exact fun h12 => c12 (h12.resolve_left (by decide))
          case c13 => exact fun h13 => c13 (h13.resolve_left (by decide))
          case c14 => exact fun h14 => c14 (h14.resolve_left (by decide))
          case c15 => exact fun h15 m16 => c15 (h15.resolve_left (by decide)) (fun q => m16 (.inr q))
          case c16 => exact fun h16 => c16 (h16.resolve_left (by decide))
          case c17 => exact fun h17 => c17 (h17.resolve_left (by decide))
          case cO => exact fun m16 => cO (fun q => m16 (.inr q))
        · refine step_of _ [] [(18, 2)] rfl (by kernel_rfl) (by kernel_rfl) ?_
          rintro D a X hn hd hc ⟨t18, t19, t20, t21, t22, t23, t24, t25, t26, t27, t28, t29, t30, t31, t32, t33, t34, t35, g15, g16, k16, rfl, _, hrest⟩ K' hK
          have nl : ¬ D 18 := fun h => hn (hc (18, 2) (by simp) h)
          obtain ⟨LX, c0, c1, c2, c3, c4, c5, c6, c7, c8, c9, c10, c11, c12, c13, c14, c15, c16, c17, cO⟩ := hrest nl
          clear hrest
          clear hd hc
          go_simp
          refine hK _ _ ⟨_, _, _, _, _, _, _, _, _, _, _, _, _, _, _, _, _, _, g15, g16, k16, by first | rfl | simp [Act.put], fun h => (nl (h.resolve_left (by decide))).elim, fun _ => ⟨LX, ?c0, ?c1, ?c2, ?c3, ?c4, ?c5, ?c6, ?c7, ?c8, ?c9, ?c10, ?c11, ?c12, ?c13, ?c14, ?c15, ?c16, ?c17, ?cO⟩⟩
          case c0 => exact fun h0 => c0 (h0.resolve_left (by decide))
          case c1 => exact fun h1 => c1 (h1.resolve_left (by decide))
          case c2 => exact fun h2 => rfl
          case c3 => exact fun h3 => c3 (h3.resolve_left (by decide))
          case c4 => exact fun h4 => c4 (h4.resolve_left (by decide))
          case c5 => exact fun h5 => c5 (h5.resolve_left (by decide))
          case c6 => exact fun h6 => c6 (h6.resolve_left (by decide))
          case c7 => exact fun h7 => c7 (h7.resolve_left (by decide))
          case c8 => exact fun h8 => c8 (h8.resolve_left (by decide))
          case c9 => exact fun h9 => c9 (h9.resolve_left (by decide))
          case c10 => exact fun h10 => c10 (h10.resolve_left (by decide))
          case c11 => exact fun h11 => c11 (h11.resolve_left (by decide))
          case c12 => exact fun h12 => c12 (h12.resolve_left (by decide))
          case c13 => exact fun h13 => c13 (h13.resolve_left (by decide))
          case c14 => exact fun h14 => c14 (h14.resolve_left (by decide))
          case c15 => exact fun h15 m16 => c15 (h15.resolve_left (by decide)) (fun q => m16 (.inr q))
          case c16 => exact fun h16 => c16 (h16.resolve_left (by decide))
          case c17 => exact fun h17 => c17 (h17.resolve_left (by decide))
          case cO => exact fun m16 => cO (fun q => m16 (.inr q))
        · refine step_of _ [0] [(18, 1), (16, 1)] rfl (by kernel_rfl) (by kernel_rfl) ?_
          rintro D a X hn hd hc ⟨t18, t19, t20, t21, t22, t23, t24, t25, t26, t27, t28, t29, t30, t31, t32, t33, t34, t35, g15, g16, k16, rfl, _, hrest⟩ K' hK
          have nl : ¬ D 18 := fun h => hn (hc (18, 1) (by simp) h)
          obtain ⟨LX, c0, c1, c2, c3, c4, c5, c6, c7, c8, c9, c10, c11, c12, c13, c14, c15, c16, c17, cO⟩ := hrest nl
          clear hrest
          have d0 := hd 0 (by simp)
          have e16_1 := hc (16, 1) (by simp)
          clear hd hc
          obtain rfl := c0 d0
          obtain ⟨⟨hbx, o0, o1⟩, ofz, _, _, _⟩ := cO (fun h => hn (e16_1 h))
          go_simp
          refine hK _ _ ⟨_, _, _, _, _, _, _, _, _, _, _, _, _, _, _, _, _, _, g15, g16, k16, by first | rfl | simp [Act.put], fun h => (nl (h.resolve_left (by decide))).elim, fun _ => ⟨LX, ?c0, ?c1, ?c2, ?c3, ?c4, ?c5, ?c6, ?c7, ?c8, ?c9, ?c10, ?c11, ?c12, ?c13, ?c14, ?c15, ?c16, ?c17, ?cO⟩⟩
          case c0 => exact fun h0 => c0 (h0.resolve_left (by decide))
          case c1 => exact fun h1 => rfl
          case c2 => exact fun h2 => c2 (h2.resolve_left (by decide))
          case c3 => exact fun h3 => c3 (h3.resolve_left (by decide))
          case c4 => exact fun h4 => c4 (h4.resolve_left (by decide))
          case c5 => exact fun h5 => c5 (h5.resolve_left (by decide))
          case c6 => exact fun h6 => c6 (h6.resolve_left (by decide))
          case c7 => exact fun h7 => c7 (h7.resolve_left (by decide))
          case c8 => exact fun h8 => c8 (h8.resolve_left (by decide))
          case c9 => exact fun h9 => c9 (h9.resolve_left (by decide))
          case c10 => exact fun h10 => c10 (h10.resolve_left (by decide))
          case c11 => exact fun h11 => c11 (h11.resolve_left (by decide))
          case c12 => exact fun h12 => c12 (h12.resolve_left (by decide))
          case c13 => exact fun h13 => c13 (h13.resolve_left (by decide))
          case c14 => exact fun h14 => c14 (h14.resolve_left (by decide))
          case c15 => exact fun h15 m16 => c15 (h15.resolve_left (by decide)) (fun q => m16 (.inr q))
          case c16 => exact fun h16 => c16 (h16.resolve_left (by decide))
          case c17 => exact fun h17 => c17 (h17.resolve_left (by decide))
          case cO => exact fun m16 => cO (fun q => m16 (.inr q))
        · refine step_of _ [] [(18, 0)] rfl (by kernel_rfl) (by kernel_rfl) ?_
          rintro D a X hn hd hc ⟨t18, t19, t20, t21, t22, t23, t24, t25, t26, t27, t28, t29, t30, t31, t32, t33, t34, t35, g15, g16, k16, rfl, _, hrest⟩ K' hK
          have nl : ¬ D 18 := fun h => hn (hc (18, 0) (by simp) h)
          obtain ⟨LX, c0, c1, c2, c3, c4, c5, c6, c7, c8, c9, c10, c11, c12, c13, c14, c15, c16, c17, cO⟩ := hrest nl
          clear hrest
          clear hd hc
          go_simp
          refine hK _ _ ⟨_, _, _, _, _, _, _, _, _, _, _, _, _, _, _, _, _, _, g15, g16, k16, by first | rfl | simp [Act.put], fun h => (nl (h.resolve_left (by decide))).elim, fun _ => ⟨LX, ?c0, ?c1, ?c2, ?c3, ?c4, ?c5, ?c6, ?c7, ?c8, ?c9, ?c10, ?c11, ?c12, ?c13, ?c14, ?c15, ?c16, ?c17, ?cO⟩⟩
          case c0 => exact fun h0 => rfl
          case c1 => exact fun h1 => c1 (h1.resolve_left (by decide))
          case c2 => exact fun h2 => c2 (h2.resolve_left (by decide))
          case c3 => exact fun h3 => c3 (h3.resolve_left (by decide))
          case c4 => exact fun h4 => c4 (h4.resolve_left (by decide))
          case c5 => exact fun h5 => c5 (h5.resolve_left (by decide))
          case c6 => exact fun h6 => c6 (h6.resolve_left (by decide))
          case c7 => exact fun h7 => c7 (h7.resolve_left (by decide))
          case c8 => exact fun h8 => c8 (h8.resolve_left (by decide))
          case c9 => exact fun h9 => c9 (h9.resolve_left (by decide))
          case c10 => exact fun h10 => c10 (h10.resolve_left (by decide))
          case c11 => exact fun h11 => c11 (h11.resolve_left (by decide))
          case c12 => exact fun h12 => c12 (h12.resolve_left (by decide))
          case c13 => exact fun h13 => c13 (h13.resolve_left (by decide))
          case c14 => exact fun h14 => c14 (h14.resolve_left (by decide))
          case c15 => exact fun h15 m16 => c15 (h15.resolve_left (by decide)) (fun q => m16 (.inr q))
          case c16 => exact fun h16 => c16 (h16.resolve_left (by decide))
          case c17 => exact fun h17 => c17 (h17.resolve_left (by decide))
          case cO => exact fun m16 => cO (fun q => m16 (.inr q))
      · rintro D a X hall ⟨t18, t19, t20, t21, t22, t23, t24, t25, t26, t27, t28, t29, t30, t31, t32, t33, t34, t35, g15, g16, k16, rfl, hfin, _⟩
        have HFIN := Lib.hid (hfin (hall 18 (by decide)))
        clear hfin hall
        clear HO LR hbR HR HL LWX
        obtain ⟨q1, cp1, HF1⟩ := HFIN.out
        clear HFIN
        have HO := Lib.hid HF1.out.1
        have LR := Lib.hid HF1.out.2
        have hbR : b ≤ X.heap.size := by have := LR.out.size; have := HBE.out; omega
        obtain ⟨_, u0, u1⟩ := BX.out.lo (L1.out.trans (LR.out.mono hwb))
        have HL1' := Lib.hid (show (X1 ++ [(y, x)]).length = k + 1 by rw [List.length_append, HL1.out]; rfl)
        go_wp2
        refine wp_region_inv (by kernel_rfl) (by kernel_rfl) (fun D a X => ∃ (t36 t37 t38 t39 t40 t41 t42 t43 t44 t45 t46 t47 t48 t49 t50 t51 t52 t53 : Value) (g15 g16 k16 : Nat), a = (⟨#[(.agg #[.slice (some ⟨g, off, none⟩) n c, .slice (some ⟨g', off', none⟩) n c']), .pointer (some ⟨w.heap.size, 0, none⟩), .pointer (some ⟨w.heap.size + 1, 0, none⟩), .bool false, .pointer (some ⟨b, 0, none⟩), .int .i64 (k : Int), (.agg #[.slice (some ⟨g, off, none⟩) n c, .slice (some ⟨g', off', none⟩) n c']), .bool true, .bool false, undef, .agg #[.slice none 0 0, .slice none 0 0], .int .i64 (k : Int), .pointer (some ⟨w.heap.size, 0, none⟩), .slice (some ⟨g, off, none⟩) n c, .int .i64 (n : Int), .bool true, u16, u17, t18, t19, t20, t21, t22, t23, t24, t25, t26, t27, t28, t29, t30, t31, t32, t33, t34, t35, t36, t37, t38, t39, t40, t41, t42, t43, t44, t45, t46, t47, t48, t49, t50, t51, t52, t53, undef], []⟩ : Act) ∧ (D 18 → ∃ qq cp, Hid (Out2 X b (.slice (some ⟨q1, 0, none⟩) (k + 1) cp1) (.slice (some ⟨qq, 0, none⟩) (k + 1) cp) (X1 ++ [(y, x)]) (Y1 ++ [(q, p)]) ∧ Below b w1 X)) ∧ (¬ D 18 → Hid (Below b w1 X) ∧ (D 0 → (t36 = .pointer (some ⟨b, 1, none⟩))) ∧ (D 1 → (t37 = (.slice ba k bc))) ∧ (D 2 → (t38 = .pointer (some ⟨w.heap.size, 1, none⟩))) ∧ (D 3 → (t39 = .slice (some ⟨g', off', none⟩) n c')) ∧ (D 4 → (t40 = .int .i64 (k : Int))) ∧ (D 5 → (t41 = .pointer (some ⟨g', off' + k * 2, none⟩))) ∧ (D 6 → (t42 = .pointer (some ⟨g', off' + k * 2 + 1, none⟩))) ∧ (D 7 → (t43 = .int .i64 q)) ∧ (D 8 → (t44 = .pointer (some ⟨w.heap.size, 1, none⟩))) ∧ (D 9 → (t45 = .slice (some ⟨g', off', none⟩) n c')) ∧ (D 10 → (t46 = .int .i64 (k : Int))) ∧ (D 11 → (t47 = .pointer (some ⟨g', off' + k * 2, none⟩))) ∧ (D 12 → (t48 = .pointer (some ⟨g', off' + k * 2, none⟩))) ∧ (D 13 → (t49 = .int .i64 p)) ∧ (D 14 → (t50 = .agg #[.int .i64 q, .int .i64 p])) ∧ (D 15 → ¬ D 16 → (t51 = .slice (some ⟨g15, 0, none⟩) 1 1 ∧ Lit2 X g15 q p)) ∧ (D 16 → (t52 = (.slice (some ⟨g16, 0, none⟩) (k + 1) k16) ∧ App2 X b 1 (.slice ba k bc) ∧ Out2 (X.setCell ⟨b, 1, none⟩ (.slice (some ⟨g16, 0, none⟩) (k + 1) k16)) b (.slice (some ⟨q1, 0, none⟩) (k + 1) cp1) (.slice (some ⟨g16, 0, none⟩) (k + 1) k16) (X1 ++ [(y, x)]) (Y1 ++ [(q, p)]))) ∧ (D 17 → (t53 = .pointer (some ⟨b, 1, none⟩))) ∧ (¬ D 16 → (Out2 X b (.slice (some ⟨q1, 0, none⟩) (k + 1) cp1) (.slice ba k bc) (X1 ++ [(y, x)]) Y1)))) ?_ ?_ ?_
        · exact ⟨_, _, _, _, _, _, _, _, _, _, _, _, _, _, _, _, _, _, 0, 0, 0, rfl, fun h => h.elim, fun _ => ⟨Lib.hid (LR.out.trans (drew_below _ |>.mono hbR)), fun h => h.elim, fun h => h.elim, fun h => h.elim, fun h => h.elim, fun h => h.elim, fun h => h.elim, fun h => h.elim, fun h => h.elim, fun h => h.elim, fun h => h.elim, fun h => h.elim, fun h => h.elim, fun h => h.elim, fun h => h.elim, fun h => h.elim, fun h => h.elim, fun h => h.elim, fun h => h.elim, fun _ => HO.out.lo (drew_below _)⟩⟩
        · refine (show ∀ i, i < 19 → StepAt _ _ _ _ _ i from ?_)
          refine lt_more (n := 18) ?_ (lt_more (n := 17) ?_ (lt_more (n := 16) ?_ (lt_more (n := 15) ?_ (lt_more (n := 14) ?_ (lt_more (n := 13) ?_ (lt_more (n := 12) ?_ (lt_more (n := 11) ?_ (lt_more (n := 10) ?_ (lt_more (n := 9) ?_ (lt_more (n := 8) ?_ (lt_more (n := 7) ?_ (lt_more (n := 6) ?_ (lt_more (n := 5) ?_ (lt_more (n := 4) ?_ (lt_more (n := 3) ?_ (lt_more (n := 2) ?_ (lt_more (n := 1) ?_ (lt_more (n := 0) ?_ lt_none))))))))))))))))))
          · refine step_of _ [17, 16, 16, 0, 1, 2, 3, 4, 5, 6, 7, 8, 9, 10, 11, 12, 13, 14, 15, 16] [] rfl (by kernel_rfl) (by kernel_rfl) ?_
            rintro D a X hn hd hc ⟨t36, t37, t38, t39, t40, t41, t42, t43, t44, t45, t46, t47, t48, t49, t50, t51, t52, t53, g15, g16, k16, rfl, _, hrest⟩ K' hK
            have nl := hn
            obtain ⟨LX, c0, c1, c2, c3, c4, c5, c6, c7, c8, c9, c10, c11, c12, c13, c14, c15, c16, c17, cO⟩ := hrest nl
            clear hrest
            have d0 := hd 0 (by simp)
            have d1 := hd 1 (by simp)
            have d2 := hd 2 (by simp)
            have d3 := hd 3 (by simp)
            have d4 := hd 4 (by simp)
            have d5 := hd 5 (by simp)
            have d6 := hd 6 (by simp)
            have d7 := hd 7 (by simp)
            have d8 := hd 8 (by simp)
            have d9 := hd 9 (by simp)
            have d10 := hd 10 (by simp)
            have d11 := hd 11 (by simp)
            have d12 := hd 12 (by simp)
            have d13 := hd 13 (by simp)
            have d14 := hd 14 (by simp)
            have d15 := hd 15 (by simp)
            have d16 := hd 16 (by simp)
            have d17 := hd 17 (by simp)
            clear hd hc
            obtain ⟨rfl, ⟨a0, a1⟩, a2⟩ := c16 d16
            obtain rfl := c17 d17
            go_simp
            refine hK _ _ ⟨_, _, _, _, _, _, _, _, _, _, _, _, _, _, _, _, _, _, g15, g16, k16, by first | rfl | simp [Act.put], fun _ => ?_, fun m => absurd (.inl rfl) m⟩
            exact ⟨g16, k16, Lib.hid ⟨a2, LX.out.setCell (p := ⟨b, 1, none⟩) (Nat.le_refl _) _⟩⟩
          · refine step_of _ [0, 1, 2, 3, 4, 5, 6, 7, 8, 9, 10, 11, 12, 13, 14, 15, 16] [(18, 17)] rfl (by kernel_rfl) (by kernel_rfl) ?_
            rintro D a X hn hd hc ⟨t36, t37, t38, t39, t40, t41, t42, t43, t44, t45, t46, t47, t48, t49, t50, t51, t52, t53, g15, g16, k16, rfl, _, hrest⟩ K' hK
            have nl : ¬ D 18 := fun h => hn (hc (18, 17) (by simp) h)
            obtain ⟨LX, c0, c1, c2, c3, c4, c5, c6, c7, c8, c9, c10, c11, c12, c13, c14, c15, c16, c17, cO⟩ := hrest nl
            clear hrest
            have d0 := hd 0 (by simp)
            have d1 := hd 1 (by simp)
            have d2 := hd 2 (by simp)
            have d3 := hd 3 (by simp)
            have d4 := hd 4 (by simp)
            have d5 := hd 5 (by simp)
            have d6 := hd 6 (by simp)
            have d7 := hd 7 (by simp)
            have d8 := hd 8 (by simp)
            have d9 := hd 9 (by simp)
            have d10 := hd 10 (by simp)
            have d11 := hd 11 (by simp)
            have d12 := hd 12 (by simp)
            have d13 := hd 13 (by simp)
            have d14 := hd 14 (by simp)
            have d15 := hd 15 (by simp)
            have d16 := hd 16 (by simp)
            clear hd hc
            go_simp
            refine hK _ _ ⟨_, _, _, _, _, _, _, _, _, _, _, _, _, _, _, _, _, _, g15, g16, k16, by first | rfl | simp [Act.put], fun h => (nl (h.resolve_left (by decide))).elim, fun _ => ⟨LX, ?c0, ?c1, ?c2, ?c3, ?c4, ?c5, ?c6, ?c7, ?c8, ?c9, ?c10, ?c11, ?c12, ?c13, ?c14, ?c15, ?c16, ?c17, ?cO⟩⟩
            case c0 => exact fun h0 => c0 (h0.resolve_left (by decide))
            case c1 => exact fun h1 => c1 (h1.resolve_left (by decide))
            case c2 => exact fun h2 => c2 (h2.resolve_left (by decide))
            case c3 => exact fun h3 => c3 (h3.resolve_left (by decide))
            case c4 => exact fun h4 => c4 (h4.resolve_left (by decide))
            case c5 => exact fun h5 => c5 (h5.resolve_left (by decide))
            case c6 => exact fun h6 => c6 (h6.resolve_left (by decide))
            case c7 => exact fun h7 => c7 (h7.resolve_left (by decide))
            case c8 => exact fun h8 => c8 (h8.resolve_left (by decide))
            case c9 => exact fun h9 => c9 (h9.resolve_left (by decide))
            case c10 => exact fun h10 => c10 (h10.resolve_left (by decide))
            case c11 => exact fun h11 => c11 (h11.resolve_left (by decide))
            case c12 => exact fun h12 => c12 (h12.resolve_left (by decide))
            case c13 => exact fun h13 => c13 (h13.resolve_left (by decide))
            case c14 => exact fun h14 => c14 (h14.resolve_left (by decide))
            case c15 => exact fun h15 m16 => c15 (h15.resolve_left (by decide)) (fun q => m16 (.inr q))
            case c16 => exact fun h16 => c16 (h16.resolve_left (by decide))
            case c17 => exact fun h17 => rfl
            case cO => exact fun m16 => cO (fun q => m16 (.inr q))
          · refine step_of _ [1, 15] [(18, 16)] rfl (by kernel_rfl) (by kernel_rfl) ?_
            rintro D a X hn hd hc ⟨t36, t37, t38, t39, t40, t41, t42, t43, t44, t45, t46, t47, t48, t49, t50, t51, t52, t53, g15, g16, k16, rfl, _, hrest⟩ K' hK
            have nl : ¬ D 18 := fun h => hn (hc (18, 16) (by simp) h)
            obtain ⟨LX, c0, c1, c2, c3, c4, c5, c6, c7, c8, c9, c10, c11, c12, c13, c14, c15, c16, c17, cO⟩ := hrest nl
            clear hrest
            have d1 := hd 1 (by simp)
            have d15 := hd 15 (by simp)
            clear hd hc
            have hbX : b ≤ X.heap.size := by have := LX.out.size; have := HBE.out; omega
            obtain rfl := c1 d1
            obtain ⟨rfl, r15⟩ := c15 d15 hn
            have hO := cO hn
            have hOr := hO.r2
            rw [HL2.out] at hOr
            refine step_append_lies _ (by rfl) _ _ _ (by rfl) (b + 1) 75 i0 _ 2 16 Try.underlying22 hi hz0 hz1 hz2 rfl (by omega) (.slice ba k bc) k (cellsF Y1) (by rfl) hOr ⟨g15, 0, none⟩ 1 1 [.int .i64 q, .int .i64 p] (by rfl) (by rfl) (World.news_of_block (cs := #[.int .i64 q, .int .i64 p]) (t := 75) (fr := (0, 0)) r15.2) (by simp [Value.oneCell']) (by omega) (by unfold maxLen; omega) (by omega) (by have := hO.box.1; omega) X.heap.size rfl ?_
            intro g16' k16' X5 hown hgrow hat hlt
            have hA := hO.app2 HL2.out hown hgrow hat
            refine hK _ _ ⟨_, _, _, _, _, _, _, _, _, _, _, _, _, _, _, _, _, _, g15, g16', k16', by first | rfl | simp [Act.put], fun h => (nl (h.resolve_left (by decide))).elim, fun _ => ⟨Lib.hid (LX.out.grown hgrow hbX (fun q hq => by have := (hOr.lt q hq).1; omega)), ?c0, ?c1, ?c2, ?c3, ?c4, ?c5, ?c6, ?c7, ?c8, ?c9, ?c10, ?c11, ?c12, ?c13, ?c14, ?c15, ?c16, ?c17, ?cO⟩⟩
            case c0 => exact fun h0 => c0 (h0.resolve_left (by decide))
            case c1 => exact fun h1 => c1 (h1.resolve_left (by decide))
            case c2 => exact fun h2 => c2 (h2.resolve_left (by decide))
            case c3 => exact fun h3 => c3 (h3.resolve_left (by decide))
            case c4 => exact fun h4 => c4 (h4.resolve_left (by decide))
            case c5 => exact fun h5 => c5 (h5.resolve_left (by decide))
            case c6 => exact fun h6 => c6 (h6.resolve_left (by decide))
            case c7 => exact fun h7 => c7 (h7.resolve_left (by decide))
            case c8 => exact fun h8 => c8 (h8.resolve_left (by decide))
            case c9 => exact fun h9 => c9 (h9.resolve_left (by decide))
            case c10 => exact fun h10 => c10 (h10.resolve_left (by decide))
            case c11 => exact fun h11 => c11 (h11.resolve_left (by decide))
            case c12 => exact fun h12 => c12 (h12.resolve_left (by decide))
            case c13 => exact fun h13 => c13 (h13.resolve_left (by decide))
            case c14 => exact fun h14 => c14 (h14.resolve_left (by decide))
            case c15 => exact fun h15 m16 => absurd (.inl rfl) m16
            case c16 => exact fun h16 => ⟨rfl, hA⟩
            case c17 => exact fun h17 => c17 (h17.resolve_left (by decide))
            case cO => exact fun m16 => absurd (.inl rfl) m16
          · refine step_of _ [14] [(18, 15), (16, 15)] rfl (by kernel_rfl) (by kernel_rfl) ?_
            rintro D a X hn hd hc ⟨t36, t37, t38, t39, t40, t41, t42, t43, t44, t45, t46, t47, t48, t49, t50, t51, t52, t53, g15, g16, k16, rfl, _, hrest⟩ K' hK
            have nl : ¬ D 18 := fun h => hn (hc (18, 15) (by simp) h)
            obtain ⟨LX, c0, c1, c2, c3, c4, c5, c6, c7, c8, c9, c10, c11, c12, c13, c14, c15, c16, c17, cO⟩ := hrest nl
            clear hrest
            have d14 := hd 14 (by simp)
            have e16_15 := hc (16, 15) (by simp)
            clear hd hc
            have hbX : b ≤ X.heap.size := by have := LX.out.size; have := HBE.out; omega
            obtain rfl := c14 d14
            have l := al X (.cells #[.int .i64 q, .int .i64 p] 75)
            go_simp
            refine hK _ _ ⟨_, _, _, _, _, _, _, _, _, _, _, _, _, _, _, _, _, _, X.heap.size, g16, k16, by first | rfl | simp [Act.put], fun h => (nl (h.resolve_left (by decide))).elim, fun _ => ⟨Lib.hid (lo_b LX.out l hbX), ?c0, ?c1, ?c2, ?c3, ?c4, ?c5, ?c6, ?c7, ?c8, ?c9, ?c10, ?c11, ?c12, ?c13, ?c14, ?c15, ?c16, ?c17, ?cO⟩⟩
            case c0 => exact fun h0 => c0 (h0.resolve_left (by decide))
            case c1 => exact fun h1 => c1 (h1.resolve_left (by decide))
            case c2 => exact fun h2 => c2 (h2.resolve_left (by decide))
            case c3 => exact fun h3 => c3 (h3.resolve_left (by decide))
            case c4 => exact fun h4 => c4 (h4.resolve_left (by decide))
            case c5 => exact fun h5 => c5 (h5.resolve_left (by decide))
            case c6 => exact fun h6 => c6 (h6.resolve_left (by decide))
            case c7 => exact fun h7 => c7 (h7.resolve_left (by decide))
            case c8 => exact fun h8 => c8 (h8.resolve_left (by decide))
            case c9 => exact fun h9 => c9 (h9.resolve_left (by decide))
            case c10 => exact fun h10 => c10 (h10.resolve_left (by decide))
            case c11 => exact fun h11 => c11 (h11.resolve_left (by decide))
            case c12 => exact fun h12 => c12 (h12.resolve_left (by decide))
            case c13 => exact fun h13 => c13 (h13.resolve_left (by decide))
            case c14 => exact fun h14 => c14 (h14.resolve_left (by decide))
            case c15 => exact fun h15 m16 => ⟨rfl, lit2_new X q p⟩
            case c16 => exact fun h16 => (hn (e16_15 (h16.resolve_left (by decide)))).elim
            case c17 => exact fun h17 => c17 (h17.resolve_left (by decide))
            case cO => exact fun m16 => (cO (fun q => m16 (.inr q))).lo l
          · refine step_of _ [7, 13] [(18, 14)] rfl (by kernel_rfl) (by kernel_rfl) ?_
            rintro D a X hn hd hc ⟨t36, t37, t38, t39, t40, t41, t42, t43, t44, t45, t46, t47, t48, t49, t50, t51, t52, t53, g15, g16, k16, rfl, _, hrest⟩ K' hK
            have nl : ¬ D 18 := fun h => hn (hc (18, 14) (by simp) h)
            obtain ⟨LX, c0, c1, c2, c3, c4, c5, c6, c7, c8, c9, c10, c11, c12, c13, c14, c15, c16, c17, cO⟩ := hrest nl
            clear hrest
            have d7 := hd 7 (by simp)
            have d13 := hd 13 (by simp)
            clear hd hc
            obtain rfl := c7 d7
            obtain rfl := c13 d13
            go_simp
            refine hK _ _ ⟨_, _, _, _, _, _, _, _, _, _, _, _, _, _, _, _, _, _, g15, g16, k16, by first | rfl | simp [Act.put], fun h => (nl (h.resolve_left (by decide))).elim, fun _ => ⟨LX, ?c0, ?c1, ?c2, ?c3, ?c4, ?c5, ?c6, ?c7, ?c8, ?c9, ?c10, ?c11, ?c12, ?c13, ?c14, ?c15, ?c16, ?c17, ?cO⟩⟩
            case c0 => exact fun h0 => c0 (h0.resolve_left (by decide))
            case c1 => exact fun h1 => c1 (h1.resolve_left (by decide))
            case c2 => exact fun h2 => c2 (h2.resolve_left (by decide))
            case c3 => exact fun h3 => c3 (h3.resolve_left (by decide))
            case c4 => exact fun h4 => c4 (h4.resolve_left (by decide))
            case c5 => exact fun h5 => c5 (h5.resolve_left (by decide))
            case c6 => exact fun h6 => c6 (h6.resolve_left (by decide))
            case c7 => exact fun h7 => c7 (h7.resolve_left (by decide))
            case c8 => exact fun h8 => c8 (h8.resolve_left (by decide))
            case c9 => exact fun h9 => c9 (h9.resolve_left (by decide))
            case c10 => exact fun h10 => c10 (h10.resolve_left (by decide))
            case c11 => exact fun h11 => c11 (h11.resolve_left (by decide))
            case c12 => exact fun h12 => c12 (h12.resolve_left (by decide))
            case c13 => exact fun h13 => c13 (h13.resolve_left (by decide))
            case c14 => exact fun h14 => rfl
            case c15 => exact fun h15 m16 => c15 (h15.resolve_left (by decide)) (fun q => m16 (.inr q))
            case c16 => exact fun h16 => c16 (h16.resolve_left (by decide))
            case c17 => exact fun h17 => c17 (h17.resolve_left (by decide))
            case cO => exact fun m16 => cO (fun q => m16 (.inr q))
          · refine step_of _ [12] [(18, 13)] rfl (by kernel_rfl) (by kernel_rfl) ?_
            rintro D a X hn hd hc ⟨t36, t37, t38, t39, t40, t41, t42, t43, t44, t45, t46, t47, t48, t49, t50, t51, t52, t53, g15, g16, k16, rfl, _, hrest⟩ K' hK
            have nl : ¬ D 18 := fun h => hn (hc (18, 13) (by simp) h)
            obtain ⟨LX, c0, c1, c2, c3, c4, c5, c6, c7, c8, c9, c10, c11, c12, c13, c14, c15, c16, c17, cO⟩ := hrest nl
            clear hrest
            have d12 := hd 12 (by simp)
            clear hd hc
            obtain rfl := c12 d12
            obtain ⟨y0, y1⟩ := CE1.out X LX.out
            go_simp
            refine hK _ _ ⟨_, _, _, _, _, _, _, _, _, _, _, _, _, _, _, _, _, _, g15, g16, k16, by first | rfl | simp [Act.put], fun h => (nl (h.resolve_left (by decide))).elim, fun _ => ⟨LX, ?c0, ?c1, ?c2, ?c3, ?c4, ?c5, ?c6, ?c7, ?c8, ?c9, ?c10, ?c11, ?c12, ?c13, ?c14, ?c15, ?c16, ?c17, ?cO⟩⟩
            case c0 => exact fun h0 => c0 (h0.resolve_left (by decide))
            case c1 => exact fun h1 => c1 (h1.resolve_left (by decide))
            case c2 => exact fun h2 => c2 (h2.resolve_left (by decide))
            case c3 => exact fun h3 => c3 (h3.resolve_left (by decide))
            case c4 => exact fun h4 => c4 (h4.resolve_left (by decide))
            case c5 => exact fun h5 => c5 (h5.resolve_left (by decide))
            case c6 => exact fun h6 => c6 (h6.resolve_left (by decide))
            case c7 => exact fun h7 => c7 (h7.resolve_left (by decide))
            case c8 => exact fun h8 => c8 (h8.resolve_left (by decide))
            case c9 => exact fun h9 => c9 (h9.resolve_left (by decide))
            case c10 => exact fun h10 => c10 (h10.resolve_left (by decide))
            case c11 => exact fun h11 => c11 (h11.resolve_left (by decide))
            case c12 => exact fun h12 => c12 (h12.resolve_left (by decide))
            case c13 => exact fun h13 => rfl
            case c14 => exact fun h14 => c14 (h14.resolve_left (by decide))
            case c15 => exact fun h15 m16 => c15 (h15.resolve_left (by decide)) (fun q => m16 (.inr q))
            case c16 => exact fun h16 => c16 (h16.resolve_left (by decide))
            case c17 => exact fun h17 => c17 (h17.resolve_left (by decide))
            case cO => exact fun m16 => cO (fun q => m16 (.inr q))
          · refine step_of _ [11] [(18, 12)] rfl (by kernel_rfl) (by kernel_rfl) ?_
            rintro D a X hn hd hc ⟨t36, t37, t38, t39, t40, t41, t42, t43, t44, t45, t46, t47, t48, t49, t50, t51, t52, t53, g15, g16, k16, rfl, _, hrest⟩ K' hK
            have nl : ¬ D 18 := fun h => hn (hc (18, 12) (by simp) h)
            obtain ⟨LX, c0, c1, c2, c3, c4, c5, c6, c7, c8, c9, c10, c11, c12, c13, c14, c15, c16, c17, cO⟩ := hrest nl
            clear hrest
            have d11 := hd 11 (by simp)
            clear hd hc
            obtain rfl := c11 d11
            go_simp
            refine hK _ _ ⟨_, _, _, _, _, _, _, _, _, _, _, _, _, _, _, _, _, _, g15, g16, k16, by first | rfl | simp [Act.put], fun h => (nl (h.resolve_left (by decide))).elim, fun _ => ⟨LX, ?c0, ?c1, ?c2, ?c3, ?c4, ?c5, ?c6, ?c7, ?c8, ?c9, ?c10, ?c11, ?c12, ?c13, ?c14, ?c15, ?c16, ?c17, ?cO⟩⟩
            case c0 => exact fun h0 => c0 (h0.resolve_left (by decide))
            case c1 => exact fun h1 => c1 (h1.resolve_left (by decide))
            case c2 => exact fun h2 => c2 (h2.resolve_left (by decide))
            case c3 => exact fun h3 => c3 (h3.resolve_left (by decide))
            case c4 => exact fun h4 => c4 (h4.resolve_left (by decide))
            case c5 => exact fun h5 => c5 (h5.resolve_left (by decide))
            case c6 => exact fun h6 => c6 (h6.resolve_left (by decide))
            case c7 => exact fun h7 => c7 (h7.resolve_left (by decide))
            case c8 => exact fun h8 => c8 (h8.resolve_left (by decide))
            case c9 => exact fun h9 => c9 (h9.resolve_left (by decide))
            case c10 => exact fun h10 => c10 (h10.resolve_left (by decide))
            case c11 => exact fun h11 => c11 (h11.resolve_left (by decide))
            case c12 => exact fun h12 => rfl
            case c13 => exact fun h13 => c13 (h13.resolve_left (by decide))
            case c14 => exact fun h14 => c14 (h14.resolve_left (by decide))
            case c15 => exact fun h15 m16 => c15 (h15.resolve_left (by decide)) (fun q => m16 (.inr q))
            case c16 => exact fun h16 => c16 (h16.resolve_left (by decide))
            case c17 => exact fun h17 => c17 (h17.resolve_left (by decide))
            case cO => exact fun m16 => cO (fun q => m16 (.inr q))
          · refine step_of _ [9, 10] [(18, 11)] rfl (by kernel_rfl) (by kernel_rfl) ?_
            rintro D a X hn hd hc ⟨t36, t37, t38, t39, t40, t41, t42, t43, t44, t45, t46, t47, t48, t49, t50, t51, t52, t53, g15, g16, k16, rfl, _, hrest⟩ K' hK
            have nl : ¬ D 18 := fun h => hn (hc (18, 11) (by simp) h)
            obtain ⟨LX, c0, c1, c2, c3, c4, c5, c6, c7, c8, c9, c10, c11, c12, c13, c14, c15, c16, c17, cO⟩ := hrest nl
            clear hrest
            have d9 := hd 9 (by simp)
            have d10 := hd 10 (by simp)
            clear hd hc
            obtain rfl := c9 d9
            obtain rfl := c10 d10
            go_simp
            refine hK _ _ ⟨_, _, _, _, _, _, _, _, _, _, _, _, _, _, _, _, _, _, g15, g16, k16, by first | rfl | simp [Act.put], fun h => (nl (h.resolve_left (by decide))).elim, fun _ => ⟨LX, ?c0, ?c1, ?c2, ?c3, ?c4, ?c5, ?c6, ?c7, ?c8, ?c9, ?c10, ?c11, ?c12, ?c13, ?c14, ?c15, ?c16, ?c17, ?cO⟩⟩
            case c0 => exact fun h0 => c0 (h0.resolve_left (by decide))
            case c1 => exact fun h1 => c1 (h1.resolve_left (by decide))
            case c2 => exact fun h2 => c2 (h2.resolve_left (by decide))
            case c3 => exact fun h3 => c3 (h3.resolve_left (by decide))
            case c4 => exact fun h4 => c4 (h4.resolve_left (by decide))
            case c5 => exact fun h5 => c5 (h5.resolve_left (by decide))
            case c6 => exact fun h6 => c6 (h6.resolve_left (by decide))
            case c7 => exact fun h7 => c7 (h7.resolve_left (by decide))
            case c8 => exact fun h8 => c8 (h8.resolve_left (by decide))
            case c9 => exact fun h9 => c9 (h9.resolve_left (by decide))
            case c10 => exact fun h10 => c10 (h10.resolve_left (by decide))
            case c11 => exact fun h11 => rfl
            case c12 => exact fun h12 => c12 (h12.resolve_left (by decide))
            case c13 => exact fun h13 => c13 (h13.resolve_left (by decide))
            case c14 => exact fun h14 => c14 (h14.resolve_left (by decide))
            case c15 => exact fun h15 m16 => c15 (h15.resolve_left (by decide)) (fun q => m16 (.inr q))
            case c16 => exact fun h16 => c16 (h16.resolve_left (by decide))
            case c17 => exact fun h17 => c17 (h17.resolve_left (by decide))
            case cO => exact fun m16 => cO (fun q => m16 (.inr q))
          · refine step_of _ [] [(18, 10)] rfl (by kernel_rfl) (by kernel_rfl) ?_
            rintro D a X hn hd hc ⟨t36, t37, t38, t39, t40, t41, t42, t43, t44, t45, t46, t47, t48, t49, t50, t51, t52, t53, g15, g16, k16, rfl, _, hrest⟩ K' hK
            have nl : ¬ D 18 := fun h => hn (hc (18, 10) (by simp) h)
            obtain ⟨LX, c0, c1, c2, c3, c4, c5, c6, c7, c8, c9, c10, c11, c12, c13, c14, c15, c16, c17, cO⟩ := hrest nl
            clear hrest
            clear hd hc
            go_simp
            refine hK _ _ ⟨_, _, _, _, _, _, _, _, _, _, _, _, _, _, _, _, _, _, g15, g16, k16, by first | rfl | simp [Act.put], fun h => (nl (h.resolve_left (by decide))).elim, fun _ => ⟨LX, ?c0, ?c1, ?c2, ?c3, ?c4, ?c5, ?c6, ?c7, ?c8, ?c9, ?c10, ?c11, ?c12, ?c13, ?c14, ?c15, ?c16, ?c17, ?cO⟩⟩
            case c0 => exact fun h0 => c0 (h0.resolve_left (by decide))
            case c1 => exact fun h1 => c1 (h1.resolve_left (by decide))
            case c2 => exact fun h2 => c2 (h2.resolve_left (by decide))
            case c3 => exact fun h3 => c3 (h3.resolve_left (by decide))
            case c4 => exact fun h4 => c4 (h4.resolve_left (by decide))
            case c5 => exact fun h5 => c5 (h5.resolve_left (by decide))
            case c6 => exact fun h6 => c6 (h6.resolve_left (by decide))
            case c7 => exact fun h7 => c7 (h7.resolve_left (by decide))
            case c8 => exact fun h8 => c8 (h8.resolve_left (by decide))
            case c9 => exact fun h9 => c9 (h9.resolve_left (by decide))
            case c10 => exact fun h10 => rfl
            case c11 => exact fun h11 => c11 (h11.resolve_left (by decide))
            case c12 => exact fun h12 => c12 (h12.resolve_left (by decide))
            case c13 => exact fun h13 => c13 (h13.resolve_left (by decide))
            case c14 => exact fun h14 => c14 (h14.resolve_left (by decide))
            case c15 => exact fun h15 m16 => c15 (h15.resolve_left (by decide)) (fun q => m16 (.inr q))
            case c16 => exact fun h16 => c16 (h16.resolve_left (by decide))
            case c17 => exact fun h17 => c17 (h17.resolve_left (by decide))
            case cO => exact fun m16 => cO (fun q => m16 (.inr q))
          · refine step_of _ [8] [(18, 9)] rfl (by kernel_rfl) (by kernel_rfl) ?_
            rintro D a X hn hd hc ⟨t36, t37, t38, t39, t40, t41, t42, t43, t44, t45, t46, t47, t48, t49, t50, t51, t52, t53, g15, g16, k16, rfl, _, hrest⟩ K' hK
            have nl : ¬ D 18 := fun h => hn (hc (18, 9) (by simp) h)
            obtain ⟨LX, c0, c1, c2, c3, c4, c5, c6, c7, c8, c9, c10, c11, c12, c13, c14, c15, c16, c17, cO⟩ := hrest nl
            clear hrest
            have d8 := hd 8 (by simp)
            clear hd hc
            obtain rfl := c8 d8
            obtain ⟨_, x0, x1⟩ := BX.out.lo (L1.out.trans (LX.out.mono hwb))
            go_simp
            refine hK _ _ ⟨_, _, _, _, _, _, _, _, _, _, _, _, _, _, _, _, _, _, g15, g16, k16, by first | rfl | simp [Act.put], fun h => (nl (h.resolve_left (by decide))).elim, fun _ => ⟨LX, ?c0, ?c1, ?c2, ?c3, ?c4, ?c5, ?c6, ?c7, ?c8, ?c9, ?c10, ?c11, ?c12, ?c13, ?c14, ?c15, ?c16, ?c17, ?cO⟩⟩
            case c0 => exact fun h0 => c0 (h0.resolve_left (by decide))
            case c1 => exact fun h1 => c1 (h1.resolve_left (by decide))
            case c2 => exact fun h2 => c2 (h2.resolve_left (by decide))
            case c3 => exact fun h3 => c3 (h3.resolve_left (by decide))
            case c4 => exact fun h4 => c4 (h4.resolve_left (by decide))
            case c5 => exact fun h5 => c5 (h5.resolve_left (by decide))
            case c6 => exact fun h6 => c6 (h6.resolve_left (by decide))
            case c7 => exact fun h7 => c7 (h7.resolve_left (by decide))
            case c8 => exact fun h8 => c8 (h8.resolve_left (by decide))
            case c9 => exact fun h9 => rfl
            case c10 => exact fun h10 => c10 (h10.resolve_left (by decide))
            case c11 => exact fun h11 => c11 (h11.resolve_left (by decide))
            case c12 => exact fun h12 => c12 (h12.resolve_left (by decide))
            case c13 => exact fun h13 => c13 (h13.resolve_left (by decide))
            case c14 => exact fun h14 => c14 (h14.resolve_left (by decide))
            case c15 => exact fun h15 m16 => c15 (h15.resolve_left (by decide)) (fun q => m16 (.inr q))
            case c16 => exact fun h16 => c16 (h16.resolve_left (by decide))
            case c17 => exact fun h17 => c17 (h17.resolve_left (by decide))
            case cO => exact fun m16 => cO (fun q => m16 (.inr q))
          · refine step_of _ [] [(18, 8)] rfl (by kernel_rfl) (by kernel_rfl) ?_
            rintro D a X hn hd hc ⟨t36, t37, t38, t39, t40, t41, t42, t43, t44, t45, t46, t47, t48, t49, t50, t51, t52, t53, g15, g16, k16, rfl, _, hrest⟩ K' hK
            have nl : ¬ D 18 := fun h => hn (hc (18, 8) (by simp) h)
            obtain ⟨LX, c0, c1, c2, c3, c4, c5, c6, c7, c8, c9, c10, c11, c12, c13, c14, c15, c16, c17, cO⟩ := hrest nl
            clear hrest
            clear hd hc
            go_simp
            refine hK _ _ ⟨_, _, _, _, _, _, _, _, _, _, _, _, _, _, _, _, _, _, g15, g16, k16, by first | rfl | simp [Act.put], fun h => (nl (h.resolve_left (by decide))).elim, fun _ => ⟨LX, ?c0, ?c1, ?c2, ?c3, ?c4, ?c5, ?c6, ?c7, ?c8, ?c9, ?c10, ?c11, ?c12, ?c13, ?c14, ?c15, ?c16, ?c17, ?cO⟩⟩
            case c0 => exact fun h0 => c0 (h0.resolve_left (by decide))
            case c1 => exact fun h1 => c1 (h1.resolve_left (by decide))
            case c2 => exact fun h2 => c2 (h2.resolve_left (by decide))
            case c3 => exact fun h3 => c3 (h3.resolve_left (by decide))
            case c4 => exact fun h4 => c4 (h4.resolve_left (by decide))
            case c5 => exact fun h5 => c5 (h5.resolve_left (by decide))
            case c6 => exact fun h6 => c6 (h6.resolve_left (by decide))
            case c7 => exact fun h7 => c7 (h7.resolve_left (by decide))
            case c8 => exact fun h8 => rfl
            case c9 => exact fun h9 => c9 (h9.resolve_left (by decide))
            case c10 => exact fun h10 => c10 (h10.resolve_left (by decide))
            case c11 => exact fun h11 => c11 (h11.resolve_left (by decide))
            case c12 => exact fun h12 => c12 (h12.resolve_left (by decide))
            case c13 => exact fun h13 => c13 (h13.resolve_left (by decide))
            case c14 => exact fun h14 => c14 (h14.resolve_left (by decide))
            case c15 => exact fun h15 m16 => c15 (h15.resolve_left (by decide)) (fun q => m16 (.inr q))
            case c16 => exact fun h16 => c16 (h16.resolve_left (by decide))
            case c17 => exact fun h17 => c17 (h17.resolve_left (by decide))
            case cO => exact fun m16 => cO (fun q => m16 (.inr q))
          · refine step_of _ [6] [(18, 7)] rfl (by kernel_rfl) (by kernel_rfl) ?_
            rintro D a X hn hd hc ⟨t36, t37, t38, t39, t40, t41, t42, t43, t44, t45, t46, t47, t48, t49, t50, t51, t52, t53, g15, g16, k16, rfl, _, hrest⟩ K' hK
            have nl : ¬ D 18 := fun h => hn (hc (18, 7) (by simp) h)
            obtain ⟨LX, c0, c1, c2, c3, c4, c5, c6, c7, c8, c9, c10, c11, c12, c13, c14, c15, c16, c17, cO⟩ := hrest nl
            clear hrest
            have d6 := hd 6 (by simp)
            clear hd hc
            obtain rfl := c6 d6
            obtain ⟨y0, y1⟩ := CE1.out X LX.out
            go_simp
            refine hK _ _ ⟨_, _, _, _, _, _, _, _, _, _, _, _, _, _, _, _, _, _, g15, g16, k16, by first | rfl | simp [Act.put], fun h => (nl (h.resolve_left (by decide))).elim, fun _ => ⟨LX, ?c0, ?c1, ?c2, ?c3, ?c4, ?c5, ?c6, ?c7, ?c8, ?c9, ?c10, ?c11, ?c12, ?c13, ?c14, ?c15, ?c16, ?c17, ?cO⟩⟩
            case c0 => exact fun h0 => c0 (h0.resolve_left (by decide))
            case c1 => exact fun h1 => c1 (h1.resolve_left (by decide))
            case c2 => exact fun h2 => c2 (h2.resolve_left (by decide))
            case c3 => exact fun h3 => c3 (h3.resolve_left (by decide))
            case c4 => exact fun h4 => c4 (h4.resolve_left (by decide))
            case c5 => exact fun h5 => c5 (h5.resolve_left (by decide))
            case c6 => exact fun h6 => c6 (h6.resolve_left (by decide))
            case c7 => exact fun h7 => rfl
            case c8 => exact fun h8 => c8 (h8.resolve_left (by decide))
            case c9 => exact fun h9 => c9 (h9.resolve_left (by decide))
            case c10 => exact fun h10 => c10 (h10.resolve_left (by decide))
            case c11 => exact fun h11 => c11 (h11.resolve_left (by decide))
            case c12 => exact fun h12 => c12 (h12.resolve_left (by decide))
            case c13 => exact fun h13 => c13 (h13.resolve_left (by decide))
            case c14 => exact fun h14 => c14 (h14.resolve_left (by decide))
            case c15 => exact fun h15 m16 => c15 (h15.resolve_left (by decide)) (fun q => m16 (.inr q))
            case c16 => exact fun h16 => c16 (h16.resolve_left (by decide))
            case c17 => exact fun h17 => c17 (h17.resolve_left (by decide))
            case cO => exact fun m16 => cO (fun q => m16 (.inr q))
          · refine step_of _ [5] [(18, 6)] rfl (by kernel_rfl) (by kernel_rfl) ?_
            rintro D a X hn hd hc ⟨t36, t37, t38, t39, t40, t41, t42, t43, t44, t45, t46, t47, t48, t49, t50, t51, t52, t53, g15, g16, k16, rfl, _, hrest⟩ K' hK
            have nl : ¬ D 18 := fun h => hn (hc (18, 6) (by simp) h)
            obtain ⟨LX, c0, c1, c2, c3, c4, c5, c6, c7, c8, c9, c10, c11, c12, c13, c14, c15, c16, c17, cO⟩ := hrest nl
            clear hrest
            have d5 := hd 5 (by simp)
            clear hd hc
            obtain rfl := c5 d5
            go_simp
            refine hK _ _ ⟨_, _, _, _, _, _, _, _, _, _, _, _, _, _, _, _, _, _, g15, g16, k16, by first | rfl | simp [Act.put], fun h => (nl (h.resolve_left (by decide))).elim, fun _ => ⟨LX, ?c0, ?c1, ?c2, ?c3, ?c4, ?c5, ?c6, ?c7, ?c8, ?c9, ?c10, ?c11, ?c12, ?c13, ?c14, ?c15, ?c16, ?c17, ?cO⟩⟩
            case c0 => exact fun h0 => c0 (h0.resolve_left (by decide))
            case c1 => exact fun h1 => c1 (h1.resolve_left (by decide))
            case c2 => exact fun h2 => c2 (h2.resolve_left (by decide))
            case c3 => exact fun h3 => c3 (h3.resolve_left (by decide))
            case c4 => exact fun h4 => c4 (h4.resolve_left (by decide))
            case c5 => exact fun h5 => c5 (h5.resolve_left (by decide))
            case c6 => exact fun h6 => rfl
            case c7 => exact fun h7 => c7 (h7.resolve_left (by decide))
            case c8 => exact fun h8 => c8 (h8.resolve_left (by decide))
            case c9 => exact fun h9 => c9 (h9.resolve_left (by decide))
            case c10 => exact fun h10 => c10 (h10.resolve_left (by decide))
            case c11 => exact fun h11 => c11 (h11.resolve_left (by decide))
            case c12 => exact fun h12 => c12 (h12.resolve_left (by decide))
            case c13 => exact fun h13 => c13 (h13.resolve_left (by decide))
            case c14 => exact fun h14 => c14 (h14.resolve_left (by decide))
            case c15 => exact fun h15 m16 => c15 (h15.resolve_left (by decide)) (fun q => m16 (.inr q))
            case c16 => exact fun h16 => c16 (h16.resolve_left (by decide))
            case c17 => exact fun h17 => c17 (h17.resolve_left (by decide))
            case cO => exact fun m16 => cO (fun q => m16 (.inr q))
          · refine step_of _ [3, 4] [(18, 5)] rfl (by kernel_rfl) (by kernel_rfl) ?_
            rintro D a X hn hd hc ⟨t36, t37, t38, t39, t40, t41, t42, t43, t44, t45, t46, t47, t48, t49, t50, t51, t52, t53, g15, g16, k16, rfl, _, hrest⟩ K' hK
            have nl : ¬ D 18 := fun h => hn (hc (18, 5) (by simp) h)
            obtain ⟨LX, c0, c1, c2, c3, c4, c5, c6, c7, c8, c9, c10, c11, c12, c13, c14, c15, c16, c17, cO⟩ := hrest nl
            clear hrest
            have d3 := hd 3 (by simp)
            have d4 := hd 4 (by simp)
            clear hd hc
            obtain rfl := c3 d3
            obtain rfl := c4 d4
            go_simp
            refine hK _ _ ⟨_, _, _, _, _, _, _, _, _, _, _, _, _, _, _, _, _, _, g15, g16, k16, by first | rfl | simp [Act.put], fun h => (nl (h.resolve_left (by decide))).elim, fun _ => ⟨LX, ?c0, ?c1, ?c2, ?c3, ?c4, ?c5, ?c6, ?c7, ?c8, ?c9, ?c10, ?c11, ?c12, ?c13, ?c14, ?c15, ?c16, ?c17, ?cO⟩⟩
            case c0 => exact fun h0 => c0 (h0.resolve_left (by decide))
            case c1 => exact fun h1 => c1 (h1.resolve_left (by decide))
            case c2 => exact fun h2 => c2 (h2.resolve_left (by decide))
            case c3 => exact fun h3 => c3 (h3.resolve_left (by decide))
            case c4 => exact fun h4 => c4 (h4.resolve_left (by decide))
            case c5 => exact fun h5 => rfl
            case c6 => exact fun h6 => c6 (h6.resolve_left (by decide))
            case c7 => exact fun h7 => c7 (h7.resolve_left (by decide))
            case c8 => exact fun h8 => c8 (h8.resolve_left (by decide))
            case c9 => exact fun h9 => c9 (h9.resolve_left (by decide))
            case c10 => exact fun h10 => c10 (h10.resolve_left (by decide))
            case c11 => exact fun h11 => c11 (h11.resolve_left (by decide))
            case c12 => exact fun h12 => c12 (h12.resolve_left (by decide))
            case c13 => exact fun h13 => c13 (h13.resolve_left (by decide))
            case c14 => exact fun h14 => c14 (h14.resolve_left (by decide))
            case c15 => exact fun h15 m16 => c15 (h15.resolve_left (by decide)) (fun q => m16 (.inr q))
            case c16 => exact fun h16 => c16 (h16.resolve_left (by decide))
            case c17 => exact fun h17 => c17 (h17.resolve_left (by decide))
            case cO => exact fun m16 => cO (fun q => m16 (.inr q))
          · refine step_of _ [] [(18, 4)] rfl (by kernel_rfl) (by kernel_rfl) ?_
            rintro D a X hn hd hc ⟨t36, t37, t38, t39, t40, t41, t42, t43, t44, t45, t46, t47, t48, t49, t50, t51, t52, t53, g15, g16, k16, rfl, _, hrest⟩ K' hK
            have nl : ¬ D 18 := fun h => hn (hc (18, 4) (by simp) h)
            obtain ⟨LX, c0, c1, c2, c3, c4, c5, c6, c7, c8, c9, c10, c11, c12, c13, c14, c15, c16, c17, cO⟩ := hrest nl
            clear hrest
            clear hd hc
            go_simp
            refine hK _ _ ⟨_, _, _, _, _, _, _, _, _, _, _, _, _, _, _, _, _, _, g15, g16, k16, by first | rfl | simp [Act.put], fun h => (nl (h.resolve_left (by decide))).elim, fun _ => ⟨LX, ?c0, ?c1, ?c2, ?c3, ?c4, ?c5, ?c6, ?c7, ?c8, ?c9, ?c10, ?c11, ?c12, ?c13, ?c14, ?c15, ?c16, ?c17, ?cO⟩⟩
            case c0 => exact fun h0 => c0 (h0.resolve_left (by decide))
            case c1 => exact fun h1 => c1 (h1.resolve_left (by decide))
            case c2 => exact fun h2 => c2 (h2.resolve_left (by decide))
            case c3 => exact fun h3 => c3 (h3.resolve_left (by decide))
            case c4 => exact fun h4 => rfl
            case c5 => exact fun h5 => c5 (h5.resolve_left (by decide))
            case c6 => exact fun h6 => c6 (h6.resolve_left (by decide))
            case c7 => exact fun h7 => c7 (h7.resolve_left (by decide))
            case c8 => exact fun h8 => c8 (h8.resolve_left (by decide))
            case c9 => exact fun h9 => c9 (h9.resolve_left (by decide))
            case c10 => exact fun h10 => c10 (h10.resolve_left (by decide))
            case c11 => exact fun h11 => c11 (h11.resolve_left (by decide))
            case c12 => exact fun h12 => c12 (h12.resolve_left (by decide))
            case c13 => exact fun h13 => c13 (h13.resolve_left (by decide))
            case c14 => exact fun h14 => c14 (h14.resolve_left (by decide))
            case c15 => exact fun h15 m16 => c15 (h15.resolve_left (by decide)) (fun q => m16 (.inr q))
            case c16 => exact fun h16 => c16 (h16.resolve_left (by decide))
            case c17 => exact fun h17 => c17 (h17.resolve_left (by decide))
            case cO => exact fun m16 => cO (fun q => m16 (.inr q))
          · refine step_of _ [2] [(18, 3)] rfl (by kernel_rfl) (by kernel_rfl) ?_
            rintro D a X hn hd hc ⟨t36, t37, t38, t39, t40, t41, t42, t43, t44, t45, t46, t47, t48, t49, t50, t51, t52, t53, g15, g16, k16, rfl, _, hrest⟩ K' hK
            have nl : ¬ D 18 := fun h => hn (hc (18, 3) (by simp) h)
            obtain ⟨LX, c0, c1, c2, c3, c4, c5, c6, c7, c8, c9, c10, c11, c12, c13, c14, c15, c16, c17, cO⟩ := hrest nl
            clear hrest
            have d2 := hd 2 (by simp)
            clear hd hc
            obtain rfl := c2 d2
            obtain ⟨_, x0, x1⟩ := BX.out.lo (L1.out.trans (LX.out.mono hwb))
            go_simp
            refine hK _ _ ⟨_, _, _, _, _, _, _, _, _, _, _, _, _, _, _, _, _, _, g15, g16, k16, by first | rfl | simp [Act.put], fun h => (nl (h.resolve_left (by decide))).elim, fun _ => ⟨LX, ?c0, ?c1, ?c2, ?c3, ?c4, ?c5, ?c6, ?c7, ?c8, ?c9, ?c10, ?c11, ?c12, ?c13, ?c14, ?c15, ?c16, ?c17, ?cO⟩⟩
            case c0 => exact fun h0 => c0 (h0.resolve_left (by decide))
            case c1 => exact fun h1 => c1 (h1.resolve_left (by decide))
            case c2 => exact fun h2 => c2 (h2.resolve_left (by decide))
            case c3 => exact fun h3 => rfl
            case c4 => exact fun h4 => c4 (h4.resolve_left (by decide))
            case c5 => exact fun h5 => c5 (h5.resolve_left (by decide))
            case c6 => exact fun h6 => c6 (h6.resolve_left (by decide))
            case c7 => exact fun h7 => c7 (h7.resolve_left (by decide))
            case c8 => exact fun h8 => c8 (h8.resolve_left (by decide))
            case c9 => exact fun h9 => c9 (h9.resolve_left (by decide))
            case c10 => exact fun h10 => c10 (h10.resolve_left (by decide))
            case c11 => exact fun h11 => c11 (h11.resolve_left (by decide))
            case c12 => exact fun h12 => c12 (h12.resolve_left (by decide))
            case c13 => exact fun h13 => c13 (h13.resolve_left (by decide))
            case c14 => exact fun h14 => c14 (h14.resolve_left (by decide))
            case c15 => exact fun h15 m16 => c15 (h15.resolve_left (by decide)) (fun q => m16 (.inr q))
            case c16 => exact fun h16 => c16 (h16.resolve_left (by decide))
            case c17 => exact fun h17 => c17 (h17.resolve_left (by decide))
            case cO => exact fun m16 => cO (fun q => m16 (.inr q))
          · refine step_of _ [] [(18, 2)] rfl (by kernel_rfl) (by kernel_rfl) ?_
            rintro D a X hn hd hc ⟨t36, t37, t38, t39, t40, t41, t42, t43, t44, t45, t46, t47, t48, t49, t50, t51, t52, t53, g15, g16, k16, rfl, _, hrest⟩ K' hK
            have nl : ¬ D 18 := fun h => hn (hc (18, 2) (by simp) h)
            obtain ⟨LX, c0, c1, c2, c3, c4, c5, c6, c7, c8, c9, c10, c11, c12, c13, c14, c15, c16, c17, cO⟩ := hrest nl
            clear hrest
            clear hd hc
            go_simp
            refine hK _ _ ⟨_, _, _, _, _, _, _, _, _, _, _, _, _, _, _, _, _, _, g15, g16, k16, by first | rfl | simp [Act.put], fun h => (nl (h.resolve_left (by decide))).elim, fun _ => ⟨LX, ?c0, ?c1, ?c2, ?c3, ?c4, ?c5, ?c6, ?c7, ?c8, ?c9, ?c10, ?c11, ?c12, ?c13, ?c14, ?c15, ?c16, ?c17, ?cO⟩⟩
            case c0 => exact fun h0 => c0 (h0.resolve_left (by decide))
            case c1 => exact fun h1 => c1 (h1.resolve_left (by decide))
            case c2 => exact fun h2 => rfl
            case c3 => exact fun h3 => c3 (h3.resolve_left (by decide))
            case c4 => exact fun h4 => c4 (h4.resolve_left (by decide))
            case c5 => exact fun h5 => c5 (h5.resolve_left (by decide))
            case c6 => exact fun h6 => c6 (h6.resolve_left (by decide))
            case c7 => exact fun h7 => c7 (h7.resolve_left (by decide))
            case c8 => exact fun h8 => c8 (h8.resolve_left (by decide))
            case c9 => exact fun h9 => c9 (h9.resolve_left (by decide))
            case c10 => exact fun h10 => c10 (h10.resolve_left (by decide))
            case c11 => exact fun h11 => c11 (h11.resolve_left (by decide))
            case c12 => exact fun h12 => c12 (h12.resolve_left (by decide))
            case c13 => exact fun h13 => c13 (h13.resolve_left (by decide))
            case c14 => exact fun h14 => c14 (h14.resolve_left (by decide))
            case c15 => exact fun h15 m16 => c15 (h15.resolve_left (by decide)) (fun q => m16 (.inr q))
            case c16 => exact fun h16 => c16 (h16.resolve_left (by decide))
            case c17 => exact fun h17 => c17 (h17.resolve_left (by decide))
            case cO => exact fun m16 => cO (fun q => m16 (.inr q))
          · refine step_of _ [0] [(18, 1), (16, 1)] rfl (by kernel_rfl) (by kernel_rfl) ?_
            rintro D a X hn hd hc ⟨t36, t37, t38, t39, t40, t41, t42, t43, t44, t45, t46, t47, t48, t49, t50, t51, t52, t53, g15, g16, k16, rfl, _, hrest⟩ K' hK
            have nl : ¬ D 18 := fun h => hn (hc (18, 1) (by simp) h)
            obtain ⟨LX, c0, c1, c2, c3, c4, c5, c6, c7, c8, c9, c10, c11, c12, c13, c14, c15, c16, c17, cO⟩ := hrest nl
            clear hrest
            have d0 := hd 0 (by simp)
            have e16_1 := hc (16, 1) (by simp)
            clear hd hc
            obtain rfl := c0 d0
            obtain ⟨⟨hbx, o0, o1⟩, ofz, _, _, _⟩ := cO (fun h => hn (e16_1 h))
            go_simp
            refine hK _ _ ⟨_, _, _, _, _, _, _, _, _, _, _, _, _, _, _, _, _, _, g15, g16, k16, by first | rfl | simp [Act.put], fun h => (nl (h.resolve_left (by decide))).elim, fun _ => ⟨LX, ?c0, ?c1, ?c2, ?c3, ?c4, ?c5, ?c6, ?c7, ?c8, ?c9, ?c10, ?c11, ?c12, ?c13, ?c14, ?c15, ?c16, ?c17, ?cO⟩⟩
            case c0 => exact fun h0 => c0 (h0.resolve_left (by decide))
            case c1 => exact fun h1 => rfl
            case c2 => exact fun h2 => c2 (h2.resolve_left (by decide))
            case c3 => exact fun h3 => c3 (h3.resolve_left (by decide))
            case c4 => exact fun h4 => c4 (h4.resolve_left (by decide))
            case c5 => exact fun h5 => c5 (h5.resolve_left (by decide))
            case c6 => exact fun h6 => c6 (h6.resolve_left (by decide))
            case c7 => exact fun h7 => c7 (h7.resolve_left (by decide))
            case c8 => exact fun h8 => c8 (h8.resolve_left (by decide))
            case c9 => exact fun h9 => c9 (h9.resolve_left (by decide))
            case c10 => exact fun h10 => c10 (h10.resolve_left (by decide))
            case c11 => exact fun h11 => c11 (h11.resolve_left (by decide))
            case c12 => exact fun h12 => c12 (h12.resolve_left (by decide))
            case c13 => exact fun h13 => c13 (h13.resolve_left (by decide))
            case c14 => exact fun h14 => c14 (h14.resolve_left (by decide))
            case c15 => exact fun h15 m16 => c15 (h15.resolve_left (by decide)) (fun q => m16 (.inr q))
            case c16 => exact fun h16 => c16 (h16.resolve_left (by decide))
            case c17 => exact fun h17 => c17 (h17.resolve_left (by decide))
            case cO => exact fun m16 => cO (fun q => m16 (.inr q))
          · refine step_of _ [] [(18, 0)] rfl (by kernel_rfl) (by kernel_rfl) ?_
            rintro D a X hn hd hc ⟨t36, t37, t38, t39, t40, t41, t42, t43, t44, t45, t46, t47, t48, t49, t50, t51, t52, t53, g15, g16, k16, rfl, _, hrest⟩ K' hK
            have nl : ¬ D 18 := fun h => hn (hc (18, 0) (by simp) h)
            obtain ⟨LX, c0, c1, c2, c3, c4, c5, c6, c7, c8, c9, c10, c11, c12, c13, c14, c15, c16, c17, cO⟩ := hrest nl
            clear hrest
            clear hd hc
            go_simp
            refine hK _ _ ⟨_, _, _, _, _, _, _, _, _, _, _, _, _, _, _, _, _, _, g15, g16, k16, by first | rfl | simp [Act.put], fun h => (nl (h.resolve_left (by decide))).elim, fun _ => ⟨LX, ?c0, ?c1, ?c2, ?c3, ?c4, ?c5, ?c6, ?c7, ?c8, ?c9, ?c10, ?c11, ?c12, ?c13, ?c14, ?c15, ?c16, ?c17, ?cO⟩⟩
            case c0 => exact fun h0 => rfl
            case c1 => exact fun h1 => c1 (h1.resolve_left (by decide))
            case c2 => exact fun h2 => c2 (h2.resolve_left (by decide))
            case c3 => exact fun h3 => c3 (h3.resolve_left (by decide))
            case c4 => exact fun h4 => c4 (h4.resolve_left (by decide))
            case c5 => exact fun h5 => c5 (h5.resolve_left (by decide))
            case c6 => exact fun h6 => c6 (h6.resolve_left (by decide))
            case c7 => exact fun h7 => c7 (h7.resolve_left (by decide))
            case c8 => exact fun h8 => c8 (h8.resolve_left (by decide))
            case c9 => exact fun h9 => c9 (h9.resolve_left (by decide))
            case c10 => exact fun h10 => c10 (h10.resolve_left (by decide))
            case c11 => exact fun h11 => c11 (h11.resolve_left (by decide))
            case c12 => exact fun h12 => c12 (h12.resolve_left (by decide))
            case c13 => exact fun h13 => c13 (h13.resolve_left (by decide))
            case c14 => exact fun h14 => c14 (h14.resolve_left (by decide))
            case c15 => exact fun h15 m16 => c15 (h15.resolve_left (by decide)) (fun q => m16 (.inr q))
            case c16 => exact fun h16 => c16 (h16.resolve_left (by decide))
            case c17 => exact fun h17 => c17 (h17.resolve_left (by decide))
            case cO => exact fun m16 => cO (fun q => m16 (.inr q))
        · rintro D a X hall ⟨t36, t37, t38, t39, t40, t41, t42, t43, t44, t45, t46, t47, t48, t49, t50, t51, t52, t53, g15, g16, k16, rfl, hfin, _⟩
          have HFIN := Lib.hid (hfin (hall 18 (by decide)))
          clear hfin hall
          clear HO LR hbR
          obtain ⟨q2, cp2, HF2⟩ := HFIN.out
          clear HFIN
          obtain ⟨_, u0, u1⟩ := BX.out.lo (L1.out.trans (HF2.out.2.mono hwb))
          go_wp2
          go_roundw
          case rel => exact ⟨k + 1, _, _, by omega, by go_num, by rw [HT1.out, HT2.out]; exact Lib.hid HF2.out.1, Lib.hid HF2.out.2⟩
          case measure => simp [intOf]; omega
    · obtain rfl : k = n := by omega
      have hge : ¬ (k : Int) < (k : Int) := by omega
      rw [TA.out, TB.out] at HR
      obtain ⟨o0, o1⟩ := HR.out.box.2
      obtain ⟨_, y0, y1⟩ := (BY.out.lo LWX.out)
      have fy : ∀ j, wx.frozen? ⟨w.heap.size + 1, j, none⟩ = false := fun j => (LWX.out.frozen (p := ⟨w.heap.size + 1, j, none⟩) by0).trans (FY.out j)
      have fy0 := fy 0
      have fy1 := fy 1
      have hn1 : (Value.slice aa k ac).ownBlock ≠ some (w.heap.size + 1) := fun e => by have := (HR.out.r1.lt _ e).1; omega
      have hn2 : (Value.slice ba k bc).ownBlock ≠ some (w.heap.size + 1) := fun e => by have := (HR.out.r2.lt _ e).1; omega
      have R1 := Lib.hid (loadRow_a2 (ownsRow_set (ownsRow_set HR.out.r1 (w.heap.size + 1) 0 (.slice aa k ac) hn1) (w.heap.size + 1) 1 (.slice ba k bc) hn1))
      have R2 := Lib.hid (loadRow_a2 (ownsRow_set (ownsRow_set HR.out.r2 (w.heap.size + 1) 0 (.slice aa k ac) hn2) (w.heap.size + 1) 1 (.slice ba k bc) hn2))
      have LF := Lib.hid (LX.setCell (p := ⟨w.heap.size + 1, 0, none⟩) (Nat.le_succ _) (.slice aa k ac) |>.setCell (p := ⟨w.heap.size + 1, 1, none⟩) (Nat.le_succ _) (.slice ba k bc))
      have TS := Lib.hid (two_set wx (w.heap.size + 1) 0 (.slice aa k ac) (.slice ba k bc) y0 y1)
      clear LX fy hn1 hn2
      go_wp2
      obtain ⟨q0, q1, _⟩ := TS.out
      exact bodyPost_ret (v := .tuple #[.agg #[.slice aa k ac, .slice ba k bc], .bool true]) (by simp [results, Try.results46, go_sem, q0, q1]) rfl ⟨_, rfl, ⟨_, _, rfl, R1.out, R2.out⟩, LF.out⟩
end Go.Proofs.Ytnadchgekfljkaa
