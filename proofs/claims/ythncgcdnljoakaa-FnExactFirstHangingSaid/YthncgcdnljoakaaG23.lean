/- HangS, as one text. -/
import Derived.Test.YthncgcdnljoakaaG22
namespace Go.Proofs.Ythncgcdnljoakaa
section
open Go.RowKit
/-- A row of pairs of its own at block g. -/
def OwnP (w : World) (B g cap n : Nat) (xs : List (Int × Int)) : Prop := B ≤ g ∧ g < w.heap.size ∧ w.ownsRow B 134 2 (.slice (some ⟨g, 0, none⟩) n cap) n (cellsF xs)
theorem OwnP.keep {w w' : World} {B g cap n : Nat} {xs : List (Int × Int)} (h : OwnP w B g cap n xs) (hz : w.heap.size ≤ w'.heap.size) (hg : w'.heap[g]? = w.heap[g]?) : OwnP w' B g cap n xs := by
  obtain ⟨h1, h2, h3, h4⟩ := h
  refine ⟨h1, by omega, h3, ?_⟩
  rcases h4 with h | ⟨g', cap', cur, e, hb, hq, r⟩
  · exact .inl h
  · cases e
    exact .inr ⟨g, cap, cur, rfl, hb, hg.trans hq, r⟩
theorem OwnP.lo {w w' : World} {B g cap n : Nat} {xs : List (Int × Int)} (h : OwnP w B g cap n xs) (l : Below w.heap.size w w') : OwnP w' B g cap n xs := h.keep l.size (l.block g h.2.1)
theorem OwnP.grown {w w' : World} {B g g2 cap n : Nat} {xs : List (Int × Int)} (h : OwnP w B g cap n xs) (q : w.grownBy w' (some g2)) (hne : g ≠ g2) : OwnP w' B g cap n xs :=
  h.keep q.size (q.block g h.2.1 (fun e => hne (Option.some.inj e)))
/-- An empty row, just made. -/
def Emp2 (w : World) (B g : Nat) : Prop := B ≤ g ∧ g < w.heap.size ∧ w.ownsRow B 134 2 (.slice (some ⟨g, 0, none⟩) 0 0) 0 []
theorem Emp2.lo {w w' : World} {B g : Nat} (h : Emp2 w B g) (l : Below w.heap.size w w') : Emp2 w' B g := OwnP.lo (xs := []) h l
theorem Emp2.grown {w w' : World} {B g g2 : Nat} (h : Emp2 w B g) (q : w.grownBy w' (some g2)) (hne : g ≠ g2) : Emp2 w' B g := OwnP.grown (xs := []) h q hne
theorem emp2_new (w : World) {B : Nat} (hB : B ≤ w.heap.size) : Emp2 (w.alloc (.cells #[] 134)) B w.heap.size := ⟨hB, by simp, World.ownsRow_lit w #[] 0 hB (by decide) rfl⟩
theorem hat_ge {g4 g7 H B k n : Nat} (hat : (Value.slice (some ⟨g4, 0, none⟩) n k).ownBlock = some g7 ∨ g7 = H) (h1 : B ≤ g4) (h2 : B ≤ H) : B ≤ g7 := by
  rcases hat with h | h
  · have : g4 = g7 := Option.some.inj h
    omega
  · omega
theorem hat_ne {g4 g7 H q k n : Nat} (hat : (Value.slice (some ⟨g4, 0, none⟩) n k).ownBlock = some g7 ∨ g7 = H) (h1 : q ≠ g4) (h2 : q < H) : q ≠ g7 := by
  rcases hat with h | h
  · have : g4 = g7 := Option.some.inj h
    omega
  · omega
theorem OwnP.set {w : World} {B g cap n : Nat} {xs : List (Int × Int)} (h : OwnP w B g cap n xs) (b o : Nat) (u : Value) (hne : g ≠ b) : OwnP (w.setCell ⟨b, o, none⟩ u) B g cap n xs := h.keep (by simp) ((only_set w b o u).block g hne h.2.1)
theorem OwnP.base {w : World} {B B' g cap n : Nat} {xs : List (Int × Int)} (h : OwnP w B g cap n xs) (hb : B' ≤ B) : OwnP w B' g cap n xs := by
  obtain ⟨h1, h2, h3, h4⟩ := h
  refine ⟨by omega, h2, h3, ?_⟩
  rcases h4 with h | ⟨g', cap', cur, e, hb', r⟩
  · exact .inl h
  · exact .inr ⟨g', cap', cur, e, by omega, r⟩
/-- A mobile made anew: two rows of its own, apart. -/
def HighM (w : World) (B : Nat) (v : Value) (m : MobV) : Prop := ∃ g1 c1 g2 c2, v = .agg #[.slice (some ⟨g1, 0, none⟩) m.am.length c1, .slice (some ⟨g2, 0, none⟩) m.hu.length c2] ∧ OwnP w B g1 c1 m.am.length m.am ∧ OwnP w B g2 c2 m.hu.length m.hu ∧ g1 ≠ g2
theorem HighM.row {w : World} {B : Nat} {v : Value} {m : MobV} (h : HighM w B v m) : MobRow w v m := by
  obtain ⟨g1, c1, g2, c2, e, h1, h2, _⟩ := h
  exact ⟨_, _, e, loadRow_a2 h1.2.2, loadRow_a2 h2.2.2⟩
set_option maxRecDepth 100000 in
set_option maxHeartbeats 3200000 in
theorem l5Own_any (v : Value) (m : MobV) (w : World) (hv : MobRow w v m) (hf : MobF m) :
    Calls Try.prog 165 #[v] w fun e w' => ∃ u, e = .returned u ∧ HighM w' w.heap.size u m ∧ Below w.heap.size w w' := by
  have h1 := hf.one
  have h6 := hf.short
  have hs := hf.same
  obtain ⟨av, bv, rfl, ha, hh⟩ := hv
  obtain ⟨g, off, c, rfl, hgg, hca⟩ := pair_at ha (by omega)
  obtain ⟨g', off', c', rfl, hgg', hch⟩ := pair_at hh (by omega)
  obtain ⟨n, hn⟩ : ∃ n, m.am.length = n := ⟨_, rfl⟩
  obtain ⟨W, hW⟩ : ∃ W, (w.alloc (.cells #[.slice (some ⟨g, off, none⟩) n c, .slice (some ⟨g', off', none⟩) n c'] 62)).alloc (.cells #[.slice none 0 0, .slice none 0 0] 62) = W := ⟨_, rfl⟩
  have LW := Lib.hid (show Below w.heap.size w W by rw [← hW]; exact ((Below.refl _ _).alloc (Nat.le_refl _) _).alloc (by simp) _)
  have BX := Lib.hid (show Box2 W w.heap.size (.slice (some ⟨g, off, none⟩) n c) (.slice (some ⟨g', off', none⟩) n c') by rw [← hW]; exact (box2_new _ _ _ _).lo ((Below.refl _ _).alloc (Nat.le_refl _) _))
  have BY := Lib.hid (show Box2 W (w.heap.size + 1) (.slice none 0 0) (.slice none 0 0) by rw [← hW]; have := box2_new (w.alloc (.cells #[.slice (some ⟨g, off, none⟩) n c, .slice (some ⟨g', off', none⟩) n c'] 62)) (.slice none 0 0) (.slice none 0 0) 62; simpa using this)
  have FY := Lib.hid (show ∀ j, W.frozen? ⟨w.heap.size + 1, j, none⟩ = false by rw [← hW]; exact fun j => World.frozen?_alloc_at _ _ _ _ (by simp))
  have HSZ := Lib.hid (show W.heap.size = w.heap.size + 2 by rw [← hW]; simp)
  have NA := Lib.hid (fun X (l : Below W.heap.size W X) => loadRow_news (w := X) (g := g) (off := off) (xs := m.am) (fun j hj => by
    have LX := LW.out.trans (l.mono LW.out.size)
    rw [LX.cell (p := ⟨g, off + j * 2, none⟩) hgg, LX.cell (p := ⟨g, off + j * 2 + 1, none⟩) hgg]; exact hca j hj))
  have NB := Lib.hid (fun X (l : Below W.heap.size W X) => loadRow_news (w := X) (g := g') (off := off') (xs := m.hu) (fun j hj => by
    have LX := LW.out.trans (l.mono LW.out.size)
    rw [LX.cell (p := ⟨g', off' + j * 2, none⟩) hgg', LX.cell (p := ⟨g', off' + j * 2 + 1, none⟩) hgg']; exact hch j hj))
  have HLA := Lib.hid (show (cellsF m.am).length = n * 2 by rw [cellsF_len, hn])
  have HLB := Lib.hid (show (cellsF m.hu).length = n * 2 by rw [cellsF_len, hs, hn])
  have HN := Lib.hid hn
  have HNS := Lib.hid (hs.trans hn)
  rw [hs, hn]
  rw [hn] at h1 h6
  obtain ⟨i0, hi, hz0, hz1, hz2⟩ := info_parts infoA2
  clear ha hh hca hch hs hn hf
  obtain ⟨bx, u0, u1⟩ := BX.out
  go_enter Try.func165, Try.ntmps165
  go_wp2_with fail
  clear hW u0 u1 bx
  refine wp_region_inv (by kernel_rfl) (by kernel_rfl) (fun D a X => ∃ (t3 t4 t5 t6 t7 t8 t9 t10 t11 : Value) (g0 g3 k3 g4 g7 k7 : Nat), a = (⟨#[(.agg #[.slice (some ⟨g, off, none⟩) n c, .slice (some ⟨g', off', none⟩) n c']), .pointer (some ⟨w.heap.size, 0, none⟩), .pointer (some ⟨w.heap.size + 1, 0, none⟩), t3, t4, t5, t6, t7, t8, t9, t10, t11], []⟩ : Act) ∧ (D 9 → ∃ q1 k1 q2 k2, Hid ((X.cell? ⟨w.heap.size + 1, 0, none⟩ = some (.slice (some ⟨q1, 0, none⟩) n k1) ∧ X.cell? ⟨w.heap.size + 1, 1, none⟩ = some (.slice (some ⟨q2, 0, none⟩) n k2)) ∧ OwnP X W.heap.size q1 k1 n m.am ∧ OwnP X W.heap.size q2 k2 n m.hu ∧ q1 ≠ q2 ∧ Below w.heap.size w X)) ∧ (¬ D 9 → Hid (Below W.heap.size W X) ∧ (D 0 → ¬ D 3 → (t3 = .slice (some ⟨g0, 0, none⟩) 0 0 ∧ Emp2 X W.heap.size g0)) ∧ (D 1 → (t4 = .pointer (some ⟨w.heap.size, 0, none⟩))) ∧ (D 2 → (t5 = .slice (some ⟨g, off, none⟩) n c)) ∧ (D 3 → (t6 = .slice (some ⟨g3, 0, none⟩) n k3 ∧ OwnP X W.heap.size g3 k3 n m.am)) ∧ (D 4 → ¬ D 7 → (t7 = .slice (some ⟨g4, 0, none⟩) 0 0 ∧ Emp2 X W.heap.size g4)) ∧ (D 5 → (t8 = .pointer (some ⟨w.heap.size, 1, none⟩))) ∧ (D 6 → (t9 = .slice (some ⟨g', off', none⟩) n c')) ∧ (D 7 → (t10 = .slice (some ⟨g7, 0, none⟩) n k7 ∧ OwnP X W.heap.size g7 k7 n m.hu)) ∧ (D 8 → (t11 = .agg #[.slice (some ⟨g3, 0, none⟩) n k3, .slice (some ⟨g7, 0, none⟩) n k7])) ∧ (D 0 → D 4 → ¬ D 3 → ¬ D 7 → (g0 ≠ g4)) ∧ (D 3 → D 4 → ¬ D 7 → (g3 ≠ g4)) ∧ (D 3 → D 7 → (g3 ≠ g7)))) ?_ ?_ ?_
  · exact ⟨_, _, _, _, _, _, _, _, _, 0, 0, 0, 0, 0, 0, rfl, fun h => h.elim, fun _ => ⟨Lib.hid (drew_below W), fun h => h.elim, fun h => h.elim, fun h => h.elim, fun h => h.elim, fun h => h.elim, fun h => h.elim, fun h => h.elim, fun h => h.elim, fun h => h.elim, fun h => h.elim, fun h => h.elim, fun h => h.elim⟩⟩
  · refine (show ∀ i, i < 10 → StepAt _ _ _ _ _ i from ?_)
    refine lt_more (n := 9) ?_ (lt_more (n := 8) ?_ (lt_more (n := 7) ?_ (lt_more (n := 6) ?_ (lt_more (n := 5) ?_ (lt_more (n := 4) ?_ (lt_more (n := 3) ?_ (lt_more (n := 2) ?_ (lt_more (n := 1) ?_ (lt_more (n := 0) ?_ lt_none)))))))))
    · refine step_of _ [8, 7, 0, 1, 2, 3, 4, 5, 6, 7, 8] [] rfl (by kernel_rfl) (by kernel_rfl) ?_
      rintro D a X hn hd hc ⟨t3, t4, t5, t6, t7, t8, t9, t10, t11, g0, g3, k3, g4, g7, k7, rfl, _, hrest⟩ K' hK
      have nl := hn
      obtain ⟨LX, c0, c1, c2, c3, c4, c5, c6, c7, c8, s04, s34, s37⟩ := hrest nl
      clear hrest
      have d0 := hd 0 (by simp)
      have d1 := hd 1 (by simp)
      have d2 := hd 2 (by simp)
      have d3 := hd 3 (by simp)
      have d4 := hd 4 (by simp)
      have d5 := hd 5 (by simp)
      have d6 := hd 6 (by simp)
      have d7 := hd 7 (by simp)
      have d8 := hd 8 (by simp)
      clear hd hc
      obtain rfl := c8 d8
      have r3 := (c3 d3).2
      have r7 := (c7 d7).2
      have n37 := s37 d3 d7
      obtain ⟨_, y0, y1⟩ := BY.out.lo LX.out
      have f := fun j => (LX.out.frozen (p := ⟨w.heap.size + 1, j, none⟩) (by have := HSZ.out; simp only; omega)).trans (FY.out j)
      have f0 := f 0
      have f1 := f 1
      go_simp
      refine hK _ _ ⟨_, _, _, _, _, _, _, _, _, g0, g3, k3, g4, g7, k7, by first | rfl | simp [Act.put], fun _ => ?_, fun m => absurd (.inl rfl) m⟩
      have hsz := HSZ.out
      have hq3 := r3.1
      have hq7 := r7.1
      have TS := two_set X (w.heap.size + 1) 0 (.slice (some ⟨g3, 0, none⟩) n k3) (.slice (some ⟨g7, 0, none⟩) n k7) y0 y1
      exact ⟨g3, k3, g7, k7, Lib.hid ⟨⟨TS.1, TS.2.1⟩, (r3.set _ 0 _ (by omega)).set _ 1 _ (by omega), (r7.set _ 0 _ (by omega)).set _ 1 _ (by omega), n37, ((LW.out.trans (LX.out.mono LW.out.size)).setCell (p := ⟨w.heap.size + 1, 0, none⟩) (Nat.le_succ _) _).setCell (p := ⟨w.heap.size + 1, 1, none⟩) (Nat.le_succ _) _⟩⟩
    · refine step_of _ [3, 7] [(9, 8)] rfl (by kernel_rfl) (by kernel_rfl) ?_
      rintro D a X hn hd hc ⟨t3, t4, t5, t6, t7, t8, t9, t10, t11, g0, g3, k3, g4, g7, k7, rfl, _, hrest⟩ K' hK
      have nl : ¬ D 9 := fun h => hn (hc (9, 8) (by simp) h)
      obtain ⟨LX, c0, c1, c2, c3, c4, c5, c6, c7, c8, s04, s34, s37⟩ := hrest nl
      clear hrest
      have d3 := hd 3 (by simp)
      have d7 := hd 7 (by simp)
      clear hd hc
      obtain ⟨rfl, _⟩ := c3 d3
      obtain ⟨rfl, _⟩ := c7 d7
      go_simp
      refine hK _ _ ⟨_, _, _, _, _, _, _, _, _, g0, g3, k3, g4, g7, k7, by first | rfl | simp [Act.put], fun h => (nl (h.resolve_left (by decide))).elim, fun _ => ⟨LX, ?c0, ?c1, ?c2, ?c3, ?c4, ?c5, ?c6, ?c7, ?c8, ?s04, ?s34, ?s37⟩⟩
      case c0 => exact fun h0 m3 => c0 (h0.resolve_left (by decide)) (fun q => m3 (.inr q))
      case c1 => exact fun h1 => c1 (h1.resolve_left (by decide))
      case c2 => exact fun h2 => c2 (h2.resolve_left (by decide))
      case c3 => exact fun h3 => c3 (h3.resolve_left (by decide))
      case c4 => exact fun h4 m7 => c4 (h4.resolve_left (by decide)) (fun q => m7 (.inr q))
      case c5 => exact fun h5 => c5 (h5.resolve_left (by decide))
      case c6 => exact fun h6 => c6 (h6.resolve_left (by decide))
      case c7 => exact fun h7 => c7 (h7.resolve_left (by decide))
      case c8 => exact fun h8 => rfl
      case s04 => exact fun h0 h4 m3 m7 => s04 (h0.resolve_left (by decide)) (h4.resolve_left (by decide)) (fun q => m3 (.inr q)) (fun q => m7 (.inr q))
      case s34 => exact fun h3 h4 m7 => s34 (h3.resolve_left (by decide)) (h4.resolve_left (by decide)) (fun q => m7 (.inr q))
      case s37 => exact fun h3 h7 => s37 (h3.resolve_left (by decide)) (h7.resolve_left (by decide))
    · refine step_of _ [4, 6, 3] [(9, 7), (8, 7)] rfl (by kernel_rfl) (by kernel_rfl) ?_
      rintro D a X hn hd hc ⟨t3, t4, t5, t6, t7, t8, t9, t10, t11, g0, g3, k3, g4, g7, k7, rfl, _, hrest⟩ K' hK
      have nl : ¬ D 9 := fun h => hn (hc (9, 7) (by simp) h)
      obtain ⟨LX, c0, c1, c2, c3, c4, c5, c6, c7, c8, s04, s34, s37⟩ := hrest nl
      clear hrest
      have d3 := hd 3 (by simp)
      have d4 := hd 4 (by simp)
      have d6 := hd 6 (by simp)
      have e8_7 := hc (8, 7) (by simp)
      clear hd hc
      obtain ⟨rfl, r4⟩ := c4 d4 hn
      obtain rfl := c6 d6
      have hsX := LX.out.size
      refine step_append_lies _ (by rfl) _ _ _ (by rfl) W.heap.size 134 i0 _ 2 16 Try.underlying57 hi hz0 hz1 hz2 rfl (by omega) (.slice (some ⟨g4, 0, none⟩) 0 0) 0 [] (by rfl) r4.2.2 ⟨g', off', none⟩ n c' (cellsF m.hu) (by rfl) HLB.out (NB.out X LX.out) (cellsF_one m.hu) (by omega) (by unfold maxLen; omega) (by omega) hsX X.heap.size rfl ?_
      intro g7' k7' X5 hown hgrow hat hlt
      have hob : OwnP X5 W.heap.size g7' k7' n m.hu := ⟨hat_ge hat r4.1 hsX, hlt, by have h := hown; rw [Nat.zero_add, List.nil_append] at h; exact h⟩
      refine hK _ _ ⟨_, _, _, _, _, _, _, _, _, g0, g3, k3, g4, g7', k7', by first | rfl | simp [Act.put], fun h => (nl (h.resolve_left (by decide))).elim, fun _ => ⟨Lib.hid (LX.out.grown hgrow hsX (fun q hq => by cases hq; exact r4.1)), ?c0, ?c1, ?c2, ?c3, ?c4, ?c5, ?c6, ?c7, ?c8, ?s04, ?s34, ?s37⟩⟩
      case c0 => exact fun h0 m3 => ⟨(c0 (h0.resolve_left (by decide)) (fun q => m3 (.inr q))).1, (c0 (h0.resolve_left (by decide)) (fun q => m3 (.inr q))).2.grown hgrow (absurd d3 (fun q => m3 (.inr q)))⟩
      case c1 => exact fun h1 => c1 (h1.resolve_left (by decide))
      case c2 => exact fun h2 => c2 (h2.resolve_left (by decide))
      case c3 => exact fun h3 => ⟨(c3 (h3.resolve_left (by decide))).1, (c3 (h3.resolve_left (by decide))).2.grown hgrow (s34 d3 d4 hn)⟩
      case c4 => exact fun h4 m7 => absurd (.inl rfl) m7
      case c5 => exact fun h5 => c5 (h5.resolve_left (by decide))
      case c6 => exact fun h6 => c6 (h6.resolve_left (by decide))
      case c7 => exact fun h7 => ⟨by rw [Nat.zero_add], hob⟩
      case c8 => exact fun h8 => (hn (e8_7 (h8.resolve_left (by decide)))).elim
      case s04 => exact fun h0 h4 m3 m7 => absurd (.inl rfl) m7
      case s34 => exact fun h3 h4 m7 => absurd (.inl rfl) m7
      case s37 => exact fun h3 h7 => hat_ne hat (s34 d3 d4 hn) (c3 d3).2.2.1
    · refine step_of _ [5] [(9, 6)] rfl (by kernel_rfl) (by kernel_rfl) ?_
      rintro D a X hn hd hc ⟨t3, t4, t5, t6, t7, t8, t9, t10, t11, g0, g3, k3, g4, g7, k7, rfl, _, hrest⟩ K' hK
      have nl : ¬ D 9 := fun h => hn (hc (9, 6) (by simp) h)
      obtain ⟨LX, c0, c1, c2, c3, c4, c5, c6, c7, c8, s04, s34, s37⟩ := hrest nl
      clear hrest
      have d5 := hd 5 (by simp)
      clear hd hc
      obtain rfl := c5 d5
      obtain ⟨_, x0, x1⟩ := BX.out.lo LX.out
      go_simp
      refine hK _ _ ⟨_, _, _, _, _, _, _, _, _, g0, g3, k3, g4, g7, k7, by first | rfl | simp [Act.put], fun h => (nl (h.resolve_left (by decide))).elim, fun _ => ⟨LX, ?c0, ?c1, ?c2, ?c3, ?c4, ?c5, ?c6, ?c7, ?c8, ?s04, ?s34, ?s37⟩⟩
      case c0 => exact fun h0 m3 => c0 (h0.resolve_left (by decide)) (fun q => m3 (.inr q))
      case c1 => exact fun h1 => c1 (h1.resolve_left (by decide))
      case c2 => exact fun h2 => c2 (h2.resolve_left (by decide))
      case c3 => exact fun h3 => c3 (h3.resolve_left (by decide))
      case c4 => exact fun h4 m7 => c4 (h4.resolve_left (by decide)) (fun q => m7 (.inr q))
      case c5 => exact fun h5 => c5 (h5.resolve_left (by decide))
      case c6 => exact fun h6 => rfl
      case c7 => exact fun h7 => c7 (h7.resolve_left (by decide))
      case c8 => exact fun h8 => c8 (h8.resolve_left (by decide))
      case s04 => exact fun h0 h4 m3 m7 => s04 (h0.resolve_left (by decide)) (h4.resolve_left (by decide)) (fun q => m3 (.inr q)) (fun q => m7 (.inr q))
      case s34 => exact fun h3 h4 m7 => s34 (h3.resolve_left (by decide)) (h4.resolve_left (by decide)) (fun q => m7 (.inr q))
      case s37 => exact fun h3 h7 => s37 (h3.resolve_left (by decide)) (h7.resolve_left (by decide))
    · refine step_of _ [] [(9, 5)] rfl (by kernel_rfl) (by kernel_rfl) ?_
      rintro D a X hn hd hc ⟨t3, t4, t5, t6, t7, t8, t9, t10, t11, g0, g3, k3, g4, g7, k7, rfl, _, hrest⟩ K' hK
      have nl : ¬ D 9 := fun h => hn (hc (9, 5) (by simp) h)
      obtain ⟨LX, c0, c1, c2, c3, c4, c5, c6, c7, c8, s04, s34, s37⟩ := hrest nl
      clear hrest
      clear hd hc
      go_simp
      refine hK _ _ ⟨_, _, _, _, _, _, _, _, _, g0, g3, k3, g4, g7, k7, by first | rfl | simp [Act.put], fun h => (nl (h.resolve_left (by decide))).elim, fun _ => ⟨LX, ?c0, ?c1, ?c2, ?c3, ?c4, ?c5, ?c6, ?c7, ?c8, ?s04, ?s34, ?s37⟩⟩
      case c0 => exact fun h0 m3 => c0 (h0.resolve_left (by decide)) (fun q => m3 (.inr q))
      case c1 => exact fun h1 => c1 (h1.resolve_left (by decide))
      case c2 => exact fun h2 => c2 (h2.resolve_left (by decide))
      case c3 => exact fun h3 => c3 (h3.resolve_left (by decide))
      case c4 => exact fun h4 m7 => c4 (h4.resolve_left (by decide)) (fun q => m7 (.inr q))
      case c5 => exact fun h5 => rfl
      case c6 => exact fun h6 => c6 (h6.resolve_left (by decide))
      case c7 => exact fun h7 => c7 (h7.resolve_left (by decide))
      case c8 => exact fun h8 => c8 (h8.resolve_left (by decide))
      case s04 => exact fun h0 h4 m3 m7 => s04 (h0.resolve_left (by decide)) (h4.resolve_left (by decide)) (fun q => m3 (.inr q)) (fun q => m7 (.inr q))
      case s34 => exact fun h3 h4 m7 => s34 (h3.resolve_left (by decide)) (h4.resolve_left (by decide)) (fun q => m7 (.inr q))
      case s37 => exact fun h3 h7 => s37 (h3.resolve_left (by decide)) (h7.resolve_left (by decide))
    · refine step_of _ [] [(9, 4)] rfl (by kernel_rfl) (by kernel_rfl) ?_
      rintro D a X hn hd hc ⟨t3, t4, t5, t6, t7, t8, t9, t10, t11, g0, g3, k3, g4, g7, k7, rfl, _, hrest⟩ K' hK
      have nl : ¬ D 9 := fun h => hn (hc (9, 4) (by simp) h)
      obtain ⟨LX, c0, c1, c2, c3, c4, c5, c6, c7, c8, s04, s34, s37⟩ := hrest nl
      clear hrest
      clear hd hc
      have l := al X (.cells #[] 134)
      have hsX := LX.out.size
      go_simp
      refine hK _ _ ⟨_, _, _, _, _, _, _, _, _, g0, g3, k3, X.heap.size, g7, k7, by first | rfl | simp [Act.put], fun h => (nl (h.resolve_left (by decide))).elim, fun _ => ⟨Lib.hid (lo_on LX.out l), ?c0, ?c1, ?c2, ?c3, ?c4, ?c5, ?c6, ?c7, ?c8, ?s04, ?s34, ?s37⟩⟩
      case c0 => exact fun h0 m3 => ⟨(c0 (h0.resolve_left (by decide)) (fun q => m3 (.inr q))).1, (c0 (h0.resolve_left (by decide)) (fun q => m3 (.inr q))).2.lo l⟩
      case c1 => exact fun h1 => c1 (h1.resolve_left (by decide))
      case c2 => exact fun h2 => c2 (h2.resolve_left (by decide))
      case c3 => exact fun h3 => ⟨(c3 (h3.resolve_left (by decide))).1, (c3 (h3.resolve_left (by decide))).2.lo l⟩
      case c4 => exact fun h4 m7 => ⟨rfl, emp2_new X hsX⟩
      case c5 => exact fun h5 => c5 (h5.resolve_left (by decide))
      case c6 => exact fun h6 => c6 (h6.resolve_left (by decide))
      case c7 => exact fun h7 => ⟨(c7 (h7.resolve_left (by decide))).1, (c7 (h7.resolve_left (by decide))).2.lo l⟩
      case c8 => exact fun h8 => c8 (h8.resolve_left (by decide))
      case s04 => exact fun h0 h4 m3 m7 => by have := (c0 (h0.resolve_left (by decide)) (fun q => m3 (.inr q))).2.2.1; omega
      case s34 => exact fun h3 h4 m7 => by have := (c3 (h3.resolve_left (by decide))).2.2.1; omega
      case s37 => exact fun h3 h7 => s37 (h3.resolve_left (by decide)) (h7.resolve_left (by decide))
    · refine step_of _ [0, 2] [(9, 3), (7, 3), (8, 3)] rfl (by kernel_rfl) (by kernel_rfl) ?_
      rintro D a X hn hd hc ⟨t3, t4, t5, t6, t7, t8, t9, t10, t11, g0, g3, k3, g4, g7, k7, rfl, _, hrest⟩ K' hK
      have nl : ¬ D 9 := fun h => hn (hc (9, 3) (by simp) h)
      obtain ⟨LX, c0, c1, c2, c3, c4, c5, c6, c7, c8, s04, s34, s37⟩ := hrest nl
      clear hrest
      have d0 := hd 0 (by simp)
      have d2 := hd 2 (by simp)
      have e7_3 := hc (7, 3) (by simp)
      have e8_3 := hc (8, 3) (by simp)
      clear hd hc
      obtain ⟨rfl, r0⟩ := c0 d0 hn
      obtain rfl := c2 d2
      have hsX := LX.out.size
      refine step_append_lies _ (by rfl) _ _ _ (by rfl) W.heap.size 134 i0 _ 2 16 Try.underlying57 hi hz0 hz1 hz2 rfl (by omega) (.slice (some ⟨g0, 0, none⟩) 0 0) 0 [] (by rfl) r0.2.2 ⟨g, off, none⟩ n c (cellsF m.am) (by rfl) HLA.out (NA.out X LX.out) (cellsF_one m.am) (by omega) (by unfold maxLen; omega) (by omega) hsX X.heap.size rfl ?_
      intro g3' k3' X5 hown hgrow hat hlt
      have hob : OwnP X5 W.heap.size g3' k3' n m.am := ⟨hat_ge hat r0.1 hsX, hlt, by have h := hown; rw [Nat.zero_add, List.nil_append] at h; exact h⟩
      refine hK _ _ ⟨_, _, _, _, _, _, _, _, _, g0, g3', k3', g4, g7, k7, by first | rfl | simp [Act.put], fun h => (nl (h.resolve_left (by decide))).elim, fun _ => ⟨Lib.hid (LX.out.grown hgrow hsX (fun q hq => by cases hq; exact r0.1)), ?c0, ?c1, ?c2, ?c3, ?c4, ?c5, ?c6, ?c7, ?c8, ?s04, ?s34, ?s37⟩⟩
      case c0 => exact fun h0 m3 => absurd (.inl rfl) m3
      case c1 => exact fun h1 => c1 (h1.resolve_left (by decide))
      case c2 => exact fun h2 => c2 (h2.resolve_left (by decide))
      case c3 => exact fun h3 => ⟨by rw [Nat.zero_add], hob⟩
      case c4 => exact fun h4 m7 => ⟨(c4 (h4.resolve_left (by decide)) (fun q => m7 (.inr q))).1, (c4 (h4.resolve_left (by decide)) (fun q => m7 (.inr q))).2.grown hgrow (Ne.symm (s04 d0 (h4.resolve_left (by decide)) hn (fun q => m7 (.inr q))))⟩
      case c5 => exact fun h5 => c5 (h5.resolve_left (by decide))
      case c6 => exact fun h6 => c6 (h6.resolve_left (by decide))
      case c7 => exact fun h7 => (hn (e7_3 (h7.resolve_left (by decide)))).elim
      case c8 => exact fun h8 => (hn (e8_3 (h8.resolve_left (by decide)))).elim
      case s04 => exact fun h0 h4 m3 m7 => absurd (.inl rfl) m3
      case s34 => exact fun h3 h4 m7 => Ne.symm (hat_ne hat (Ne.symm (s04 d0 (h4.resolve_left (by decide)) hn (fun q => m7 (.inr q)))) (c4 (h4.resolve_left (by decide)) (fun q => m7 (.inr q))).2.2.1)
      case s37 => exact fun h3 h7 => (hn (e7_3 (h7.resolve_left (by decide)))).elim
    · refine step_of _ [1] [(9, 2)] rfl (by kernel_rfl) (by kernel_rfl) ?_
      rintro D a X hn hd hc ⟨t3, t4, t5, t6, t7, t8, t9, t10, t11, g0, g3, k3, g4, g7, k7, rfl, _, hrest⟩ K' hK
      have nl : ¬ D 9 := fun h => hn (hc (9, 2) (by simp) h)
      obtain ⟨LX, c0, c1, c2, c3, c4, c5, c6, c7, c8, s04, s34, s37⟩ := hrest nl
      clear hrest
      have d1 := hd 1 (by simp)
      clear hd hc
      obtain rfl := c1 d1
      obtain ⟨_, x0, x1⟩ := BX.out.lo LX.out
      go_simp
      refine hK _ _ ⟨_, _, _, _, _, _, _, _, _, g0, g3, k3, g4, g7, k7, by first | rfl | simp [Act.put], fun h => (nl (h.resolve_left (by decide))).elim, fun _ => ⟨LX, ?c0, ?c1, ?c2, ?c3, ?c4, ?c5, ?c6, ?c7, ?c8, ?s04, ?s34, ?s37⟩⟩
      case c0 => exact fun h0 m3 => c0 (h0.resolve_left (by decide)) (fun q => m3 (.inr q))
      case c1 => exact fun h1 => c1 (h1.resolve_left (by decide))
      case c2 => exact fun h2 => rfl
      case c3 => exact fun h3 => c3 (h3.resolve_left (by decide))
      case c4 => exact fun h4 m7 => c4 (h4.resolve_left (by decide)) (fun q => m7 (.inr q))
      case c5 => exact fun h5 => c5 (h5.resolve_left (by decide))
      case c6 => exact fun h6 => c6 (h6.resolve_left (by decide))
      case c7 => exact fun h7 => c7 (h7.resolve_left (by decide))
      case c8 => exact fun h8 => c8 (h8.resolve_left (by decide))
      case s04 => exact fun h0 h4 m3 m7 => s04 (h0.resolve_left (by decide)) (h4.resolve_left (by decide)) (fun q => m3 (.inr q)) (fun q => m7 (.inr q))
      case s34 => exact fun h3 h4 m7 => s34 (h3.resolve_left (by decide)) (h4.resolve_left (by decide)) (fun q => m7 (.inr q))
      case s37 => exact fun h3 h7 => s37 (h3.resolve_left (by decide)) (h7.resolve_left (by decide))
    · refine step_of _ [] [(9, 1)] rfl (by kernel_rfl) (by kernel_rfl) ?_
      rintro D a X hn hd hc ⟨t3, t4, t5, t6, t7, t8, t9, t10, t11, g0, g3, k3, g4, g7, k7, rfl, _, hrest⟩ K' hK
      have nl : ¬ D 9 := fun h => hn (hc (9, 1) (by simp) h)
      obtain ⟨LX, c0, c1, c2, c3, c4, c5, c6, c7, c8, s04, s34, s37⟩ := hrest nl
      clear hrest
      clear hd hc
      go_simp
      refine hK _ _ ⟨_, _, _, _, _, _, _, _, _, g0, g3, k3, g4, g7, k7, by first | rfl | simp [Act.put], fun h => (nl (h.resolve_left (by decide))).elim, fun _ => ⟨LX, ?c0, ?c1, ?c2, ?c3, ?c4, ?c5, ?c6, ?c7, ?c8, ?s04, ?s34, ?s37⟩⟩
      case c0 => exact fun h0 m3 => c0 (h0.resolve_left (by decide)) (fun q => m3 (.inr q))
      case c1 => exact fun h1 => rfl
      case c2 => exact fun h2 => c2 (h2.resolve_left (by decide))
      case c3 => exact fun h3 => c3 (h3.resolve_left (by decide))
      case c4 => exact fun h4 m7 => c4 (h4.resolve_left (by decide)) (fun q => m7 (.inr q))
      case c5 => exact fun h5 => c5 (h5.resolve_left (by decide))
      case c6 => exact fun h6 => c6 (h6.resolve_left (by decide))
      case c7 => exact fun h7 => c7 (h7.resolve_left (by decide))
      case c8 => exact fun h8 => c8 (h8.resolve_left (by decide))
      case s04 => exact fun h0 h4 m3 m7 => s04 (h0.resolve_left (by decide)) (h4.resolve_left (by decide)) (fun q => m3 (.inr q)) (fun q => m7 (.inr q))
      case s34 => exact fun h3 h4 m7 => s34 (h3.resolve_left (by decide)) (h4.resolve_left (by decide)) (fun q => m7 (.inr q))
      case s37 => exact fun h3 h7 => s37 (h3.resolve_left (by decide)) (h7.resolve_left (by decide))
    · refine step_of _ [] [(9, 0)] rfl (by kernel_rfl) (by kernel_rfl) ?_
      rintro D a X hn hd hc ⟨t3, t4, t5, t6, t7, t8, t9, t10, t11, g0, g3, k3, g4, g7, k7, rfl, _, hrest⟩ K' hK
      have nl : ¬ D 9 := fun h => hn (hc (9, 0) (by simp) h)
      obtain ⟨LX, c0, c1, c2, c3, c4, c5, c6, c7, c8, s04, s34, s37⟩ := hrest nl
      clear hrest
      clear hd hc
      have l := al X (.cells #[] 134)
      have hsX := LX.out.size
      go_simp
      refine hK _ _ ⟨_, _, _, _, _, _, _, _, _, X.heap.size, g3, k3, g4, g7, k7, by first | rfl | simp [Act.put], fun h => (nl (h.resolve_left (by decide))).elim, fun _ => ⟨Lib.hid (lo_on LX.out l), ?c0, ?c1, ?c2, ?c3, ?c4, ?c5, ?c6, ?c7, ?c8, ?s04, ?s34, ?s37⟩⟩
      case c0 => exact fun h0 m3 => ⟨rfl, emp2_new X hsX⟩
      case c1 => exact fun h1 => c1 (h1.resolve_left (by decide))
      case c2 => exact fun h2 => c2 (h2.resolve_left (by decide))
      case c3 => exact fun h3 => ⟨(c3 (h3.resolve_left (by decide))).1, (c3 (h3.resolve_left (by decide))).2.lo l⟩
      case c4 => exact fun h4 m7 => ⟨(c4 (h4.resolve_left (by decide)) (fun q => m7 (.inr q))).1, (c4 (h4.resolve_left (by decide)) (fun q => m7 (.inr q))).2.lo l⟩
      case c5 => exact fun h5 => c5 (h5.resolve_left (by decide))
      case c6 => exact fun h6 => c6 (h6.resolve_left (by decide))
      case c7 => exact fun h7 => ⟨(c7 (h7.resolve_left (by decide))).1, (c7 (h7.resolve_left (by decide))).2.lo l⟩
      case c8 => exact fun h8 => c8 (h8.resolve_left (by decide))
      case s04 => exact fun h0 h4 m3 m7 => by have := (c4 (h4.resolve_left (by decide)) (fun q => m7 (.inr q))).2.2.1; omega
      case s34 => exact fun h3 h4 m7 => s34 (h3.resolve_left (by decide)) (h4.resolve_left (by decide)) (fun q => m7 (.inr q))
      case s37 => exact fun h3 h7 => s37 (h3.resolve_left (by decide)) (h7.resolve_left (by decide))
  · rintro D a X hall ⟨t3, t4, t5, t6, t7, t8, t9, t10, t11, g0, g3, k3, g4, g7, k7, rfl, hfin, _⟩
    have HFIN := Lib.hid (hfin (hall 9 (by decide)))
    clear hfin hall
    obtain ⟨q1, k1, q2, k2, HF⟩ := HFIN.out
    clear HFIN
    go_wp2
    obtain ⟨⟨x0, x1⟩, r1, r2, n12, lf⟩ := HF.out
    have hsz := HSZ.out
    refine bodyPost_ret (v := .agg #[.slice (some ⟨q1, 0, none⟩) n k1, .slice (some ⟨q2, 0, none⟩) n k2]) (by simp [results, Try.results165, go_sem, x0, x1]) rfl ⟨_, rfl, ⟨q1, k1, q2, k2, by rw [HN.out, HNS.out], by rw [HN.out]; exact r1.base (by omega), by rw [HNS.out]; exact r2.base (by omega), n12⟩, lf⟩
end
section
open Go.RowKit
def rdM (m : MobV) : Nat → Nat
  | 0 => 0
  | T + 1 => rdM m T + if hvM m T < 0 then 1 else 0
def smM (m : MobV) (T : Nat) : Nat → Nat
  | 0 => 0
  | k + 1 => smM m T k + cntM m T (k + 1)
theorem smM_step (m : MobV) (T : Nat) : ∀ k : Nat, smM m (T + 1) k = smM m T k + if hvM m T < 0 ∧ -hvM m T ≤ (k : Int) then 1 else 0 := by
  intro k
  induction k with
  | zero =>
    rw [if_neg (by omega)]
    rfl
  | succ k ih =>
    rw [smM, smM, ih, cntM]
    have hc : ((k + 1 : Nat) : Int) = (k : Int) + 1 := by push_cast; rfl
    rw [hc]
    by_cases h1 : hvM m T = -((k : Int) + 1)
    · rw [if_pos h1, if_neg (by omega), if_pos (by omega)]; omega
    · rw [if_neg h1]
      by_cases h2 : hvM m T < 0 ∧ -hvM m T ≤ (k : Int)
      · rw [if_pos h2, if_pos (by omega)]; omega
      · rw [if_neg h2, if_neg (by omega)]; omega
theorem smM_zero (m : MobV) : ∀ k, smM m 0 k = 0 := by
  intro k
  induction k with
  | zero => rfl
  | succ k ih => rw [smM, ih]; rfl
theorem rd_sm {m : MobV} (hf : MobF m) : ∀ T, T ≤ 2 * m.am.length → rdM m T = smM m T (m.am.length - 1) := by
  have h1 := hf.one
  intro T
  induction T with
  | zero => intro _; rw [smM_zero]; rfl
  | succ T ih =>
    intro hT
    have he := (hf.ends T (by omega)).2
    rw [rdM, ih (by omega), smM_step]
    by_cases h : hvM m T < 0
    · rw [if_pos h, if_pos (by omega)]
    · rw [if_neg h, if_neg (by omega)]
theorem sm_full {m : MobV} (hf : MobF m) : ∀ k, k ≤ m.am.length - 1 → smM m (2 * m.am.length) k = k := by
  have h1 := hf.one
  intro k
  induction k with
  | zero => intro _; rfl
  | succ k ih =>
    intro hk
    rw [smM, ih (by omega), hf.once (k + 1) (by omega) (by omega)]
theorem leaf_rd {m : MobV} (hf : MobF m) : ∀ T, T ≤ 2 * m.am.length → (leavesF m T).length + rdM m T = T := by
  intro T
  induction T with
  | zero => intro _; rfl
  | succ T ih =>
    intro hT
    have ih := ih (by omega)
    have he := (hf.ends T (by omega)).2
    rw [leavesF, rdM]
    by_cases h : hvM m T < 0
    · rw [if_neg (by omega), if_pos h]; omega
    · rw [if_pos (by omega), if_neg h, List.length_append]; simp; omega
/-- One leaf more than rods. -/
theorem leaf_total {m : MobV} (hf : MobF m) : (leavesF m (2 * m.am.length)).length = m.am.length + 1 := by
  have h1 := leaf_rd hf _ (Nat.le_refl _)
  rw [rd_sm hf _ (Nat.le_refl _), sm_full hf _ (Nat.le_refl _)] at h1
  have := hf.one
  omega
theorem leaf_mono (m : MobV) (T : Nat) : ∀ d, (leavesF m T).length ≤ (leavesF m (T + d)).length := by
  intro d
  induction d with
  | zero => exact Nat.le_refl _
  | succ d ih =>
    rw [show T + (d + 1) = (T + d) + 1 from rfl, leavesF]
    split
    · rw [List.length_append]; simp; omega
    · exact ih
theorem leaf_lt {m : MobV} (hf : MobF m) (T : Nat) (hT : T < 2 * m.am.length) (h : 0 < hvM m T) : (leavesF m T).length < m.am.length + 1 := by
  have h1 := leaf_mono m (T + 1) (2 * m.am.length - (T + 1))
  rw [show T + 1 + (2 * m.am.length - (T + 1)) = 2 * m.am.length by omega, leaf_total hf, leavesF, if_pos h, List.length_append] at h1
  simp at h1
  omega
noncomputable def areB (xs : List Int) (k : Int) : Bool := propB (∀ i, i < xs.length → 1 ≤ xs.getD i 0 ∧ xs.getD i 0 ≤ 99) && decide ((xs.length : Int) = k)
set_option maxRecDepth 100000 in
set_option maxHeartbeats 1600000 in
theorem l5Are_any (v : Value) (xs : List Int) (k : Int) (w : World) (hv : IntRow w v xs) (hn : xs.length ≤ 2000000) :
    Calls Try.prog 108 #[v, .int .i64 k] w fun e w' => e = .returned (.bool (areB xs k)) ∧ w = w' := by
  obtain ⟨a, c, rfl, hr⟩ := hv
  have HR := Lib.hid hr
  have HYES := Lib.hid (fun (h : ∀ i, i < xs.length → 1 ≤ xs.getD i 0 ∧ xs.getD i 0 ≤ 99) => show areB xs k = decide ((xs.length : Int) = k) by unfold areB; rw [propB_yes h, Bool.true_and])
  have HNO := Lib.hid (fun i (hi : i < xs.length) (h : ¬ (1 ≤ xs.getD i 0 ∧ xs.getD i 0 ≤ 99)) => show areB xs k = false by unfold areB; rw [propB_no (fun f => h (f i hi)), Bool.false_and])
  obtain ⟨r, hrr⟩ : ∃ r, areB xs k = r := ⟨_, rfl⟩
  rw [hrr] at HYES HNO ⊢
  clear hr hrr
  go_enter Try.func108, Try.ntmps108
  go_wp2
  go_loopw [5] (fun x wr => ∃ i : Nat, i ≤ xs.length ∧ x = .int .i64 i ∧ Hid (∀ j, j < i → 1 ≤ xs.getD j 0 ∧ xs.getD j 0 ≤ 99) ∧ wr = w) (fun x _ => xs.length - (intOf x).toNat)
  case atStart => exact ⟨0, Nat.zero_le _, rfl, Lib.hid (fun i h => by omega), rfl⟩
  case round =>
    obtain ⟨i, hi, rfl, HZ, rfl⟩ := hrel
    by_cases hlt : i < xs.length
    · have hlt' : (i : Int) < (xs.length : Int) := by omega
      have hr := HR.out
      rcases hr with h | ⟨g, off, rfl, hg, hc⟩
      · subst h; simp at hlt
      · have ci := hc i hlt
        have HNi := Lib.hid (HNO.out i hlt)
        have HZs := Lib.hid (fun (h : 1 ≤ xs.getD i 0 ∧ xs.getD i 0 ≤ 99) => show ∀ j, j < i + 1 → 1 ≤ xs.getD j 0 ∧ xs.getD j 0 ≤ 99 from fun j hj => by
          by_cases e : j = i
          · rw [e]; exact h
          · exact HZ.out j (by omega))
        clear hc HR
        generalize xs.getD i 0 = x at ci HNi HZs
        by_cases hx : 1 ≤ x ∧ x ≤ 99
        · have HI := Lib.hid (fun w => l1In_is x 1 99 true (by simp; omega) w)
          have HZN := Lib.hid (HZs.out hx)
          clear HNi HZs
          go_wp2_with fail
          refine (HI.out _).mono ?_
          rintro e w' ⟨rfl, rfl⟩
          go_wp2
          go_roundw
          case rel => exact ⟨i + 1, by omega, by go_num, HZN, by trivial⟩
          case measure => simp [intOf]; omega
        · have HI := Lib.hid (fun w => l1In_is x 1 99 false (by simp; omega) w)
          have hrf := HNi.out hx
          subst hrf
          clear HNi HZs
          go_wp2_with fail
          refine (HI.out _).mono ?_
          rintro e w' ⟨rfl, rfl⟩
          go_wp2
          go_ret
          exact ⟨rfl, rfl⟩
    · obtain rfl : i = xs.length := by omega
      have hge : ¬ (xs.length : Int) < (xs.length : Int) := by omega
      have HRT := Lib.hid (HYES.out HZ.out)
      clear HYES HNO
      by_cases hk : (xs.length : Int) = k
      · have hkb : ((xs.length : Int) == k) = true := by simp [hk]
        have HKD := Lib.hid (show decide ((xs.length : Int) = k) = true by simp [hk])
        clear hk
        go_wp2
        go_ret
        exact ⟨congrArg (fun b => Ending.returned (Value.bool b)) (HRT.out.trans HKD.out).symm, rfl⟩
      · have hkb : ((xs.length : Int) == k) = false := by simp [hk]
        have HKD := Lib.hid (show decide ((xs.length : Int) = k) = false by simp [hk])
        clear hk
        go_wp2
        go_ret
        exact ⟨congrArg (fun b => Ending.returned (Value.bool b)) (HRT.out.trans HKD.out).symm, rfl⟩
end
section
open Go.RowKit
/-- What hangs at end t when the leaves weigh xs, in order. -/
def hgM (m : MobV) (xs : List Int) (t : Nat) : Int := if 0 < hvM m t then xs.getD (leavesF m t).length 0 else hvM m t
def hungL (m : MobV) (xs : List Int) : List (Int × Int) := (List.range m.am.length).map (fun i => (hgM m xs (2 * i), hgM m xs (2 * i + 1)))
def hangM (m : MobV) (xs : List Int) : MobV := ⟨m.am, hungL m xs⟩
def hfM (m : MobV) (xs : List Int) (T t : Nat) : Int := if t < T then hgM m xs t else hvM m t
theorem hungL_len (m : MobV) (xs : List Int) : (hungL m xs).length = m.am.length := by simp [hungL]
theorem hungL_at (m : MobV) (xs : List Int) (i : Nat) (h : i < m.am.length) : (hungL m xs).getD i (0, 0) = (hgM m xs (2 * i), hgM m xs (2 * i + 1)) := by simp [hungL, List.getD, h]
theorem OwnP.cells {w : World} {B g cap n : Nat} {m : MobV} (h : OwnP w B g cap n m.hu) (hn : m.hu.length = n) : PlcF w g (2 * n) (hvM m) := by
  obtain ⟨_, h2, h3⟩ := h
  refine ⟨h2, fun t ht => ?_, fun j => h3.frozenAt j⟩
  have hc := cellsF_at m.hu (t / 2) (by omega)
  rw [h3.cellAt t (by omega)]
  unfold hvM
  by_cases e : t % 2 = 0
  · rw [if_pos e, ← hc.1, show t / 2 * 2 = t by omega]
  · rw [if_neg e, ← hc.2, show t / 2 * 2 + 1 = t by omega]
theorem plc_row {w : World} {g n c : Nat} {m : MobV} {xs : List Int} (h : PlcF w g (2 * n) (hfM m xs (2 * n))) (hn : m.am.length = n) : LoadRow w (.slice (some ⟨g, 0, none⟩) n c) (hungL m xs) := by
  refine ⟨_, c, by rw [hungL_len, hn], .inr ⟨g, 0, rfl, h.lt, fun j hj => ?_⟩⟩
  rw [hungL_len, hn] at hj
  rw [hungL_at m xs j (by omega), Nat.zero_add, h.at_ (j * 2) (by omega), h.at_ (j * 2 + 1) (by omega)]
  unfold hfM
  rw [if_pos (by omega), if_pos (by omega), Nat.mul_comm j 2]
  exact ⟨rfl, rfl⟩
theorem PlcF.congr {w : World} {g n : Nat} {f f' : Nat → Int} (h : PlcF w g n f) (e : ∀ j, j < n → f j = f' j) : PlcF w g n f' := ⟨h.lt, fun j hj => by rw [← e j hj]; exact h.at_ j hj, h.fz⟩
theorem PlcF.lo {w w' : World} {g n : Nat} {f : Nat → Int} (h : PlcF w g n f) (l : Below w.heap.size w w') : PlcF w' g n f :=
  ⟨Nat.lt_of_lt_of_le h.lt l.size, fun j hj => by rw [l.cell (p := ⟨g, j, none⟩) h.lt]; exact h.at_ j hj, fun j => by rw [l.frozen (p := ⟨g, j, none⟩) h.lt]; exact h.fz j⟩
theorem PlcF.set_far {w : World} {g n : Nat} {f : Nat → Int} (h : PlcF w g n f) (b o : Nat) (u : Value) (hne : g ≠ b) : PlcF (w.setCell ⟨b, o, none⟩ u) g n f :=
  ⟨by simpa using h.lt, fun j hj => by rw [World.cell?_setCell_other _ _ _ _ (fun e => hne (by have := congrArg Addr.block e; simp only at this; omega))]; exact h.at_ j hj, fun j => by rw [World.frozen?_setCell]; exact h.fz j⟩
theorem Box2.set {w : World} {b g o : Nat} {x y u : Value} (h : Box2 w b x y) (hne : b ≠ g) : Box2 (w.setCell ⟨g, o, none⟩ u) b x y := by
  obtain ⟨h0, h1, h2⟩ := h
  refine ⟨by simpa using h0, ?_, ?_⟩
  · rw [World.cell?_setCell_other _ _ _ _ (fun e => hne (by have := congrArg Addr.block e; simp only at this; omega))]; exact h1
  · rw [World.cell?_setCell_other _ _ _ _ (fun e => hne (by have := congrArg Addr.block e; simp only at this; omega))]; exact h2
/-- Both rows lie in blocks from B on. -/
def FarM (B : Nat) (u : Value) : Prop := ∃ g1 n1 c1 g2 n2 c2, u = .agg #[.slice (some ⟨g1, 0, none⟩) n1 c1, .slice (some ⟨g2, 0, none⟩) n2 c2] ∧ B ≤ g1 ∧ B ≤ g2
theorem loadRow_far {w : World} {g n c b o : Nat} {x : Value} {xs : List (Int × Int)} (h : LoadRow w (.slice (some ⟨g, 0, none⟩) n c) xs) (hne : g ≠ b) : LoadRow (w.setCell ⟨b, o, none⟩ x) (.slice (some ⟨g, 0, none⟩) n c) xs := by
  obtain ⟨a, c', e, h⟩ := h
  refine ⟨a, c', e, ?_⟩
  rcases h with h | ⟨g', off, ea, hg, hc⟩
  · exact .inl h
  · subst ea
    cases e
    refine .inr ⟨g, 0, rfl, by simpa using hg, fun j hj => ?_⟩
    obtain ⟨h1, h2⟩ := hc j hj
    exact ⟨(World.cell?_setCell_other w _ _ _ (fun e => hne (by have := congrArg Addr.block e; simp only at this; omega))).trans h1, (World.cell?_setCell_other w _ _ _ (fun e => hne (by have := congrArg Addr.block e; simp only at this; omega))).trans h2⟩
theorem mobRow_far {w : World} {B b o : Nat} {x u : Value} {m : MobV} (h : MobRow w u m) (f : FarM B u) (hb : b < B) : MobRow (w.setCell ⟨b, o, none⟩ x) u m := by
  obtain ⟨g1, n1, c1, g2, n2, c2, rfl, f1, f2⟩ := f
  obtain ⟨a, b', e, h1, h2⟩ := h
  cases e
  exact ⟨_, _, rfl, loadRow_far h1 (by omega), loadRow_far h2 (by omega)⟩
set_option maxRecDepth 100000 in
set_option maxHeartbeats 6400000 in
theorem l5Hang_any (v vx : Value) (m : MobV) (xs : List Int) (w : World) (hv : MobRow w v m) (hf : MobF m) (hx : IntRow w vx xs) (hl : xs.length = m.am.length + 1) :
    Calls Try.prog 138 #[v, vx] w fun e w' => ∃ u, e = .returned u ∧ MobRow w' u (hangM m xs) ∧ FarM w.heap.size u ∧ Below w.heap.size w w' := by
  have h1 := hf.one
  have h6 := hf.short
  have hs := hf.same
  have ON := Lib.hid (fun w1 (l : Below w.heap.size w w1) => l5Own_any v m w1 (hv.lo l) hf)
  obtain ⟨av, bv, rfl, ha, hh⟩ := hv
  obtain ⟨g, off, c, rfl, hgg, hca⟩ := pair_at ha (by omega)
  obtain ⟨g', off', c', rfl, hgg', hch⟩ := pair_at hh (by omega)
  obtain ⟨ax, cx, rfl, hx⟩ := hx
  obtain ⟨gx, ox, rfl, hgx, hcx⟩ : ∃ gx ox, ax = some ⟨gx, ox, none⟩ ∧ gx < w.heap.size ∧ ∀ j, j < xs.length → w.cell? ⟨gx, ox + j, none⟩ = some (.int .i64 (xs.getD j 0)) := by
    rcases hx with h | h
    · rw [h] at hl; simp at hl
    · exact h
  obtain ⟨n, hn⟩ : ∃ n, m.am.length = n := ⟨_, rfl⟩
  have EC := Lib.hid (fun i e (h1 : i < n) (h2 : e < 2) => (end_cells hn (hs.trans hn) hca hch i e h1 h2).2)
  have XC := Lib.hid hcx
  have LT := Lib.hid (fun T (hT : T < 2 * n) (h : 0 < hvM m T) => show (leavesF m T).length < n + 1 by have := leaf_lt hf T (by omega) h; omega)
  have EN := Lib.hid (fun t (ht : t < 2 * n) => show (1 ≤ hvM m t ∧ hvM m t ≤ 99) ∨ hvM m t < 0 by have := (hf.ends t (by omega)).2; omega)
  have HSY := Lib.hid (fun T (h : 0 < hvM m T) => show leavesF m (T + 1) = leavesF m T ++ [hvM m T] by rw [leavesF, if_pos h])
  have HSN := Lib.hid (fun T (h : ¬ 0 < hvM m T) => show leavesF m (T + 1) = leavesF m T by rw [leavesF, if_neg h])
  have HG := Lib.hid (fun t => show hgM m xs t = if 0 < hvM m t then xs.getD (leavesF m t).length 0 else hvM m t from rfl)
  obtain ⟨W, hW⟩ : ∃ W, (w.alloc (.cells #[.slice (some ⟨g, off, none⟩) n c, .slice (some ⟨g', off', none⟩) n c'] 62)).alloc (.cells #[.slice none 0 0, .slice none 0 0] 62) = W := ⟨_, rfl⟩
  have LW := Lib.hid (show Below w.heap.size w W by rw [← hW]; exact ((Below.refl _ _).alloc (Nat.le_refl _) _).alloc (by simp) _)
  have BX := Lib.hid (show Box2 W w.heap.size (.slice (some ⟨g, off, none⟩) n c) (.slice (some ⟨g', off', none⟩) n c') by rw [← hW]; exact (box2_new _ _ _ _).lo ((Below.refl _ _).alloc (Nat.le_refl _) _))
  have BY := Lib.hid (show Box2 W (w.heap.size + 1) (.slice none 0 0) (.slice none 0 0) by rw [← hW]; have := box2_new (w.alloc (.cells #[.slice (some ⟨g, off, none⟩) n c, .slice (some ⟨g', off', none⟩) n c'] 62)) (.slice none 0 0) (.slice none 0 0) 62; simpa using this)
  have FY := Lib.hid (show ∀ j, W.frozen? ⟨w.heap.size + 1, j, none⟩ = false by rw [← hW]; exact fun j => World.frozen?_alloc_at _ _ _ _ (by simp))
  have HSZ := Lib.hid (show W.heap.size = w.heap.size + 2 by rw [← hW]; simp)
  have HN := Lib.hid hn
  have HNS := Lib.hid (hs.trans hn)
  rw [hs, hn] at ON
  rw [hs, hn]
  rw [hn] at h1 h6 hl
  rw [hl]
  rw [hl] at XC
  have ON1 := Lib.hid (ON.out W LW.out)
  have by0 : w.heap.size + 1 < W.heap.size := BY.out.1
  have bx0 : w.heap.size < W.heap.size := BX.out.1
  clear ha hh hca hch hs hn hf ON hcx hx hl
  obtain ⟨_, u0, u1⟩ := BX.out
  go_enter Try.func138, Try.ntmps138
  go_wp2_with fail
  clear hW u0 u1
  refine ON1.out.mono ?_
  rintro eq1 w1 ⟨uu, rfl, ⟨g1, c1, g2, c2, rfl, o1, o2, h12⟩, l1⟩
  rw [HN.out] at o1
  rw [HNS.out] at o2
  rw [HN.out, HNS.out]
  have L1 := Lib.hid l1
  have hg1 := o1.1
  have hg2 := o2.1
  have hg1' := o1.2.1
  have hg2' := o2.2.1
  have hw1 := l1.size
  obtain ⟨b, hb⟩ : ∃ b, w1.heap.size = b := ⟨_, rfl⟩
  have HB := Lib.hid hb
  obtain ⟨W2, hW2⟩ : ∃ W2, w1.alloc (.cells #[.slice (some ⟨g1, 0, none⟩) n c1, .slice (some ⟨g2, 0, none⟩) n c2] 62) = W2 := ⟨_, rfl⟩
  have L2 := Lib.hid (show Below w1.heap.size w1 W2 by rw [← hW2]; exact (Below.refl _ _).alloc (Nat.le_refl _) _)
  have BO := Lib.hid (show Box2 W2 b (.slice (some ⟨g1, 0, none⟩) n c1) (.slice (some ⟨g2, 0, none⟩) n c2) by rw [← hW2, ← hb]; exact box2_new _ _ _ _)
  have O1 := Lib.hid (o1.lo L2.out)
  have P2 := Lib.hid ((o2.cells HNS.out).lo L2.out)
  have LZ := Lib.hid (lo_on L1.out L2.out)
  clear l1 o1 o2 ON1
  go_wp2
  clear hW2
  have hbW : W.heap.size ≤ b := by omega
  have hg1b : g1 < b := by omega
  have hg2b : g2 < b := by omega
  have P20 := Lib.hid (P2.out.congr (f' := hfM m xs 0) (fun j _ => by unfold hfM; rw [if_neg (by omega)]))
  clear P2 hb
  go_loopw [6, 7] (fun y x wr => ∃ k : Nat, k ≤ n ∧ x = .int .i64 k ∧ y = .int .i64 ((leavesF m (2 * k)).length : Int) ∧ Hid (PlcF wr g2 (2 * n) (hfM m xs (2 * k))) ∧ Hid (OwnP wr W.heap.size g1 c1 n m.am) ∧ Hid (Box2 wr b (.slice (some ⟨g1, 0, none⟩) n c1) (.slice (some ⟨g2, 0, none⟩) n c2)) ∧ Hid (Below W.heap.size W wr)) (fun _ x _ => n - (intOf x).toNat)
  case atStart => exact ⟨0, Nat.zero_le _, rfl, rfl, P20, O1, BO, LZ⟩
  case round =>
    obtain ⟨k, hk, rfl, rfl, HP, HO, HB2, HL⟩ := hrel
    obtain ⟨wq, rfl⟩ : ∃ wq : World, wq = wr := ⟨_, rfl⟩
    clear P20 O1 BO LZ
    obtain ⟨_, u0, u1⟩ := BX.out.lo HL.out
    by_cases hlt : k < n
    · have hlt' : (k : Int) < (n : Int) := by omega
      go_wp2
      go_loopw [6, 8] (fun y x wr => ∃ e : Nat, e ≤ 2 ∧ x = .int .i64 e ∧ y = .int .i64 ((leavesF m (2 * k + e)).length : Int) ∧ Hid (PlcF wr g2 (2 * n) (hfM m xs (2 * k + e))) ∧ Hid (OwnP wr W.heap.size g1 c1 n m.am) ∧ Hid (Box2 wr b (.slice (some ⟨g1, 0, none⟩) n c1) (.slice (some ⟨g2, 0, none⟩) n c2)) ∧ Hid (Below W.heap.size W wr)) (fun _ x _ => 2 - (intOf x).toNat)
      case atStart => exact ⟨0, Nat.zero_le _, rfl, rfl, HP, HO, HB2, HL⟩
      case round =>
        obtain ⟨e, he, rfl, rfl, HPe, HOe, HBe, HLe⟩ := hrel
        obtain ⟨wx, rfl⟩ : ∃ wx : World, wx = wr := ⟨_, rfl⟩
        clear HP HO HB2
        by_cases hel : e < 2
        · have hel' : (e : Int) < 2 := by omega
          have hkn : ((k : Nat) : Int) < (n : Int) := hlt'
          clear u0 u1
          obtain ⟨_, u0, u1⟩ := BX.out.lo HLe.out
          have LX := LW.out.trans (HLe.out.mono LW.out.size)
          have e2 := EC.out k e hlt hel
          rw [← LX.cell (p := ⟨g', off' + k * 2 + e, none⟩) hgg'] at e2
          obtain ⟨t, ht⟩ : ∃ t, 2 * k + e = t := ⟨_, rfl⟩
          rw [ht] at HPe e2
          rw [ht]
          have HT := Lib.hid ht
          have htn : t < 2 * n := by omega
          have hlt2 := LT.out t htn
          have hen := EN.out t htn
          have hgt := HG.out t
          have hsy := HSY.out t
          have hsn := HSN.out t
          have XL := Lib.hid (fun (h : (leavesF m t).length < n + 1) => show wx.cell? ⟨gx, ox + (leavesF m t).length, none⟩ = some (.int .i64 (xs.getD (leavesF m t).length 0)) by rw [LX.cell (p := ⟨gx, ox + (leavesF m t).length, none⟩) hgx]; exact XC.out _ h)
          have FN := Lib.hid (fun j => show hfM m xs (t + 1) j = if j = t then hgM m xs t else hfM m xs t j by
            unfold hfM
            by_cases e : j = t
            · rw [e, if_pos (by omega), if_pos rfl]
            · rw [if_neg e]
              by_cases h : j < t
              · rw [if_pos h, if_pos (by omega)]
              · rw [if_neg h, if_neg (by omega)])
          have FT := Lib.hid (show hfM m xs t t = hvM m t by unfold hfM; rw [if_neg (by omega)])
          obtain ⟨h, hh⟩ : ∃ h, hvM m t = h := ⟨_, rfl⟩
          rw [hh] at e2 hlt2 hen hgt hsy hsn FT
          have tk : k * 2 + e = t := by omega
          have ct := HPe.out.at_ t htn
          have ft := HPe.out.fz t
          rw [← tk] at ct ft
          have hwx := HLe.out.size
          obtain ⟨_, b0, b1⟩ := HBe.out
          by_cases hpos : 0 < h
          · have hll := hlt2 hpos
            have cx0 := XL.out hll
            rw [if_pos hpos] at hgt
            have HLEN := Lib.hid (show ((leavesF m (t + 1)).length : Int) = ((leavesF m t).length : Int) + 1 by rw [hsy hpos, List.length_append]; simp)
            obtain ⟨L, hL⟩ : ∃ L, (leavesF m t).length = L := ⟨_, rfl⟩
            rw [hL] at cx0 hll HLEN hgt
            rw [hL]
            obtain ⟨z, hz⟩ : ∃ z, xs.getD L 0 = z := ⟨_, rfl⟩
            rw [hz] at cx0 hgt
            have hll' : (L : Int) < ((n + 1 : Nat) : Int) := by omega
            have hL0 : (0 : Int) ≤ (L : Int) := by omega
            have kb : (wx.setCell ⟨g2, k * 2 + e, none⟩ (.int .i64 z)).drew.cell? ⟨b, 1, none⟩ = some (.slice (some ⟨g2, 0, none⟩) n c2) := (World.cell?_setCell_other wx _ _ _ (fun e => by have := congrArg Addr.block e; simp only at this; omega)).trans b1
            have kx : (wx.setCell ⟨g2, k * 2 + e, none⟩ (.int .i64 z)).drew.cell? ⟨gx, ox + L, none⟩ = some (.int .i64 z) := (World.cell?_setCell_other wx _ _ _ (fun e => by have := congrArg Addr.block e; simp only at this; omega)).trans cx0
            obtain ⟨wn, hwn⟩ : ∃ wn, (wx.setCell ⟨g2, k * 2 + e, none⟩ (.int .i64 z)).drew = wn := ⟨_, rfl⟩
            have HPN := Lib.hid (show PlcF wn g2 (2 * n) (hfM m xs (t + 1)) from by
              rw [← hwn, tk]
              exact ((HPe.out.set htn z).lo (drew_below _)).congr (fun j _ => by rw [FN.out j, hgt]))
            have HON := Lib.hid (show OwnP wn W.heap.size g1 c1 n m.am by rw [← hwn]; exact (HOe.out.set g2 (k * 2 + e) (.int .i64 z) h12).lo (drew_below _))
            have HBN := Lib.hid (show Box2 wn b (.slice (some ⟨g1, 0, none⟩) n c1) (.slice (some ⟨g2, 0, none⟩) n c2) by rw [← hwn]; exact (Box2.set (o := k * 2 + e) (u := .int .i64 z) HBe.out (show b ≠ g2 by omega)).lo (drew_below _))
            have HLN := Lib.hid (show Below W.heap.size W wn by rw [← hwn]; exact lo_on (HLe.out.setCell (p := ⟨g2, k * 2 + e, none⟩) hg2 (.int .i64 z)) (drew_below _))
            have HWN := Lib.hid hwn
            clear hwn
            have hll2 : (L : Int) < (n : Int) + 1 := by omega
            have hne1 : gx ≠ g2 := by omega
            clear LX hh ht hL hz hsy hsn hgt hlt2 tk HSY HSN
            go_wp2
            have ct' : wx.drew.cell? ⟨g2, k * 2 + e, none⟩ = _ := ct
            have ft' : wx.drew.frozen? ⟨g2, k * 2 + e, none⟩ = false := ft
            go_region_held3 (fun w' => w'.cell? ⟨b, 1, none⟩ = some (.slice (some ⟨g2, 0, none⟩) n c2) ∧ w'.cell? ⟨gx, ox + L, none⟩ = some (.int .i64 z))
              (first
                | exact ⟨b1, cx0⟩
                | go_keep
                | exact ⟨kb, kx⟩)
              (first | (fail))
            rw [HWN.out]
            go_wp2
            go_roundw
            case rel => exact ⟨e + 1, by omega, by go_num, by rw [show 2 * k + (e + 1) = t + 1 by have := HT.out; omega, HLEN.out], by rw [show 2 * k + (e + 1) = t + 1 by have := HT.out; omega]; exact HPN, HON, HBN, HLN⟩
            case measure => simp [intOf]; omega
          · have HLEN := Lib.hid (show (leavesF m (t + 1)).length = (leavesF m t).length by rw [hsn (by omega)])
            rw [if_neg hpos] at hgt
            have HPN := Lib.hid (HPe.out.congr (f' := hfM m xs (t + 1)) (fun j _ => by
              rw [FN.out j]
              by_cases e : j = t
              · rw [if_pos e, e, FT.out, hgt]
              · rw [if_neg e]))
            clear LX hh ht hsy hsn hgt hlt2 tk HSY HSN ct ft
            go_wp2
            go_roundw
            case rel => exact ⟨e + 1, by omega, by go_num, by rw [show 2 * k + (e + 1) = t + 1 by have := HT.out; omega, HLEN.out], by rw [show 2 * k + (e + 1) = t + 1 by have := HT.out; omega]; exact HPN, HOe, HBe, HLe⟩
            case measure => simp [intOf]; omega
        · obtain rfl : e = 2 := by omega
          clear u0 u1
          go_wp2
          go_roundw
          case rel => exact ⟨k + 1, by omega, by go_num, by rw [show 2 * (k + 1) = 2 * k + 2 by omega], by rw [show 2 * (k + 1) = 2 * k + 2 by omega]; exact HPe, HOe, HBe, HLe⟩
          case measure => simp [intOf]; omega
    · obtain rfl : k = n := by omega
      have hge : ¬ (k : Int) < (k : Int) := by omega
      obtain ⟨_, b0, b1⟩ := HB2.out
      obtain ⟨_, y0, y1⟩ := (BY.out.lo HL.out)
      have fy : ∀ j, wq.frozen? ⟨w.heap.size + 1, j, none⟩ = false := fun j => (HL.out.frozen (p := ⟨w.heap.size + 1, j, none⟩) by0).trans (FY.out j)
      have fy0 := fy 0
      have fy1 := fy 1
      have hsz := HSZ.out
      have R1 := Lib.hid (loadRow_a2 (by have := ((HO.out.set (w.heap.size + 1) 0 (.slice (some ⟨g1, 0, none⟩) k c1) (by omega)).set (w.heap.size + 1) 1 (.slice (some ⟨g2, 0, none⟩) k c2) (by omega)).2.2; rw [HN.out]; exact this))
      have R2 := Lib.hid (plc_row (c := c2) (PlcF.set_far (PlcF.set_far HP.out (w.heap.size + 1) 0 (.slice (some ⟨g1, 0, none⟩) k c1) (by omega)) (w.heap.size + 1) 1 (.slice (some ⟨g2, 0, none⟩) k c2) (by omega)) HN.out)
      have LF := Lib.hid (((LW.out.trans (HL.out.mono LW.out.size)).setCell (p := ⟨w.heap.size + 1, 0, none⟩) (Nat.le_succ _) (.slice (some ⟨g1, 0, none⟩) k c1)).setCell (p := ⟨w.heap.size + 1, 1, none⟩) (Nat.le_succ _) (.slice (some ⟨g2, 0, none⟩) k c2))
      have TS := Lib.hid (two_set wq (w.heap.size + 1) 0 (.slice (some ⟨g1, 0, none⟩) k c1) (.slice (some ⟨g2, 0, none⟩) k c2) y0 y1)
      clear fy hsz
      go_wp2
      obtain ⟨q0, q1, _⟩ := TS.out
      exact bodyPost_ret (v := .agg #[.slice (some ⟨g1, 0, none⟩) k c1, .slice (some ⟨g2, 0, none⟩) k c2]) (by simp [results, Try.results138, go_sem, q0, q1]) rfl ⟨_, rfl, ⟨_, _, rfl, R1.out, R2.out⟩, ⟨g1, k, c1, g2, k, c2, rfl, by omega, by omega⟩, LF.out⟩
end
section
open Go.RowKit
noncomputable def hangB (m : MobV) (xs : List Int) : Bool := goodB m && areB xs ((m.am.length : Int) + 1)
noncomputable def hungM (m : MobV) (xs : List Int) : MobV := if hangB m xs = true then hangM m xs else nilM
end
end Go.Proofs.Ythncgcdnljoakaa
