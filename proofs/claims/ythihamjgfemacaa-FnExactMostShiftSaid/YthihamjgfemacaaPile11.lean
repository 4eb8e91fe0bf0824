/- A pile that is moved: the model's. -/
import Derived.Test.YthihamjgfemacaaInvRow
import Derived.Deep.RegionWith
import Derived.Deep.RegionLaw
import Derived.Test.YthihamjgfemacaaPile14
namespace Go.Proofs.Ythihamjgfemacaa
open Go.RowKit
theorem cell_al {w : World} {o : Obj} {b j : Nat} {x : Value} (hb : b < w.heap.size) (h : w.cell? ⟨b, j, none⟩ = some x) : (w.alloc o).drew.cell? ⟨b, j, none⟩ = some x := (World.cell?_of_block (Below.heap_alloc _ _ _ hb)).trans h
theorem frz_al {w : World} {o : Obj} {b j : Nat} (hb : b < w.heap.size) (h : w.frozen? ⟨b, j, none⟩ = false) : (w.alloc o).drew.frozen? ⟨b, j, none⟩ = false := (World.frozen?_of_block (Below.heap_alloc _ _ _ hb)).trans h
theorem fbox_block {w w' : World} {b : Nat} {x y z : Value} (h : FBox w b x y z) (hz : w.heap.size ≤ w'.heap.size) (q : w'.heap[b]? = w.heap[b]?) : FBox w' b x y z :=
  ⟨⟨Nat.lt_of_lt_of_le h.1.1 hz, by rw [World.cell?_of_block q]; exact h.1.2.1, by rw [World.cell?_of_block q]; exact h.1.2.2.1, by rw [World.cell?_of_block q]; exact h.1.2.2.2⟩, fun j => by rw [World.frozen?_of_block q]; exact h.2 j⟩
/-- One more number in the row that a struct names. -/
theorem round_moved {W wc wr w1 : World} {b gg g4 k cp cap B2 E2 : Nat} {wd : Int} {vws : Value} {ws : List Int} {o : Obj} {cs : List Value} (k1 : W.heap.size ≤ b) (g1 : gg ≠ b) (g2 : W.heap.size ≤ gg) (g3 : gg < B2 ∨ E2 ≤ gg) (k5 : b < B2 ∨ E2 ≤ b) (k7 : E2 ≤ wc.heap.size) (hwr : wc.heap.size ≤ wr.heap.size)
    (fb : FBox wr b (.int .i64 wd) (.slice (some ⟨gg, 0, none⟩) k cp) vws) (hown : w1.ownsRow W.heap.size 3 1 (.slice (some ⟨g4, 0, none⟩) (k + 1) cap) (k + 1) cs) (hgrow : (wr.alloc o).drew.grownBy w1 (Value.slice (some ⟨gg, 0, none⟩) k cp).ownBlock)
    (hat : (Value.slice (some ⟨gg, 0, none⟩) k cp).ownBlock = some g4 ∨ g4 = wr.heap.size + 1) (lw : Below W.heap.size W wr) (mi : MineI wr B2 E2 vws ws) :
    wc.heap.size ≤ (w1.setCell ⟨b, 1, none⟩ (.slice (some ⟨g4, 0, none⟩) (k + 1) cap)).heap.size ∧ g4 ≠ b ∧ W.heap.size ≤ g4 ∧ (g4 < B2 ∨ E2 ≤ g4) ∧ FBox (w1.setCell ⟨b, 1, none⟩ (.slice (some ⟨g4, 0, none⟩) (k + 1) cap)) b (.int .i64 wd) (.slice (some ⟨g4, 0, none⟩) (k + 1) cap) vws ∧
      (w1.setCell ⟨b, 1, none⟩ (.slice (some ⟨g4, 0, none⟩) (k + 1) cap)).ownsRow W.heap.size 3 1 (.slice (some ⟨g4, 0, none⟩) (k + 1) cap) (k + 1) cs ∧ MineI (w1.setCell ⟨b, 1, none⟩ (.slice (some ⟨g4, 0, none⟩) (k + 1) cap)) B2 E2 vws ws ∧ Below W.heap.size W (w1.setCell ⟨b, 1, none⟩ (.slice (some ⟨g4, 0, none⟩) (k + 1) cap)) := by
  have hb := fb.1.1
  have hz : wr.heap.size + 1 ≤ w1.heap.size := by have := hgrow.size; simpa using this
  have hlw := lw.size
  have hold : ∀ q, q < wr.heap.size → q ≠ gg → w1.heap[q]? = wr.heap[q]? := fun q hq hne =>
    (hgrow.block q (by simp; omega) (fun h => hne (Option.some.inj h))).trans (Below.heap_alloc _ _ _ hq)
  have h4 : g4 = gg ∨ g4 = wr.heap.size + 1 := by
    rcases hat with h | h
    · exact .inl (Option.some.inj h).symm
    · exact .inr h
  have hne : g4 ≠ b := by omega
  have f1 := fbox_block fb (by omega) (hold b hb (Ne.symm g1))
  refine ⟨by simp; omega, hne, by omega, by omega, ⟨set_box1 _ _ f1.1 _, fun j => by rw [World.frozen?_setCell]; exact f1.2 j⟩, ownsRow_set hown b 1 _ (fun h => hne (Option.some.inj h)), ?_, ?_⟩
  · exact (mine_block mi (by omega) (fun q h1 h2 h3 => hold q h3 (by omega))).part ((only_set w1 b 1 _).part (Nat.le_refl _) (Nat.lt_succ_self _)) (by omega)
  · exact (((lw.alloc hlw o).drew).grown hgrow (by simp; omega) (fun q hq => by cases hq; exact g2)).setCell (p := ⟨b, 1, none⟩) k1 _
set_option maxRecDepth 100000 in
set_option maxHeartbeats 25600000 in
theorem l4Moved_any (v : Value) (p : PileV) (y : Int) (w : World) (hv : PileRow w v p) (hf : PileF p) (y0 : -99 ≤ y) (y1 : y ≤ 99) :
    Calls Try.prog 115 #[v, .int .i64 y] w fun e w' => ∃ u, e = .returned u ∧ HighPl w' w.heap.size u (movedP p y) ∧ Below w.heap.size w w' := by
  obtain ⟨g, off, c, g', off', c', rfl, PC⟩ := pile_open hv hf
  have hn8 := hf.short
  have hsame := hf.same
  obtain ⟨W, hW⟩ : ∃ W, (w.alloc (.cells #[.int .i64 p.wd, .slice (some ⟨g, off, none⟩) p.ls.length c, .slice (some ⟨g', off', none⟩) p.ls.length c'] 63)).alloc (.cells #[.int .i64 0, .slice none 0 0, .slice none 0 0] 63) = W := ⟨_, rfl⟩
  have LW := Lib.hid (show Below w.heap.size w W by rw [← hW]; exact ((Below.refl _ _).alloc (Nat.le_refl _) _).alloc (by simp) _)
  have BX := Lib.hid (show Box3 W w.heap.size (.int .i64 p.wd) (.slice (some ⟨g, off, none⟩) p.ls.length c) (.slice (some ⟨g', off', none⟩) p.ls.length c') by rw [← hW]; exact (box3_new _ _ _ _ _).lo ((Below.refl _ _).alloc (Nat.le_refl _) _))
  have BY := Lib.hid (show Box3 W (w.heap.size + 1) (.int .i64 0) (.slice none 0 0) (.slice none 0 0) by rw [← hW]; have := box3_new (w.alloc (.cells #[.int .i64 p.wd, .slice (some ⟨g, off, none⟩) p.ls.length c, .slice (some ⟨g', off', none⟩) p.ls.length c'] 63)) (.int .i64 0) (.slice none 0 0) (.slice none 0 0) 63; simpa using this)
  have FY := Lib.hid (show ∀ j, W.frozen? ⟨w.heap.size + 1, j, none⟩ = false by rw [← hW]; exact fun j => World.frozen?_alloc_at _ _ _ _ (by simp))
  have hsz : W.heap.size = w.heap.size + 2 := by rw [← hW]; simp
  have HSZ := Lib.hid hsz
  clear hsz
  have PW := Lib.hid (PC.lo LW.out)
  obtain ⟨n, hn⟩ : ∃ n, p.ls.length = n := ⟨_, rfl⟩
  have HN := Lib.hid hn
  have OW := Lib.hid (fun w1 (l : Below W.heap.size W w1) => l1Own_any (.slice (some ⟨g', off', none⟩) n c') p.ws w1 ⟨g', off', c', by rw [hsame, hn], (PW.out.lo l).b2, fun j hj => (PW.out.lo l).c2 j (by omega)⟩ (by omega))
  have HF := Lib.hid hf
  rw [hn] at hn8 hsame hW BX ⊢
  have HSAME := Lib.hid hsame
  clear hv hf PC hn hsame
  obtain ⟨bx, u0, u1, u2⟩ := BX.out
  go_enter Try.func115, Try.ntmps115
  go_wp2_with fail
  clear hW
  go_cut [5] from 7 (fun t5 w' => OutC W p.wd p.ws n t5 w')
  case first =>
    have hn1 : 1 ≤ n := by have := HF.out.one; have := HN.out; omega
    clear u0 u1 u2 bx BY FY PW LW HF HN
    refine wp_region_inv (by kernel_rfl) (by kernel_rfl) (fun D a X => ∃ (t7 t8 t9 t10 t11 t12 t13 t5 : Value) (g2 g5 k5 b7 : Nat), a = (⟨#[(.agg #[.int .i64 p.wd, .slice (some ⟨g, off, none⟩) n c, .slice (some ⟨g', off', none⟩) n c']), .int .i64 y, .pointer (some ⟨w.heap.size, 0, none⟩), undef, .pointer (some ⟨w.heap.size + 1, 0, none⟩), t5, undef, t7, t8, t9, t10, t11, t12, t13, undef, undef, undef, undef, undef, undef, undef, undef, undef, undef, undef, undef, undef, undef, undef, undef, undef, undef, undef, undef], []⟩ : Act) ∧ (D 8 → OutC W p.wd p.ws n t5 X) ∧ (¬ D 8 → Hid (Below W.heap.size W X) ∧ (D 0 → (t7 = .pointer (some ⟨w.heap.size, 0, none⟩))) ∧ (D 1 → (t8 = .int .i64 p.wd)) ∧ (D 2 → (t9 = .slice (some ⟨g2, 0, none⟩) 0 0 ∧ EmpB X W.heap.size g2)) ∧ (D 3 → (t10 = .pointer (some ⟨w.heap.size, 2, none⟩))) ∧ (D 4 → (t11 = .slice (some ⟨g', off', none⟩) n c')) ∧ (D 5 → (t12 = .slice (some ⟨g5, 0, none⟩) n k5 ∧ OwnB X W.heap.size g5 k5 n p.ws)) ∧ (D 6 → (t13 = .agg #[.int .i64 p.wd, .slice (some ⟨g2, 0, none⟩) 0 0, .slice (some ⟨g5, 0, none⟩) n k5])) ∧ (D 7 → (t5 = .pointer (some ⟨b7, 0, none⟩) ∧ BoxB X W.heap.size b7)) ∧ (D 2 → D 5 → (g2 ≠ g5)) ∧ (D 2 → D 7 → (g2 ≠ b7)) ∧ (D 5 → D 7 → (g5 ≠ b7)))) ?_ ?_ ?_
    · exact ⟨_, _, _, _, _, _, _, _, 0, 0, 0, 0, rfl, fun h => h.elim, fun _ => ⟨Lib.hid (drew_below W), fun h => h.elim, fun h => h.elim, fun h => h.elim, fun h => h.elim, fun h => h.elim, fun h => h.elim, fun h => h.elim, fun h => h.elim, fun h => h.elim, fun h => h.elim, fun h => h.elim⟩⟩
    · refine (show ∀ i, i < 9 → StepAt _ _ _ _ _ i from ?_)
      refine lt_more (n := 8) ?_ (lt_more (n := 7) ?_ (lt_more (n := 6) ?_ (lt_more (n := 5) ?_ (lt_more (n := 4) ?_ (lt_more (n := 3) ?_ (lt_more (n := 2) ?_ (lt_more (n := 1) ?_ (lt_more (n := 0) ?_ lt_none))))))))
      · refine step_of _ [7, 6, 5, 0, 1, 2, 3, 4, 5, 6, 7] [] rfl (by kernel_rfl) (by kernel_rfl) ?_
        rintro D a X hn hd hc ⟨t7, t8, t9, t10, t11, t12, t13, t5, g2, g5, k5, b7, rfl, _, hrest⟩ K' hK
        have nl := hn
        obtain ⟨LX, c0, c1, c2, c3, c4, c5, c6, c7, s25, s27, s57⟩ := hrest nl
        clear hrest
        have d0 := hd 0 (by simp)
        have d1 := hd 1 (by simp)
        have d2 := hd 2 (by simp)
        have d3 := hd 3 (by simp)
        have d4 := hd 4 (by simp)
        have d5 := hd 5 (by simp)
        have d6 := hd 6 (by simp)
        have d7 := hd 7 (by simp)
        clear hd hc
        obtain rfl := c6 d6
        obtain ⟨rfl, hB, _, x, y, z, FB⟩ := c7 d7
        have r2 := (c2 d2).2
        have r5 := (c5 d5).2
        have n27 := s27 d2 d7
        have n57 := s57 d5 d7
        have n25 := s25 d2 d5
        obtain ⟨⟨_, x0, x1, x2⟩, f⟩ := id FB
        have f0 := f 0
        have f1 := f 1
        have f2 := f 2
        go_simp
        refine hK _ _ ⟨_, _, _, _, _, _, _, _, g2, g5, k5, b7, by first | rfl | simp [Act.put], fun _ => ?_, fun m => absurd (.inl rfl) m⟩
        have q := pset X b7 (.int .i64 p.wd) (.slice (some ⟨g2, 0, none⟩) 0 0) (.slice (some ⟨g5, 0, none⟩) n k5)
        have z2 := r2.1
        have z5 := r5.1
        have z6 := r5.2.1
        have zq := q.size
        have hw := LX.out.size
        exact ⟨b7, g2, _, k5, g5, g5 + 1, rfl, Lib.hid ⟨⟨hB, r2.1, n27, r5.1, by omega, by omega, by omega⟩, fset X _ FB _ _ _, (r2.part q (by omega)).2.2, (r5.part q (by omega)).mine HSAME.out, LX.out.trans ((q.below (by omega)).mono (by omega))⟩⟩
      · refine step_of _ [] [(8, 7)] rfl (by kernel_rfl) (by kernel_rfl) ?_
        rintro D a X hn hd hc ⟨t7, t8, t9, t10, t11, t12, t13, t5, g2, g5, k5, b7, rfl, _, hrest⟩ K' hK
        have nl : ¬ D 8 := fun h => hn (hc (8, 7) (by simp) h)
        obtain ⟨LX, c0, c1, c2, c3, c4, c5, c6, c7, s25, s27, s57⟩ := hrest nl
        clear hrest
        clear hd hc
        have l := al X (.cells #[.int .i64 0, .slice none 0 0, .slice none 0 0] 63)
        have hsX := LX.out.size
        go_simp
        refine hK _ _ ⟨_, _, _, _, _, _, _, _, g2, g5, k5, X.heap.size, by first | rfl | simp [Act.put], fun h => (nl (h.resolve_left (by decide))).elim, fun _ => ⟨Lib.hid (lo_on LX.out l), ?c0, ?c1, ?c2, ?c3, ?c4, ?c5, ?c6, ?c7, ?s25, ?s27, ?s57⟩⟩
        case c0 => exact fun h0 => c0 (h0.resolve_left (by decide))
        case c1 => exact fun h1 => c1 (h1.resolve_left (by decide))
        case c2 => exact fun h2 => ⟨(c2 (h2.resolve_left (by decide))).1, (c2 (h2.resolve_left (by decide))).2.lo l⟩
        case c3 => exact fun h3 => c3 (h3.resolve_left (by decide))
        case c4 => exact fun h4 => c4 (h4.resolve_left (by decide))
        case c5 => exact fun h5 => ⟨(c5 (h5.resolve_left (by decide))).1, (c5 (h5.resolve_left (by decide))).2.lo l⟩
        case c6 => exact fun h6 => c6 (h6.resolve_left (by decide))
        case c7 => exact fun h7 => ⟨rfl, hsX, by simp, _, _, _, fbox_new X _ _ _ _⟩
        case s25 => exact fun h2 h5 => s25 (h2.resolve_left (by decide)) (h5.resolve_left (by decide))
        case s27 => exact fun h2 h7 => by have := (c2 (h2.resolve_left (by decide))).2.2.1; omega
        case s57 => exact fun h5 h7 => by have := (c5 (h5.resolve_left (by decide))).2.2.1; omega
      · refine step_of _ [1, 2, 5] [(8, 6)] rfl (by kernel_rfl) (by kernel_rfl) ?_
        rintro D a X hn hd hc ⟨t7, t8, t9, t10, t11, t12, t13, t5, g2, g5, k5, b7, rfl, _, hrest⟩ K' hK
        have nl : ¬ D 8 := fun h => hn (hc (8, 6) (by simp) h)
        obtain ⟨LX, c0, c1, c2, c3, c4, c5, c6, c7, s25, s27, s57⟩ := hrest nl
        clear hrest
        have d1 := hd 1 (by simp)
        have d2 := hd 2 (by simp)
        have d5 := hd 5 (by simp)
        clear hd hc
        obtain rfl := c1 d1
        obtain ⟨rfl, _⟩ := c2 d2
        obtain ⟨rfl, _⟩ := c5 d5
        go_simp
        refine hK _ _ ⟨_, _, _, _, _, _, _, _, g2, g5, k5, b7, by first | rfl | simp [Act.put], fun h => (nl (h.resolve_left (by decide))).elim, fun _ => ⟨LX, ?c0, ?c1, ?c2, ?c3, ?c4, ?c5, ?c6, ?c7, ?s25, ?s27, ?s57⟩⟩
        case c0 => exact fun h0 => c0 (h0.resolve_left (by decide))
        case c1 => exact fun h1 => c1 (h1.resolve_left (by decide))
        case c2 => exact fun h2 => c2 (h2.resolve_left (by decide))
        case c3 => exact fun h3 => c3 (h3.resolve_left (by decide))
        case c4 => exact fun h4 => c4 (h4.resolve_left (by decide))
        case c5 => exact fun h5 => c5 (h5.resolve_left (by decide))
        case c6 => exact fun h6 => rfl
        case c7 => exact fun h7 => c7 (h7.resolve_left (by decide))
        case s25 => exact fun h2 h5 => s25 (h2.resolve_left (by decide)) (h5.resolve_left (by decide))
        case s27 => exact fun h2 h7 => s27 (h2.resolve_left (by decide)) (h7.resolve_left (by decide))
        case s57 => exact fun h5 h7 => s57 (h5.resolve_left (by decide)) (h7.resolve_left (by decide))
      · refine step_of _ [4] [(8, 5), (6, 5)] rfl (by kernel_rfl) (by kernel_rfl) ?_
        rintro D a X hn hd hc ⟨t7, t8, t9, t10, t11, t12, t13, t5, g2, g5, k5, b7, rfl, _, hrest⟩ K' hK
        have nl : ¬ D 8 := fun h => hn (hc (8, 5) (by simp) h)
        obtain ⟨LX, c0, c1, c2, c3, c4, c5, c6, c7, s25, s27, s57⟩ := hrest nl
        clear hrest
        have d4 := hd 4 (by simp)
        have e6_5 := hc (6, 5) (by simp)
        clear hd hc
        obtain rfl := c4 d4
        have C := OW.out X LX.out
        go_simp
        refine C.mono ?_
        rintro e X5 ⟨v5, rfl, o5, l⟩
        obtain ⟨g5', k5', rfl, hge, hob⟩ := own_open o5 HSAME.out hn1
        go_simp
        refine hK _ _ ⟨_, _, _, _, _, _, _, _, g2, g5', k5', b7, by first | rfl | simp [Act.put], fun h => (nl (h.resolve_left (by decide))).elim, fun _ => ⟨Lib.hid (lo_on LX.out l), ?c0, ?c1, ?c2, ?c3, ?c4, ?c5, ?c6, ?c7, ?s25, ?s27, ?s57⟩⟩
        case c0 => exact fun h0 => c0 (h0.resolve_left (by decide))
        case c1 => exact fun h1 => c1 (h1.resolve_left (by decide))
        case c2 => exact fun h2 => ⟨(c2 (h2.resolve_left (by decide))).1, (c2 (h2.resolve_left (by decide))).2.lo l⟩
        case c3 => exact fun h3 => c3 (h3.resolve_left (by decide))
        case c4 => exact fun h4 => c4 (h4.resolve_left (by decide))
        case c5 => exact fun h5 => ⟨rfl, hob.base LX.out.size⟩
        case c6 => exact fun h6 => (hn (e6_5 (h6.resolve_left (by decide)))).elim
        case c7 => exact fun h7 => ⟨(c7 (h7.resolve_left (by decide))).1, (c7 (h7.resolve_left (by decide))).2.lo l⟩
        case s25 => exact fun h2 h5 => by have := (c2 (h2.resolve_left (by decide))).2.2.1; omega
        case s27 => exact fun h2 h7 => s27 (h2.resolve_left (by decide)) (h7.resolve_left (by decide))
        case s57 => exact fun h5 h7 => by have := (c7 (h7.resolve_left (by decide))).2.2.1; omega
      · refine step_of _ [3] [(8, 4)] rfl (by kernel_rfl) (by kernel_rfl) ?_
        rintro D a X hn hd hc ⟨t7, t8, t9, t10, t11, t12, t13, t5, g2, g5, k5, b7, rfl, _, hrest⟩ K' hK
        have nl : ¬ D 8 := fun h => hn (hc (8, 4) (by simp) h)
        obtain ⟨LX, c0, c1, c2, c3, c4, c5, c6, c7, s25, s27, s57⟩ := hrest nl
        clear hrest
        have d3 := hd 3 (by simp)
        clear hd hc
        obtain rfl := c3 d3
        obtain ⟨_, x0, x1, x2⟩ := BX.out.lo LX.out
        go_simp
        refine hK _ _ ⟨_, _, _, _, _, _, _, _, g2, g5, k5, b7, by first | rfl | simp [Act.put], fun h => (nl (h.resolve_left (by decide))).elim, fun _ => ⟨LX, ?c0, ?c1, ?c2, ?c3, ?c4, ?c5, ?c6, ?c7, ?s25, ?s27, ?s57⟩⟩
        case c0 => exact fun h0 => c0 (h0.resolve_left (by decide))
        case c1 => exact fun h1 => c1 (h1.resolve_left (by decide))
        case c2 => exact fun h2 => c2 (h2.resolve_left (by decide))
        case c3 => exact fun h3 => c3 (h3.resolve_left (by decide))
        case c4 => exact fun h4 => rfl
        case c5 => exact fun h5 => c5 (h5.resolve_left (by decide))
        case c6 => exact fun h6 => c6 (h6.resolve_left (by decide))
        case c7 => exact fun h7 => c7 (h7.resolve_left (by decide))
        case s25 => exact fun h2 h5 => s25 (h2.resolve_left (by decide)) (h5.resolve_left (by decide))
        case s27 => exact fun h2 h7 => s27 (h2.resolve_left (by decide)) (h7.resolve_left (by decide))
        case s57 => exact fun h5 h7 => s57 (h5.resolve_left (by decide)) (h7.resolve_left (by decide))
      · refine step_of _ [] [(8, 3)] rfl (by kernel_rfl) (by kernel_rfl) ?_
        rintro D a X hn hd hc ⟨t7, t8, t9, t10, t11, t12, t13, t5, g2, g5, k5, b7, rfl, _, hrest⟩ K' hK
        have nl : ¬ D 8 := fun h => hn (hc (8, 3) (by simp) h)
        obtain ⟨LX, c0, c1, c2, c3, c4, c5, c6, c7, s25, s27, s57⟩ := hrest nl
        clear hrest
        clear hd hc
        go_simp
        refine hK _ _ ⟨_, _, _, _, _, _, _, _, g2, g5, k5, b7, by first | rfl | simp [Act.put], fun h => (nl (h.resolve_left (by decide))).elim, fun _ => ⟨LX, ?c0, ?c1, ?c2, ?c3, ?c4, ?c5, ?c6, ?c7, ?s25, ?s27, ?s57⟩⟩
        case c0 => exact fun h0 => c0 (h0.resolve_left (by decide))
        case c1 => exact fun h1 => c1 (h1.resolve_left (by decide))
        case c2 => exact fun h2 => c2 (h2.resolve_left (by decide))
        case c3 => exact fun h3 => rfl
        case c4 => exact fun h4 => c4 (h4.resolve_left (by decide))
        case c5 => exact fun h5 => c5 (h5.resolve_left (by decide))
        case c6 => exact fun h6 => c6 (h6.resolve_left (by decide))
        case c7 => exact fun h7 => c7 (h7.resolve_left (by decide))
        case s25 => exact fun h2 h5 => s25 (h2.resolve_left (by decide)) (h5.resolve_left (by decide))
        case s27 => exact fun h2 h7 => s27 (h2.resolve_left (by decide)) (h7.resolve_left (by decide))
        case s57 => exact fun h5 h7 => s57 (h5.resolve_left (by decide)) (h7.resolve_left (by decide))
      · refine step_of _ [] [(8, 2), (6, 2)] rfl (by kernel_rfl) (by kernel_rfl) ?_
        rintro D a X hn hd hc ⟨t7, t8, t9, t10, t11, t12, t13, t5, g2, g5, k5, b7, rfl, _, hrest⟩ K' hK
        have nl : ¬ D 8 := fun h => hn (hc (8, 2) (by simp) h)
        obtain ⟨LX, c0, c1, c2, c3, c4, c5, c6, c7, s25, s27, s57⟩ := hrest nl
        clear hrest
        have e6_2 := hc (6, 2) (by simp)
        clear hd hc
        have l := al X (.cells #[] 3)
        have hsX := LX.out.size
        go_simp
        refine hK _ _ ⟨_, _, _, _, _, _, _, _, X.heap.size, g5, k5, b7, by first | rfl | simp [Act.put], fun h => (nl (h.resolve_left (by decide))).elim, fun _ => ⟨Lib.hid (lo_on LX.out l), ?c0, ?c1, ?c2, ?c3, ?c4, ?c5, ?c6, ?c7, ?s25, ?s27, ?s57⟩⟩
        case c0 => exact fun h0 => c0 (h0.resolve_left (by decide))
        case c1 => exact fun h1 => c1 (h1.resolve_left (by decide))
        case c2 => exact fun h2 => ⟨rfl, emp_new X hsX⟩
        case c3 => exact fun h3 => c3 (h3.resolve_left (by decide))
        case c4 => exact fun h4 => c4 (h4.resolve_left (by decide))
        case c5 => exact fun h5 => ⟨(c5 (h5.resolve_left (by decide))).1, (c5 (h5.resolve_left (by decide))).2.lo l⟩
        case c6 => exact fun h6 => (hn (e6_2 (h6.resolve_left (by decide)))).elim
        case c7 => exact fun h7 => ⟨(c7 (h7.resolve_left (by decide))).1, (c7 (h7.resolve_left (by decide))).2.lo l⟩
        case s25 => exact fun h2 h5 => by have := (c5 (h5.resolve_left (by decide))).2.2.1; omega
        case s27 => exact fun h2 h7 => by have := (c7 (h7.resolve_left (by decide))).2.2.1; omega
        case s57 => exact fun h5 h7 => s57 (h5.resolve_left (by decide)) (h7.resolve_left (by decide))
      · refine step_of _ [0] [(8, 1)] rfl (by kernel_rfl) (by kernel_rfl) ?_
        rintro D a X hn hd hc ⟨t7, t8, t9, t10, t11, t12, t13, t5, g2, g5, k5, b7, rfl, _, hrest⟩ K' hK
        have nl : ¬ D 8 := fun h => hn (hc (8, 1) (by simp) h)
        obtain ⟨LX, c0, c1, c2, c3, c4, c5, c6, c7, s25, s27, s57⟩ := hrest nl
        clear hrest
        have d0 := hd 0 (by simp)
        clear hd hc
        obtain rfl := c0 d0
        obtain ⟨_, x0, x1, x2⟩ := BX.out.lo LX.out
        go_simp
        refine hK _ _ ⟨_, _, _, _, _, _, _, _, g2, g5, k5, b7, by first | rfl | simp [Act.put], fun h => (nl (h.resolve_left (by decide))).elim, fun _ => ⟨LX, ?c0, ?c1, ?c2, ?c3, ?c4, ?c5, ?c6, ?c7, ?s25, ?s27, ?s57⟩⟩
        case c0 => exact fun h0 => c0 (h0.resolve_left (by decide))
        case c1 => exact fun h1 => rfl
        case c2 => exact fun h2 => c2 (h2.resolve_left (by decide))
        case c3 => exact fun h3 => c3 (h3.resolve_left (by decide))
        case c4 => exact fun h4 => c4 (h4.resolve_left (by decide))
        case c5 => exact fun h5 => c5 (h5.resolve_left (by decide))
        case c6 => exact fun h6 => c6 (h6.resolve_left (by decide))
        case c7 => exact fun h7 => c7 (h7.resolve_left (by decide))
        case s25 => exact fun h2 h5 => s25 (h2.resolve_left (by decide)) (h5.resolve_left (by decide))
        case s27 => exact fun h2 h7 => s27 (h2.resolve_left (by decide)) (h7.resolve_left (by decide))
        case s57 => exact fun h5 h7 => s57 (h5.resolve_left (by decide)) (h7.resolve_left (by decide))
      · refine step_of _ [] [(8, 0)] rfl (by kernel_rfl) (by kernel_rfl) ?_
        rintro D a X hn hd hc ⟨t7, t8, t9, t10, t11, t12, t13, t5, g2, g5, k5, b7, rfl, _, hrest⟩ K' hK
        have nl : ¬ D 8 := fun h => hn (hc (8, 0) (by simp) h)
        obtain ⟨LX, c0, c1, c2, c3, c4, c5, c6, c7, s25, s27, s57⟩ := hrest nl
        clear hrest
        clear hd hc
        go_simp
        refine hK _ _ ⟨_, _, _, _, _, _, _, _, g2, g5, k5, b7, by first | rfl | simp [Act.put], fun h => (nl (h.resolve_left (by decide))).elim, fun _ => ⟨LX, ?c0, ?c1, ?c2, ?c3, ?c4, ?c5, ?c6, ?c7, ?s25, ?s27, ?s57⟩⟩
        case c0 => exact fun h0 => rfl
        case c1 => exact fun h1 => c1 (h1.resolve_left (by decide))
        case c2 => exact fun h2 => c2 (h2.resolve_left (by decide))
        case c3 => exact fun h3 => c3 (h3.resolve_left (by decide))
        case c4 => exact fun h4 => c4 (h4.resolve_left (by decide))
        case c5 => exact fun h5 => c5 (h5.resolve_left (by decide))
        case c6 => exact fun h6 => c6 (h6.resolve_left (by decide))
        case c7 => exact fun h7 => c7 (h7.resolve_left (by decide))
        case s25 => exact fun h2 h5 => s25 (h2.resolve_left (by decide)) (h5.resolve_left (by decide))
        case s27 => exact fun h2 h7 => s27 (h2.resolve_left (by decide)) (h7.resolve_left (by decide))
        case s57 => exact fun h5 h7 => s57 (h5.resolve_left (by decide)) (h7.resolve_left (by decide))
    · rintro D a X hall ⟨t7, t8, t9, t10, t11, t12, t13, t5, g2, g5, k5, b7, rfl, hfin, _⟩
      have HFIN := Lib.hid (hfin (hall 8 (by decide)))
      clear hfin hall
      go_wp2
      go_meet
      exact HFIN.out
  case rest =>
    clear u0 u1 u2 OW
    obtain ⟨b, e, sa, sc, B2, E2, rfl, HC⟩ := hcut
    obtain ⟨⟨k1, k2, k3, k4, k5, k6, k7⟩, hbx, he, hm, hl⟩ := HC.out
    obtain ⟨i0, hi, hz0, hz1, hz2⟩ := info_parts infoInt
    have own0 := (show wc.ownsRow W.heap.size 3 1 (.slice (some ⟨e, 0, none⟩) 0 0) 0 [] from ⟨rfl, .inr ⟨e, 0, #[], rfl, k2, he, Nat.le_refl _, Nat.zero_le _, rfl, rfl⟩⟩)
    have HL := Lib.hid hl
    have hwc := hl.size
    have KK := Lib.hid (And.intro hbx (And.intro own0 hm))
    obtain ⟨_, u0, u1, u2⟩ := BX.out.lo hl
    clear hbx he hm hl own0 HC
    go_wp2
    clear u0 u1 u2
    go_loopw [6] (fun x wr => ∃ k : Nat, k ≤ n ∧ x = .int .i64 k ∧ wc.heap.size ≤ wr.heap.size ∧ Hid (∃ (gg cp : Nat), gg ≠ b ∧ W.heap.size ≤ gg ∧ (gg < B2 ∨ E2 ≤ gg) ∧ FBox wr b (.int .i64 p.wd) (.slice (some ⟨gg, 0, none⟩) k cp) (.slice sa n sc) ∧ wr.ownsRow W.heap.size 3 1 (.slice (some ⟨gg, 0, none⟩) k cp) k (icells ((p.ls.map (· + y)).take k)) ∧ MineI wr B2 E2 (.slice sa n sc) p.ws ∧ Below W.heap.size W wr)) (fun x _ => n - (intOf x).toNat)
    case atStart => exact ⟨0, Nat.zero_le _, rfl, Nat.le_refl _, Lib.hid ⟨e, 0, k3, k2, k6, KK.out.1, KK.out.2.1, KK.out.2.2, HL.out⟩⟩
    case round =>
      obtain ⟨k, hk, rfl, hwr, HR⟩ := hrel
      obtain ⟨gg, cp, g1, g2, g3, fb, ow, mi, lw⟩ := HR.out
      have LW2 := Lib.hid lw
      have MI := Lib.hid mi
      have FB := Lib.hid fb
      have hgg : gg < wr.heap.size := by
        rcases ow.2 with ⟨h, _⟩ | ⟨q, _, _, h, _, hq, _⟩
        · cases h
        · cases h; exact heap_lt hq
      obtain ⟨_, x0, x1, x2⟩ := BX.out.lo lw
      obtain ⟨⟨hbz, y0', y1', y2'⟩, fz⟩ := fb
      by_cases hlt : k < n
      · have hlt' : (k : Int) < (n : Int) := by omega
        have ck := (PW.out.lo lw).c1 k (by rw [HN.out]; exact hlt)
        have hx := (HF.out.each k (by rw [HN.out]; exact hlt)).1
        have HS := Lib.hid (show (p.ls.map (· + y)).take (k + 1) = (p.ls.map (· + y)).take k ++ [p.ls.getD k 0 + y] by rw [take_snocP _ k (by rw [List.length_map, HN.out]; exact hlt), getD_map _ _ _ (by rw [HN.out]; exact hlt)])
        generalize p.ls.getD k 0 = x at ck hx HS
        obtain ⟨hx0, hx1⟩ := hx
        have f1 := fz 1
        have H1 := Lib.hid (wrap_small (x + y) (by omega) (by omega))
        have hkl : ((p.ls.map (· + y)).take k).length = k := by rw [List.length_take, List.length_map, HN.out]; omega
        have HKL := Lib.hid hkl
        have OWH := Lib.hid ow
        have hwS := lw.size
        clear fz mi lw HR hkl ow
        go_wp2
        have h1 := H1.out
        go_region_law ((refine step_append_lies _ (by rfl) _ _ _ (by rfl) W.heap.size 3 i0 _ 1 8 Try.underlying58 hi hz0 hz1 hz2 rfl (by omega) (.slice (some ⟨gg, 0, none⟩) k cp) k _ (by rfl) ((OWH.out.alloc _).drew) ⟨wr.heap.size, 0, none⟩ 1 1 [.int .i64 (x + y)] (by rfl) (by rfl) (World.news_of_block (cs := #[.int .i64 (x + y)]) (t := 3) (fr := (0, 0)) (heap_alloc_new wr _)) (by simp [Value.oneCell']) (by omega) (by unfold maxLen; omega) (by omega) (by simp; omega) (wr.heap.size + 1) (by simp) ?_; intro g4 cap w1 hown1 hgrow hat hlt4; have qb := hgrow.block b (by simp; omega) (fun h => g1 (Option.some.inj h).symm); have z1 := (World.cell?_of_block (a := ⟨b, 1, none⟩) qb).trans (cell_al hbz y1'); have zf := (World.frozen?_of_block (a := ⟨b, 1, none⟩) qb).trans (frz_al hbz f1)))
        all_goals
          (have RES := round_moved k1 g1 g2 g3 k5 k7 hwr FB.out hown1 hgrow hat LW2.out MI.out
           have RE := Lib.hid RES
           clear RES hown1 hgrow hat hlt4 qb z1 zf h1 H1 ck x0 x1 x2 y0' y1' y2' f1
           go_wp2
           go_roundw)
        all_goals first
          | (case rel => exact ⟨k + 1, by omega, by go_num, RE.out.1, Lib.hid ⟨g4, cap, RE.out.2.1, RE.out.2.2.1, RE.out.2.2.2.1, RE.out.2.2.2.2.1, by rw [HS.out, icells_app]; exact RE.out.2.2.2.2.2.1, RE.out.2.2.2.2.2.2.1, RE.out.2.2.2.2.2.2.2⟩⟩)
          | (case measure => simp [intOf]; omega)
          | (simp [intOf]; omega)
      · obtain rfl : k = n := by omega
        have hge : ¬ (k : Int) < (k : Int) := by omega
        have hT := Lib.hid (show (p.ls.map (· + y)).take k = p.ls.map (· + y) from List.take_of_length_le (by rw [List.length_map, HN.out]; exact Nat.le_refl _))
        have BYr := BY.out.lo lw
        obtain ⟨by0, r0, r1, r2⟩ := BYr
        have fzr : ∀ j, wr.frozen? ⟨w.heap.size + 1, j, none⟩ = false := fun j => by rw [lw.frozen (p := ⟨w.heap.size + 1, j, none⟩) BY.out.1]; exact FY.out j
        have fr0 := fzr 0
        have fr1 := fzr 1
        have fr2 := fzr 2
        have M1 := Lib.hid (show MineI wr W.heap.size wr.heap.size (.slice (some ⟨gg, 0, none⟩) k cp) (p.ls.map (· + y)) from by
          have := mine_own (xs := p.ls.map (· + y)) (B := W.heap.size) (e := 3) (v := .slice (some ⟨gg, 0, none⟩) k cp) (w := wr) (by rw [List.length_map, HN.out]; rw [hT.out] at ow; exact ow)
          exact this)
        have TS := Lib.hid (three_set wr _ ⟨by0, r0, r1, r2⟩ (.int .i64 p.wd) (.slice (some ⟨gg, 0, none⟩) k cp) (.slice sa k sc))
        have PA := Lib.hid (pset wr (w.heap.size + 1) (.int .i64 p.wd) (.slice (some ⟨gg, 0, none⟩) k cp) (.slice sa k sc))
        clear fzr ow mi lw HR
        go_wp2
        obtain ⟨_, q0, q1, q2⟩ := TS.out
        have hszz := HSZ.out
        have hpz := PA.out.size
        refine bodyPost_ret (v := .agg #[.int .i64 p.wd, .slice (some ⟨gg, 0, none⟩) k cp, .slice sa k sc]) (by simp [results, Try.results115, go_sem, q0, q1, q2]) rfl ⟨_, rfl, ⟨_, _, wr.heap.size, E2, rfl, ?_, ?_⟩, ?_⟩
        · exact (M1.out.part PA.out (by omega)).mono (by omega) (Nat.le_refl _) (by have := LW2.out.size; omega)
        · exact (MI.out.part PA.out (by omega)).mono (by omega) (Nat.le_refl _) (by omega)
        · exact (LW.out.trans (LW2.out.mono LW.out.size)).trans ((PA.out.below (by omega)).mono (by omega))
end Go.Proofs.Ythihamjgfemacaa
