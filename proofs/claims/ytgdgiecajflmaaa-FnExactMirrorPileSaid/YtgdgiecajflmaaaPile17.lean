/- A pile mirrored: the model's. -/
import Derived.Test.YtgdgiecajflmaaaPile11
namespace Go.Proofs.Ytgdgiecajflmaaa
open Go.RowKit
set_option maxRecDepth 100000 in
set_option maxHeartbeats 25600000 in
theorem specMirror_yes (v : Value) (p : PileV) (w : World) (hv : PileRow w v p) (hf : PileF p) :
    Calls Try.prog 54 #[v] w (MadeS w true (mirP p)) := by
  have hb : pileB p = true := (pileB_iff p).2 hf
  obtain ⟨g, off, c, g', off', c', rfl, PC⟩ := pile_open hv hf
  have hn8 := hf.short
  have hsame := hf.same
  obtain ⟨W, hW⟩ : ∃ W, (w.alloc (.cells #[.int .i64 p.wd, .slice (some ⟨g, off, none⟩) p.ls.length c, .slice (some ⟨g', off', none⟩) p.ls.length c'] 27)).alloc (.cells #[.int .i64 0, .slice none 0 0, .slice none 0 0] 27) = W := ⟨_, rfl⟩
  have LW := Lib.hid (show Below w.heap.size w W by rw [← hW]; exact ((Below.refl _ _).alloc (Nat.le_refl _) _).alloc (by simp) _)
  have BX := Lib.hid (show Box3 W w.heap.size (.int .i64 p.wd) (.slice (some ⟨g, off, none⟩) p.ls.length c) (.slice (some ⟨g', off', none⟩) p.ls.length c') by rw [← hW]; exact (box3_new _ _ _ _ _).lo ((Below.refl _ _).alloc (Nat.le_refl _) _))
  have BY := Lib.hid (show Box3 W (w.heap.size + 1) (.int .i64 0) (.slice none 0 0) (.slice none 0 0) by rw [← hW]; have := box3_new (w.alloc (.cells #[.int .i64 p.wd, .slice (some ⟨g, off, none⟩) p.ls.length c, .slice (some ⟨g', off', none⟩) p.ls.length c'] 27)) (.int .i64 0) (.slice none 0 0) (.slice none 0 0) 27; simpa using this)
  have FY := Lib.hid (show ∀ j, W.frozen? ⟨w.heap.size + 1, j, none⟩ = false by rw [← hW]; exact fun j => World.frozen?_alloc_at _ _ _ _ (by simp))
  have hsz : W.heap.size = w.heap.size + 2 := by rw [← hW]; simp
  have D := Lib.hid (l4Pile_any _ p W (hv.lo LW.out) hf.small)
  rw [hb] at D
  have PW := Lib.hid (PC.lo LW.out)
  obtain ⟨n, hn⟩ : ∃ n, p.ls.length = n := ⟨_, rfl⟩
  have HN := Lib.hid hn
  have OW := Lib.hid (fun w1 (l : Below W.heap.size W w1) => l1Own_any (.slice (some ⟨g', off', none⟩) n c') p.ws w1 ⟨g', off', c', by rw [hsame, hn], (PW.out.lo l).b2, fun j hj => (PW.out.lo l).c2 j (by omega)⟩ (by omega))
  have HF := Lib.hid hf
  rw [hn] at hn8 hsame hW BX D ⊢
  have HSAME := Lib.hid hsame
  clear hv hf PC hn hsame hb
  obtain ⟨bw, u0, u1, u2⟩ := BX.out
  go_enter Try.func54, Try.ntmps54
  go_wp2_with fail
  clear hW u0 u1 u2
  refine D.out.mono ?_
  rintro e w1 ⟨rfl, l1⟩
  have LW1 := Lib.hid (lo_on LW.out l1)
  have BX1 := Lib.hid (BX.out.lo l1)
  have BY1 := Lib.hid (BY.out.lo l1)
  have FY1 := Lib.hid (fun j => show w1.frozen? ⟨w.heap.size + 1, j, none⟩ = false by rw [l1.frozen (p := ⟨w.heap.size + 1, j, none⟩) BY.out.1]; exact FY.out j)
  have PW1 := Lib.hid (PW.out.lo l1)
  have OW1 := Lib.hid (fun w2 (l : Below w1.heap.size w1 w2) => OW.out w2 (lo_on l1 l))
  have hsz1 : w.heap.size + 2 ≤ w1.heap.size := by have := l1.size; omega
  have HSZ := Lib.hid hsz1
  clear l1 LW BX BY FY PW OW hsz hsz1 D
  clear bw W
  revert w1
  intro W LW BX BY FY PW OW HSZ
  obtain ⟨bx, u0, u1, u2⟩ := BX.out
  go_wp2_with fail
  go_cut [4] from 10 (fun t5 w' => OutC W p.wd p.ws n t5 w')
  case first =>
    have hn1 : 1 ≤ n := by have := HF.out.one; have := HN.out; omega
    clear u0 u1 u2 bx BY FY PW LW HF HN
    refine wp_region_inv (by kernel_rfl) (by kernel_rfl) (fun D a X => ∃ (t10 t11 t12 t13 t14 t15 t16 t4 : Value) (g2 g5 k5 b7 : Nat), a = (⟨#[(.agg #[.int .i64 p.wd, .slice (some ⟨g, off, none⟩) n c, .slice (some ⟨g', off', none⟩) n c']), .pointer (some ⟨w.heap.size, 0, none⟩), .pointer (some ⟨w.heap.size + 1, 0, none⟩), .bool false, t4, undef, (.agg #[.int .i64 p.wd, .slice (some ⟨g, off, none⟩) n c, .slice (some ⟨g', off', none⟩) n c']), .bool true, .bool false, undef, t10, t11, t12, t13, t14, t15, t16, undef, undef, undef, undef, undef, undef, undef, undef, undef, undef, undef, undef, undef, undef, undef, undef, undef, undef, undef, undef, undef, undef, undef, undef, undef, undef, undef], []⟩ : Act) ∧ (D 8 → OutC W p.wd p.ws n t4 X) ∧ (¬ D 8 → Hid (Below W.heap.size W X) ∧ (D 0 → (t10 = .pointer (some ⟨w.heap.size, 0, none⟩))) ∧ (D 1 → (t11 = .int .i64 p.wd)) ∧ (D 2 → (t12 = .slice (some ⟨g2, 0, none⟩) 0 0 ∧ EmpB X W.heap.size g2)) ∧ (D 3 → (t13 = .pointer (some ⟨w.heap.size, 2, none⟩))) ∧ (D 4 → (t14 = .slice (some ⟨g', off', none⟩) n c')) ∧ (D 5 → (t15 = .slice (some ⟨g5, 0, none⟩) n k5 ∧ OwnB X W.heap.size g5 k5 n p.ws)) ∧ (D 6 → (t16 = .agg #[.int .i64 p.wd, .slice (some ⟨g2, 0, none⟩) 0 0, .slice (some ⟨g5, 0, none⟩) n k5])) ∧ (D 7 → (t4 = .pointer (some ⟨b7, 0, none⟩) ∧ BoxB X W.heap.size b7)) ∧ (D 2 → D 5 → (g2 ≠ g5)) ∧ (D 2 → D 7 → (g2 ≠ b7)) ∧ (D 5 → D 7 → (g5 ≠ b7)))) ?_ ?_ ?_
    · exact ⟨_, _, _, _, _, _, _, _, 0, 0, 0, 0, rfl, fun h => h.elim, fun _ => ⟨Lib.hid (drew_below W), fun h => h.elim, fun h => h.elim, fun h => h.elim, fun h => h.elim, fun h => h.elim, fun h => h.elim, fun h => h.elim, fun h => h.elim, fun h => h.elim, fun h => h.elim, fun h => h.elim⟩⟩
    · refine (show ∀ i, i < 9 → StepAt _ _ _ _ _ i from ?_)
      refine lt_more (n := 8) ?_ (lt_more (n := 7) ?_ (lt_more (n := 6) ?_ (lt_more (n := 5) ?_ (lt_more (n := 4) ?_ (lt_more (n := 3) ?_ (lt_more (n := 2) ?_ (lt_more (n := 1) ?_ (lt_more (n := 0) ?_ lt_none))))))))
      · refine step_of ({ dst := none, op := Op.store 27 (Operand.tmp 4) (Operand.tmp 16), type := 0, pos := "l4_piles.go:262", after := #[{ on := 7, ground := Ground.data }, { on := 6, ground := Ground.data }, { on := 5, ground := Ground.chain }, { on := 0, ground := Ground.phase }, { on := 1, ground := Ground.phase }, { on := 2, ground := Ground.phase }, { on := 3, ground := Ground.phase }, { on := 4, ground := Ground.phase }, { on := 5, ground := Ground.phase }, { on := 6, ground := Ground.phase }, { on := 7, ground := Ground.phase }], guard := none }) [7, 6, 5, 0, 1, 2, 3, 4, 5, 6, 7] [] rfl (by kernel_rfl) (by kernel_rfl) ?_
        rintro D a X hn hd hc ⟨t10, t11, t12, t13, t14, t15, t16, t4, g2, g5, k5, b7, rfl, _, hrest⟩ K' hK
        have nl := hn
        obtain ⟨LX, c0, c1, c2, c3, c4, c5, c6, c7, s25, s27, s57⟩ := hrest nl
        clear hrest
        have d0 := hd 0 (by simp)
        have d1 := hd 1 (by simp)
        have d2 := hd 2 (by simp)
        have d3 := hd 3 (by simp)
        have d4 := hd 4 (by simp)
        have d5 := hd 5 (by simp)
        have d6 := hd 6 (by simp)
        have d7 := hd 7 (by simp)
        clear hd hc
        obtain rfl := c6 d6
        obtain ⟨rfl, hB, _, x, y, z, FB⟩ := c7 d7
        have r2 := (c2 d2).2
        have r5 := (c5 d5).2
        have n27 := s27 d2 d7
        have n57 := s57 d5 d7
        have n25 := s25 d2 d5
        obtain ⟨⟨_, x0, x1, x2⟩, f⟩ := id FB
        have f0 := f 0
        have f1 := f 1
        have f2 := f 2
        go_simp
        refine hK _ _ ⟨_, _, _, _, _, _, _, _, g2, g5, k5, b7, by first | rfl | simp [Act.put], fun _ => ?_, fun m => absurd (.inl rfl) m⟩
        have q := pset X b7 (.int .i64 p.wd) (.slice (some ⟨g2, 0, none⟩) 0 0) (.slice (some ⟨g5, 0, none⟩) n k5)
        have z2 := r2.1
        have z5 := r5.1
        have z6 := r5.2.1
        have zq := q.size
        have hw := LX.out.size
        exact ⟨b7, g2, _, k5, g5, g5 + 1, rfl, Lib.hid ⟨⟨hB, r2.1, n27, r5.1, by omega, by omega, by omega⟩, fset X _ FB _ _ _, (r2.part q (by omega)).2.2, (r5.part q (by omega)).mine HSAME.out, LX.out.trans ((q.below (by omega)).mono (by omega))⟩⟩
      · refine step_of ({ dst := some 4, op := Op.alloc 27, type := 0, pos := "l4_piles.go:262", after := #[], guard := none }) [] [(8, 7)] rfl (by kernel_rfl) (by kernel_rfl) ?_
        rintro D a X hn hd hc ⟨t10, t11, t12, t13, t14, t15, t16, t4, g2, g5, k5, b7, rfl, _, hrest⟩ K' hK
        have nl : ¬ D 8 := fun h => hn (hc (8, 7) (by simp) h)
        obtain ⟨LX, c0, c1, c2, c3, c4, c5, c6, c7, s25, s27, s57⟩ := hrest nl
        clear hrest
        clear hd hc
        have l := al X (.cells #[.int .i64 0, .slice none 0 0, .slice none 0 0] 27)
        have hsX := LX.out.size
        go_simp
        refine hK _ _ ⟨_, _, _, _, _, _, _, _, g2, g5, k5, X.heap.size, by first | rfl | simp [Act.put], fun h => (nl (h.resolve_left (by decide))).elim, fun _ => ⟨Lib.hid (lo_on LX.out l), ?c0, ?c1, ?c2, ?c3, ?c4, ?c5, ?c6, ?c7, ?s25, ?s27, ?s57⟩⟩
        case c0 => exact fun h0 => c0 (h0.resolve_left (by decide))
        case c1 => exact fun h1 => c1 (h1.resolve_left (by decide))
        case c2 => exact fun h2 => ⟨(c2 (h2.resolve_left (by decide))).1, (c2 (h2.resolve_left (by decide))).2.lo l⟩
        case c3 => exact fun h3 => c3 (h3.resolve_left (by decide))
        case c4 => exact fun h4 => c4 (h4.resolve_left (by decide))
        case c5 => exact fun h5 => ⟨(c5 (h5.resolve_left (by decide))).1, (c5 (h5.resolve_left (by decide))).2.lo l⟩
        case c6 => exact fun h6 => c6 (h6.resolve_left (by decide))
        case c7 => exact fun h7 => ⟨rfl, hsX, by simp, _, _, _, fbox_new X _ _ _ _⟩
        case s25 => exact fun h2 h5 => s25 (h2.resolve_left (by decide)) (h5.resolve_left (by decide))
        case s27 => exact fun h2 h7 => by have := (c2 (h2.resolve_left (by decide))).2.2.1; omega
        case s57 => exact fun h5 h7 => by have := (c5 (h5.resolve_left (by decide))).2.2.1; omega
      · refine step_of ({ dst := some 16, op := Op.build 27 #[(0, Operand.tmp 11), (1, Operand.tmp 12), (2, Operand.tmp 15)], type := 27, pos := "l4_piles.go:262", after := #[{ on := 1, ground := Ground.data }, { on := 2, ground := Ground.data }, { on := 5, ground := Ground.data }], guard := none }) [1, 2, 5] [(8, 6)] rfl (by kernel_rfl) (by kernel_rfl) ?_
        rintro D a X hn hd hc ⟨t10, t11, t12, t13, t14, t15, t16, t4, g2, g5, k5, b7, rfl, _, hrest⟩ K' hK
        have nl : ¬ D 8 := fun h => hn (hc (8, 6) (by simp) h)
        obtain ⟨LX, c0, c1, c2, c3, c4, c5, c6, c7, s25, s27, s57⟩ := hrest nl
        clear hrest
        have d1 := hd 1 (by simp)
        have d2 := hd 2 (by simp)
        have d5 := hd 5 (by simp)
        clear hd hc
        obtain rfl := c1 d1
        obtain ⟨rfl, _⟩ := c2 d2
        obtain ⟨rfl, _⟩ := c5 d5
        go_simp
        refine hK _ _ ⟨_, _, _, _, _, _, _, _, g2, g5, k5, b7, by first | rfl | simp [Act.put], fun h => (nl (h.resolve_left (by decide))).elim, fun _ => ⟨LX, ?c0, ?c1, ?c2, ?c3, ?c4, ?c5, ?c6, ?c7, ?s25, ?s27, ?s57⟩⟩
        case c0 => exact fun h0 => c0 (h0.resolve_left (by decide))
        case c1 => exact fun h1 => c1 (h1.resolve_left (by decide))
        case c2 => exact fun h2 => c2 (h2.resolve_left (by decide))
        case c3 => exact fun h3 => c3 (h3.resolve_left (by decide))
        case c4 => exact fun h4 => c4 (h4.resolve_left (by decide))
        case c5 => exact fun h5 => c5 (h5.resolve_left (by decide))
        case c6 => exact fun h6 => rfl
        case c7 => exact fun h7 => c7 (h7.resolve_left (by decide))
        case s25 => exact fun h2 h5 => s25 (h2.resolve_left (by decide)) (h5.resolve_left (by decide))
        case s27 => exact fun h2 h7 => s27 (h2.resolve_left (by decide)) (h7.resolve_left (by decide))
        case s57 => exact fun h5 h7 => s57 (h5.resolve_left (by decide)) (h7.resolve_left (by decide))
      · refine step_of ({ dst := some 15, op := Op.call { callee := Callee.value (Operand.func 102), args := #[Operand.tmp 14], argTypes := #[22] }, type := 22, pos := "l4_piles.go:262", after := #[{ on := 4, ground := Ground.data }], guard := none }) [4] [(8, 5), (6, 5)] rfl (by kernel_rfl) (by kernel_rfl) ?_
        rintro D a X hn hd hc ⟨t10, t11, t12, t13, t14, t15, t16, t4, g2, g5, k5, b7, rfl, _, hrest⟩ K' hK
        have nl : ¬ D 8 := fun h => hn (hc (8, 5) (by simp) h)
        obtain ⟨LX, c0, c1, c2, c3, c4, c5, c6, c7, s25, s27, s57⟩ := hrest nl
        clear hrest
        have d4 := hd 4 (by simp)
        have e6_5 := hc (6, 5) (by simp)
        clear hd hc
        obtain rfl := c4 d4
        have C := OW.out X LX.out
        go_simp
        refine C.mono ?_
        rintro e X5 ⟨v5, rfl, o5, l⟩
        obtain ⟨g5', k5', rfl, hge, hob⟩ := own_open o5 HSAME.out hn1
        go_simp
        refine hK _ _ ⟨_, _, _, _, _, _, _, _, g2, g5', k5', b7, by first | rfl | simp [Act.put], fun h => (nl (h.resolve_left (by decide))).elim, fun _ => ⟨Lib.hid (lo_on LX.out l), ?c0, ?c1, ?c2, ?c3, ?c4, ?c5, ?c6, ?c7, ?s25, ?s27, ?s57⟩⟩
        case c0 => exact fun h0 => c0 (h0.resolve_left (by decide))
        case c1 => exact fun h1 => c1 (h1.resolve_left (by decide))
        case c2 => exact fun h2 => ⟨(c2 (h2.resolve_left (by decide))).1, (c2 (h2.resolve_left (by decide))).2.lo l⟩
        case c3 => exact fun h3 => c3 (h3.resolve_left (by decide))
        case c4 => exact fun h4 => c4 (h4.resolve_left (by decide))
        case c5 => exact fun h5 => ⟨rfl, hob.base LX.out.size⟩
        case c6 => exact fun h6 => (hn (e6_5 (h6.resolve_left (by decide)))).elim
        case c7 => exact fun h7 => ⟨(c7 (h7.resolve_left (by decide))).1, (c7 (h7.resolve_left (by decide))).2.lo l⟩
        case s25 => exact fun h2 h5 => by have := (c2 (h2.resolve_left (by decide))).2.2.1; omega
        case s27 => exact fun h2 h7 => s27 (h2.resolve_left (by decide)) (h7.resolve_left (by decide))
        case s57 => exact fun h5 h7 => by have := (c7 (h7.resolve_left (by decide))).2.2.1; omega
      · refine step_of ({ dst := some 14, op := Op.load 22 (Operand.tmp 13), type := 22, pos := "l4_piles.go:262", after := #[{ on := 3, ground := Ground.data }], guard := none }) [3] [(8, 4)] rfl (by kernel_rfl) (by kernel_rfl) ?_
        rintro D a X hn hd hc ⟨t10, t11, t12, t13, t14, t15, t16, t4, g2, g5, k5, b7, rfl, _, hrest⟩ K' hK
        have nl : ¬ D 8 := fun h => hn (hc (8, 4) (by simp) h)
        obtain ⟨LX, c0, c1, c2, c3, c4, c5, c6, c7, s25, s27, s57⟩ := hrest nl
        clear hrest
        have d3 := hd 3 (by simp)
        clear hd hc
        obtain rfl := c3 d3
        obtain ⟨_, x0, x1, x2⟩ := BX.out.lo LX.out
        go_simp
        refine hK _ _ ⟨_, _, _, _, _, _, _, _, g2, g5, k5, b7, by first | rfl | simp [Act.put], fun h => (nl (h.resolve_left (by decide))).elim, fun _ => ⟨LX, ?c0, ?c1, ?c2, ?c3, ?c4, ?c5, ?c6, ?c7, ?s25, ?s27, ?s57⟩⟩
        case c0 => exact fun h0 => c0 (h0.resolve_left (by decide))
        case c1 => exact fun h1 => c1 (h1.resolve_left (by decide))
        case c2 => exact fun h2 => c2 (h2.resolve_left (by decide))
        case c3 => exact fun h3 => c3 (h3.resolve_left (by decide))
        case c4 => exact fun h4 => rfl
        case c5 => exact fun h5 => c5 (h5.resolve_left (by decide))
        case c6 => exact fun h6 => c6 (h6.resolve_left (by decide))
        case c7 => exact fun h7 => c7 (h7.resolve_left (by decide))
        case s25 => exact fun h2 h5 => s25 (h2.resolve_left (by decide)) (h5.resolve_left (by decide))
        case s27 => exact fun h2 h7 => s27 (h2.resolve_left (by decide)) (h7.resolve_left (by decide))
        case s57 => exact fun h5 h7 => s57 (h5.resolve_left (by decide)) (h7.resolve_left (by decide))
      · refine step_of ({ dst := some 13, op := Op.fieldAddr 27 (Operand.tmp 1) 2, type := 0, pos := "l4_piles.go:262", after := #[], guard := none }) [] [(8, 3)] rfl (by kernel_rfl) (by kernel_rfl) ?_
        rintro D a X hn hd hc ⟨t10, t11, t12, t13, t14, t15, t16, t4, g2, g5, k5, b7, rfl, _, hrest⟩ K' hK
        have nl : ¬ D 8 := fun h => hn (hc (8, 3) (by simp) h)
        obtain ⟨LX, c0, c1, c2, c3, c4, c5, c6, c7, s25, s27, s57⟩ := hrest nl
        clear hrest
        clear hd hc
        go_simp
        refine hK _ _ ⟨_, _, _, _, _, _, _, _, g2, g5, k5, b7, by first | rfl | simp [Act.put], fun h => (nl (h.resolve_left (by decide))).elim, fun _ => ⟨LX, ?c0, ?c1, ?c2, ?c3, ?c4, ?c5, ?c6, ?c7, ?s25, ?s27, ?s57⟩⟩
        case c0 => exact fun h0 => c0 (h0.resolve_left (by decide))
        case c1 => exact fun h1 => c1 (h1.resolve_left (by decide))
        case c2 => exact fun h2 => c2 (h2.resolve_left (by decide))
        case c3 => exact fun h3 => rfl
        case c4 => exact fun h4 => c4 (h4.resolve_left (by decide))
        case c5 => exact fun h5 => c5 (h5.resolve_left (by decide))
        case c6 => exact fun h6 => c6 (h6.resolve_left (by decide))
        case c7 => exact fun h7 => c7 (h7.resolve_left (by decide))
        case s25 => exact fun h2 h5 => s25 (h2.resolve_left (by decide)) (h5.resolve_left (by decide))
        case s27 => exact fun h2 h7 => s27 (h2.resolve_left (by decide)) (h7.resolve_left (by decide))
        case s57 => exact fun h5 h7 => s57 (h5.resolve_left (by decide)) (h7.resolve_left (by decide))
      · refine step_of ({ dst := some 12, op := Op.buildSlice 22 0 #[], type := 22, pos := "l4_piles.go:262", after := #[], guard := none }) [] [(8, 2), (6, 2)] rfl (by kernel_rfl) (by kernel_rfl) ?_
        rintro D a X hn hd hc ⟨t10, t11, t12, t13, t14, t15, t16, t4, g2, g5, k5, b7, rfl, _, hrest⟩ K' hK
        have nl : ¬ D 8 := fun h => hn (hc (8, 2) (by simp) h)
        obtain ⟨LX, c0, c1, c2, c3, c4, c5, c6, c7, s25, s27, s57⟩ := hrest nl
        clear hrest
        have e6_2 := hc (6, 2) (by simp)
        clear hd hc
        have l := al X (.cells #[] 3)
        have hsX := LX.out.size
        go_simp
        refine hK _ _ ⟨_, _, _, _, _, _, _, _, X.heap.size, g5, k5, b7, by first | rfl | simp [Act.put], fun h => (nl (h.resolve_left (by decide))).elim, fun _ => ⟨Lib.hid (lo_on LX.out l), ?c0, ?c1, ?c2, ?c3, ?c4, ?c5, ?c6, ?c7, ?s25, ?s27, ?s57⟩⟩
        case c0 => exact fun h0 => c0 (h0.resolve_left (by decide))
        case c1 => exact fun h1 => c1 (h1.resolve_left (by decide))
        case c2 => exact fun h2 => ⟨rfl, emp_new X hsX⟩
        case c3 => exact fun h3 => c3 (h3.resolve_left (by decide))
        case c4 => exact fun h4 => c4 (h4.resolve_left (by decide))
        case c5 => exact fun h5 => ⟨(c5 (h5.resolve_left (by decide))).1, (c5 (h5.resolve_left (by decide))).2.lo l⟩
        case c6 => exact fun h6 => (hn (e6_2 (h6.resolve_left (by decide)))).elim
        case c7 => exact fun h7 => ⟨(c7 (h7.resolve_left (by decide))).1, (c7 (h7.resolve_left (by decide))).2.lo l⟩
        case s25 => exact fun h2 h5 => by have := (c5 (h5.resolve_left (by decide))).2.2.1; omega
        case s27 => exact fun h2 h7 => by have := (c7 (h7.resolve_left (by decide))).2.2.1; omega
        case s57 => exact fun h5 h7 => s57 (h5.resolve_left (by decide)) (h7.resolve_left (by decide))
      · refine step_of ({ dst := some 11, op := Op.load 3 (Operand.tmp 10), type := 3, pos := "l4_piles.go:262", after := #[{ on := 0, ground := Ground.data }], guard := none }) [0] [(8, 1)] rfl (by kernel_rfl) (by kernel_rfl) ?_
        rintro D a X hn hd hc ⟨t10, t11, t12, t13, t14, t15, t16, t4, g2, g5, k5, b7, rfl, _, hrest⟩ K' hK
        have nl : ¬ D 8 := fun h => hn (hc (8, 1) (by simp) h)
        obtain ⟨LX, c0, c1, c2, c3, c4, c5, c6, c7, s25, s27, s57⟩ := hrest nl
        clear hrest
        have d0 := hd 0 (by simp)
        clear hd hc
        obtain rfl := c0 d0
        obtain ⟨_, x0, x1, x2⟩ := BX.out.lo LX.out
        go_simp
        refine hK _ _ ⟨_, _, _, _, _, _, _, _, g2, g5, k5, b7, by first | rfl | simp [Act.put], fun h => (nl (h.resolve_left (by decide))).elim, fun _ => ⟨LX, ?c0, ?c1, ?c2, ?c3, ?c4, ?c5, ?c6, ?c7, ?s25, ?s27, ?s57⟩⟩
        case c0 => exact fun h0 => c0 (h0.resolve_left (by decide))
        case c1 => exact fun h1 => rfl
        case c2 => exact fun h2 => c2 (h2.resolve_left (by decide))
        case c3 => exact fun h3 => c3 (h3.resolve_left (by decide))
        case c4 => exact fun h4 => c4 (h4.resolve_left (by decide))
        case c5 => exact fun h5 => c5 (h5.resolve_left (by decide))
        case c6 => exact fun h6 => c6 (h6.resolve_left (by decide))
        case c7 => exact fun h7 => c7 (h7.resolve_left (by decide))
        case s25 => exact fun h2 h5 => s25 (h2.resolve_left (by decide)) (h5.resolve_left (by decide))
        case s27 => exact fun h2 h7 => s27 (h2.resolve_left (by decide)) (h7.resolve_left (by decide))
        case s57 => exact fun h5 h7 => s57 (h5.resolve_left (by decide)) (h7.resolve_left (by decide))
      · refine step_of ({ dst := some 10, op := Op.fieldAddr 27 (Operand.tmp 1) 0, type := 0, pos := "l4_piles.go:262", after := #[], guard := none }) [] [(8, 0)] rfl (by kernel_rfl) (by kernel_rfl) ?_
        rintro D a X hn hd hc ⟨t10, t11, t12, t13, t14, t15, t16, t4, g2, g5, k5, b7, rfl, _, hrest⟩ K' hK
        have nl : ¬ D 8 := fun h => hn (hc (8, 0) (by simp) h)
        obtain ⟨LX, c0, c1, c2, c3, c4, c5, c6, c7, s25, s27, s57⟩ := hrest nl
        clear hrest
        clear hd hc
        go_simp
        refine hK _ _ ⟨_, _, _, _, _, _, _, _, g2, g5, k5, b7, by first | rfl | simp [Act.put], fun h => (nl (h.resolve_left (by decide))).elim, fun _ => ⟨LX, ?c0, ?c1, ?c2, ?c3, ?c4, ?c5, ?c6, ?c7, ?s25, ?s27, ?s57⟩⟩
        case c0 => exact fun h0 => rfl
        case c1 => exact fun h1 => c1 (h1.resolve_left (by decide))
        case c2 => exact fun h2 => c2 (h2.resolve_left (by decide))
        case c3 => exact fun h3 => c3 (h3.resolve_left (by decide))
        case c4 => exact fun h4 => c4 (h4.resolve_left (by decide))
        case c5 => exact fun h5 => c5 (h5.resolve_left (by decide))
        case c6 => exact fun h6 => c6 (h6.resolve_left (by decide))
        case c7 => exact fun h7 => c7 (h7.resolve_left (by decide))
        case s25 => exact fun h2 h5 => s25 (h2.resolve_left (by decide)) (h5.resolve_left (by decide))
        case s27 => exact fun h2 h7 => s27 (h2.resolve_left (by decide)) (h7.resolve_left (by decide))
        case s57 => exact fun h5 h7 => s57 (h5.resolve_left (by decide)) (h7.resolve_left (by decide))
    · rintro D a X hall ⟨t10, t11, t12, t13, t14, t15, t16, t4, g2, g5, k5, b7, rfl, hfin, _⟩
      have HFIN := Lib.hid (hfin (hall 8 (by decide)))
      clear hfin hall
      go_wp2
      go_meet
      exact HFIN.out
  case rest =>
    clear u0 u1 u2 OW
    obtain ⟨b, e, sa, sc, B2, E2, rfl, HC⟩ := hcut
    obtain ⟨⟨k1, k2, k3, k4, k5, k6, k7⟩, hbx, he, hm, hl⟩ := HC.out
    obtain ⟨i0, hi, hz0, hz1, hz2⟩ := info_parts infoInt
    have own0 := (show wc.ownsRow W.heap.size 3 1 (.slice (some ⟨e, 0, none⟩) 0 0) 0 [] from ⟨rfl, .inr ⟨e, 0, #[], rfl, k2, he, Nat.le_refl _, Nat.zero_le _, rfl, rfl⟩⟩)
    have HL := Lib.hid hl
    have hwc := hl.size
    have KK := Lib.hid (And.intro hbx (And.intro own0 hm))
    obtain ⟨_, u0, u1, u2⟩ := BX.out.lo hl
    clear hbx he hm hl own0 HC
    go_wp2
    clear u0 u1 u2
    go_loopw [5] (fun x wr => ∃ k : Nat, k ≤ n ∧ x = .int .i64 k ∧ wc.heap.size ≤ wr.heap.size ∧ Hid (∃ (gg cp : Nat), gg ≠ b ∧ W.heap.size ≤ gg ∧ (gg < B2 ∨ E2 ≤ gg) ∧ FBox wr b (.int .i64 p.wd) (.slice (some ⟨gg, 0, none⟩) k cp) (.slice sa n sc) ∧ wr.ownsRow W.heap.size 3 1 (.slice (some ⟨gg, 0, none⟩) k cp) k (icells ((p.ls.map (fun l => 2 * p.ls.getD 0 0 - l)).take k)) ∧ MineI wr B2 E2 (.slice sa n sc) p.ws ∧ Below W.heap.size W wr)) (fun x _ => n - (intOf x).toNat)
    case atStart => exact ⟨0, Nat.zero_le _, rfl, Nat.le_refl _, Lib.hid ⟨e, 0, k3, k2, k6, KK.out.1, KK.out.2.1, KK.out.2.2, HL.out⟩⟩
    case round =>
      obtain ⟨k, hk, rfl, hwr, HR⟩ := hrel
      obtain ⟨gg, cp, g1, g2, g3, fb, ow, mi, lw⟩ := HR.out
      have LW2 := Lib.hid lw
      have MI := Lib.hid mi
      have FB := Lib.hid fb
      have hgg : gg < wr.heap.size := by
        rcases ow.2 with ⟨h, _⟩ | ⟨q, _, _, h, _, hq, _⟩
        · cases h
        · cases h; exact heap_lt hq
      obtain ⟨_, x0, x1, x2⟩ := BX.out.lo lw
      obtain ⟨⟨hbz, y0', y1', y2'⟩, fz⟩ := fb
      by_cases hlt : k < n
      · have hlt' : (k : Int) < (n : Int) := by omega
        have ck := (PW.out.lo lw).c1 k (by rw [HN.out]; exact hlt)
        have hx := (HF.out.each k (by rw [HN.out]; exact hlt)).1
        have HS := Lib.hid (show (p.ls.map (fun l => 2 * p.ls.getD 0 0 - l)).take (k + 1) = (p.ls.map (fun l => 2 * p.ls.getD 0 0 - l)).take k ++ [2 * p.ls.getD 0 0 - p.ls.getD k 0] by rw [take_snocP _ k (by rw [List.length_map, HN.out]; exact hlt), getD_map _ _ _ (by rw [HN.out]; exact hlt)])
        have ca := (PW.out.lo lw).c1 0 (by rw [HN.out]; omega)
        have ha := (HF.out.each 0 (by rw [HN.out]; omega)).1
        rw [Nat.add_zero] at ca
        obtain ⟨x, hxe⟩ : ∃ x, p.ls.getD k 0 = x := ⟨_, rfl⟩
        obtain ⟨a, hae⟩ : ∃ a, p.ls.getD 0 0 = a := ⟨_, rfl⟩
        rw [hxe] at ck hx HS
        rw [hae] at ca ha HS
        have HA := Lib.hid hae
        have hn0 : (0 : Int) < (n : Int) := by omega
        have hnn : 0 < n := by omega
        obtain ⟨hx0, hx1⟩ := hx
        obtain ⟨ha0, ha1⟩ := ha
        have H2 := Lib.hid (wrap_small (2 * a) (by omega) (by omega))
        clear hxe hae
        have f1 := fz 1
        have H1 := Lib.hid (wrap_small (2 * a - x) (by omega) (by omega))
        have hkl : ((p.ls.map (fun l => 2 * p.ls.getD 0 0 - l)).take k).length = k := by rw [List.length_take, List.length_map, HN.out]; omega
        have HKL := Lib.hid hkl
        have OWH := Lib.hid ow
        have hwS := lw.size
        clear fz mi lw HR hkl ow
        go_wp2
        have h1 := H1.out
        have h2 := H2.out
        go_region_law ((refine step_append_lies _ (by rfl) _ _ _ (by rfl) W.heap.size 3 i0 _ 1 8 Try.underlying22 hi hz0 hz1 hz2 rfl (by omega) (.slice (some ⟨gg, 0, none⟩) k cp) k _ (by rfl) ((OWH.out.alloc _).drew) ⟨wr.heap.size, 0, none⟩ 1 1 [.int .i64 (2 * a - x)] (by rfl) (by rfl) (World.news_of_block (cs := #[.int .i64 (2 * a - x)]) (t := 3) (fr := (0, 0)) (heap_alloc_new wr _)) (by simp [Value.oneCell']) (by omega) (by unfold maxLen; omega) (by omega) (by simp; omega) (wr.heap.size + 1) (by simp) ?_; intro g4 cap w1 hown1 hgrow hat hlt4; have qb := hgrow.block b (by simp; omega) (fun h => g1 (Option.some.inj h).symm); have z1 := (World.cell?_of_block (a := ⟨b, 1, none⟩) qb).trans (cell_al hbz y1'); have zf := (World.frozen?_of_block (a := ⟨b, 1, none⟩) qb).trans (frz_al hbz f1)))
        all_goals
          (have RES := round_moved k1 g1 g2 g3 k5 k7 hwr FB.out hown1 hgrow hat LW2.out MI.out
           have RE := Lib.hid RES
           clear RES hown1 hgrow hat hlt4 qb z1 zf h1 H1 h2 H2 ck ca x0 x1 x2 y0' y1' y2' f1
           go_wp2
           go_roundw)
        all_goals first
          | (case rel => exact ⟨k + 1, by omega, by go_num, RE.out.1, Lib.hid ⟨g4, cap, RE.out.2.1, RE.out.2.2.1, RE.out.2.2.2.1, RE.out.2.2.2.2.1, by rw [HA.out] at *; rw [HS.out, icells_app]; exact RE.out.2.2.2.2.2.1, RE.out.2.2.2.2.2.2.1, RE.out.2.2.2.2.2.2.2⟩⟩)
          | (case measure => simp [intOf]; omega)
          | (simp [intOf]; omega)
      · obtain rfl : k = n := by omega
        have hge : ¬ (k : Int) < (k : Int) := by omega
        have hT := Lib.hid (show (p.ls.map (fun l => 2 * p.ls.getD 0 0 - l)).take k = p.ls.map (fun l => 2 * p.ls.getD 0 0 - l) from List.take_of_length_le (by rw [List.length_map, HN.out]; exact Nat.le_refl _))
        have BYr := BY.out.lo lw
        obtain ⟨by0, r0, r1, r2⟩ := BYr
        have fzr : ∀ j, wr.frozen? ⟨w.heap.size + 1, j, none⟩ = false := fun j => by rw [lw.frozen (p := ⟨w.heap.size + 1, j, none⟩) BY.out.1]; exact FY.out j
        have fr0 := fzr 0
        have fr1 := fzr 1
        have fr2 := fzr 2
        have M1 := Lib.hid (show MineI wr W.heap.size wr.heap.size (.slice (some ⟨gg, 0, none⟩) k cp) (p.ls.map (fun l => 2 * p.ls.getD 0 0 - l)) from by
          have := mine_own (xs := p.ls.map (fun l => 2 * p.ls.getD 0 0 - l)) (B := W.heap.size) (e := 3) (v := .slice (some ⟨gg, 0, none⟩) k cp) (w := wr) (by rw [List.length_map, HN.out]; rw [hT.out] at ow; exact ow)
          exact this)
        have LWR := Lib.hid lw
        have hU := (show HighPl wr W.heap.size (.agg #[.int .i64 p.wd, .slice (some ⟨gg, 0, none⟩) k cp, .slice sa k sc]) (mirP p) from
          ⟨_, _, wr.heap.size, wr.heap.size, rfl, M1.out, MI.out.mono (by omega) (by omega) (Nat.le_refl _)⟩)
        have HU := Lib.hid hU
        have KP := Lib.hid (l4Kept_any _ (mirP p) wr hU.row ⟨by show (p.ls.map _).length ≤ _; rw [List.length_map, HN.out]; omega, by show p.ws.length ≤ _; rw [HSAME.out]; omega⟩)
        clear hU fzr ow mi lw HR r0 r1 r2 fr0 fr1 fr2
        go_wp2_with fail
        refine KP.out.mono ?_
        rintro e w5 ⟨rfl, l5⟩
        have L5 := Lib.hid (lo_on LW.out (lo_on LWR.out l5))
        have K5 := Lib.hid ((HU.out.lo l5).kept)
        have BY5 := Lib.hid (BY.out.lo (lo_on LWR.out l5))
        obtain ⟨by5, r0, r1, r2⟩ := BY5.out
        have fz5 : ∀ j, w5.frozen? ⟨w.heap.size + 1, j, none⟩ = false := fun j => by rw [(lo_on LWR.out l5).frozen (p := ⟨w.heap.size + 1, j, none⟩) BY.out.1]; exact FY.out j
        have f0 := fz5 0
        have f1 := fz5 1
        have f2 := fz5 2
        obtain ⟨ka, kb, kc, kd, hkv⟩ := K5.out.row.form
        rw [hkv] at K5 ⊢
        have TS := Lib.hid (three_set w5 _ BY5.out (.int .i64 (keptP true (mirP p)).wd) (.slice ka (keptP true (mirP p)).ls.length kc) (.slice kb (keptP true (mirP p)).ws.length kd))
        have PA := Lib.hid (pset w5 (w.heap.size + 1) (.int .i64 (keptP true (mirP p)).wd) (.slice ka (keptP true (mirP p)).ls.length kc) (.slice kb (keptP true (mirP p)).ws.length kd))
        clear l5 fz5 hkv KP HU M1 MI
        generalize (keptP true (mirP p)).wd = rw at *
        generalize (keptP true (mirP p)).ls.length = rl at *
        generalize (keptP true (mirP p)).ws.length = rs at *
        go_wp2
        obtain ⟨_, q0, q1, q2⟩ := TS.out
        have hpz := PA.out.size
        have hszz := HSZ.out
        refine bodyPost_ret (v := .tuple #[.agg #[.int .i64 rw, .slice ka rl kc, .slice kb rs kd], .bool (pileB (mirP p))]) (by simp [results, Try.results54, go_sem, q0, q1, q2]) rfl ⟨_, rfl, ?_, ?_⟩
        · exact (K5.out.part PA.out (by omega)).row
        · exact L5.out.trans ((PA.out.below (by omega)).mono (by omega))
set_option maxRecDepth 100000 in
set_option maxHeartbeats 1600000 in
theorem specMirror_no (v : Value) (p : PileV) (w : World) (hv : PileRow w v p) (hs : SmallP p) (h : pileB p = false) :
    Calls Try.prog 54 #[v] w (MadeS w false (mirP p)) := by
  obtain ⟨a, b, c, d, rfl⟩ := hv.form
  obtain ⟨W, hW⟩ : ∃ W, (w.alloc (.cells #[.int .i64 p.wd, .slice a p.ls.length c, .slice b p.ws.length d] 27)).alloc (.cells #[.int .i64 0, .slice none 0 0, .slice none 0 0] 27) = W := ⟨_, rfl⟩
  have LW := Lib.hid (show Below w.heap.size w W by rw [← hW]; exact ((Below.refl _ _).alloc (Nat.le_refl _) _).alloc (by simp) _)
  have BX := Lib.hid (show Box3 W w.heap.size (.int .i64 p.wd) (.slice a p.ls.length c) (.slice b p.ws.length d) by rw [← hW]; exact (box3_new _ _ _ _ _).lo ((Below.refl _ _).alloc (Nat.le_refl _) _))
  have BY := Lib.hid (show Box3 W (w.heap.size + 1) (.int .i64 0) (.slice none 0 0) (.slice none 0 0) by rw [← hW]; have := box3_new (w.alloc (.cells #[.int .i64 p.wd, .slice a p.ls.length c, .slice b p.ws.length d] 27)) (.int .i64 0) (.slice none 0 0) (.slice none 0 0) 27; simpa using this)
  have FY := Lib.hid (show ∀ j, W.frozen? ⟨w.heap.size + 1, j, none⟩ = false by rw [← hW]; exact fun j => World.frozen?_alloc_at _ _ _ _ (by simp))
  have hsz : W.heap.size = w.heap.size + 2 := by rw [← hW]; simp
  have D := Lib.hid (l4Pile_any _ p W (hv.lo LW.out) hs)
  rw [h] at D
  have HNIL := Lib.hid (kept_no false (mirP p) rfl)
  have HMP := Lib.hid (fun w' (l : Below w.heap.size w w') => show MadeS w false (mirP p) (.returned (.tuple #[.agg #[.int .i64 0, .slice none 0 0, .slice none 0 0], .bool false])) w' from
    ⟨_, rfl, by rw [HNIL.out]; exact pileRow_nil w', l⟩)
  clear hv hs h
  obtain ⟨bw, u0, u1, u2⟩ := BX.out
  go_enter Try.func54, Try.ntmps54
  go_wp2_with fail
  clear hW u0 u1 u2
  refine D.out.mono ?_
  rintro e w1 ⟨rfl, l1⟩
  have BY1 := Lib.hid (BY.out.lo l1)
  obtain ⟨by0, y0, y1, y2⟩ := BY1.out
  have fz : ∀ j, w1.frozen? ⟨w.heap.size + 1, j, none⟩ = false := fun j => by rw [l1.frozen (p := ⟨w.heap.size + 1, j, none⟩) BY.out.1]; exact FY.out j
  have f0 := fz 0
  have f1 := fz 1
  have f2 := fz 2
  have L1 := Lib.hid (lo_on LW.out l1)
  have TS := Lib.hid (three_set w1 _ BY1.out (.int .i64 0) (.slice none 0 0) (.slice none 0 0))
  clear l1 D fz BX BY FY LW
  go_wp2
  obtain ⟨_, q0, q1, q2⟩ := TS.out
  exact bodyPost_ret (v := .tuple #[.agg #[.int .i64 0, .slice none 0 0, .slice none 0 0], .bool false]) (by simp [results, Try.results54, go_sem, q0, q1, q2]) rfl (HMP.out _ (((L1.out.setCell (p := ⟨w.heap.size + 1, 0, none⟩) (by simp only; omega) _).setCell (p := ⟨w.heap.size + 1, 1, none⟩) (by simp only; omega) _).setCell (p := ⟨w.heap.size + 1, 2, none⟩) (by simp only; omega) _))
theorem specMirror_any (v : Value) (p : PileV) (w : World) (hv : PileRow w v p) (hs : SmallP p) :
    Calls Try.prog 54 #[v] w (MadeS w (pileB p) (mirP p)) := by
  cases h : pileB p with
  | true => exact specMirror_yes v p w hv ((pileB_iff p).1 h)
  | false => exact specMirror_no v p w hv hs h
end Go.Proofs.Ytgdgiecajflmaaa
