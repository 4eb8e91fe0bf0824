/- A pile with one more brick: the model's. -/
import Derived.Test.YthihamjgfemacaaInvRow
import Derived.Deep.AppendLies
namespace Go.Proofs.Ythihamjgfemacaa
open Go.RowKit
set_option maxRecDepth 100000 in
set_option maxHeartbeats 3200000 in
theorem l4Topped_any (v : Value) (p : PileV) (y z : Int) (w : World) (hv : PileRow w v p) (hf : PileF p) :
    Calls Try.prog 118 #[v, .int .i64 y, .int .i64 z] w fun e w' => ∃ u, e = .returned u ∧ HighPl w' w.heap.size u (topP p y z) ∧ Below w.heap.size w w' := by
  obtain ⟨g, off, c, g', off', c', rfl, PC⟩ := pile_open hv hf
  have hn8 := hf.short
  have hsame := hf.same
  obtain ⟨W, hW⟩ : ∃ W, (w.alloc (.cells #[.int .i64 p.wd, .slice (some ⟨g, off, none⟩) p.ls.length c, .slice (some ⟨g', off', none⟩) p.ls.length c'] 63)).alloc (.cells #[.int .i64 0, .slice none 0 0, .slice none 0 0] 63) = W := ⟨_, rfl⟩
  have LW := Lib.hid (show Below w.heap.size w W by rw [← hW]; exact ((Below.refl _ _).alloc (Nat.le_refl _) _).alloc (by simp) _)
  have BX := Lib.hid (show Box3 W w.heap.size (.int .i64 p.wd) (.slice (some ⟨g, off, none⟩) p.ls.length c) (.slice (some ⟨g', off', none⟩) p.ls.length c') by rw [← hW]; exact (box3_new _ _ _ _ _).lo ((Below.refl _ _).alloc (Nat.le_refl _) _))
  have BY := Lib.hid (show Box3 W (w.heap.size + 1) (.int .i64 0) (.slice none 0 0) (.slice none 0 0) by rw [← hW]; have := box3_new (w.alloc (.cells #[.int .i64 p.wd, .slice (some ⟨g, off, none⟩) p.ls.length c, .slice (some ⟨g', off', none⟩) p.ls.length c'] 63)) (.int .i64 0) (.slice none 0 0) (.slice none 0 0) 63; simpa using this)
  have FY := Lib.hid (show ∀ j, W.frozen? ⟨w.heap.size + 1, j, none⟩ = false by rw [← hW]; exact fun j => World.frozen?_alloc_at _ _ _ _ (by simp))
  have HSZ := Lib.hid (show W.heap.size = w.heap.size + 2 by rw [← hW]; simp)
  have PW := Lib.hid (PC.lo LW.out)
  have hn1 := hf.one
  obtain ⟨n, hn⟩ : ∃ n, p.ls.length = n := ⟨_, rfl⟩
  have HL4 := Lib.hid hn
  have HL10 := Lib.hid (hsame.trans hn)
  rw [hn] at hn8 hn1 hsame hW BX ⊢
  have O4 := Lib.hid (fun w1 (l : Below W.heap.size W w1) => l1Own_any (.slice (some ⟨g, off, none⟩) n c) p.ls w1 ⟨g, off, c, by rw [hn], (PW.out.lo l).b1, fun j hj => (PW.out.lo l).c1 j hj⟩ (by omega))
  have O10 := Lib.hid (fun w1 (l : Below W.heap.size W w1) => l1Own_any (.slice (some ⟨g', off', none⟩) n c') p.ws w1 ⟨g', off', c', by rw [hsame], (PW.out.lo l).b2, fun j hj => (PW.out.lo l).c2 j (by omega)⟩ (by omega))
  obtain ⟨i0, hi, hz0, hz1, hz2⟩ := info_parts infoInt
  clear hv hf PC hn hsame PW
  obtain ⟨bx, u0, u1, u2⟩ := BX.out
  go_enter Try.func118, Try.ntmps118
  go_wp2_with fail
  clear hW u0 u1 u2 bx
  refine wp_region_inv (by kernel_rfl) (by kernel_rfl) (fun D a X => ∃ (t7 t8 t9 t10 t11 t12 t13 t14 t15 t16 t17 t18 t19 t20 t21 : Value) (g4 k4 g6 g7 k7 g10 k10 g12 g13 k13 : Nat), a = (⟨#[(.agg #[.int .i64 p.wd, .slice (some ⟨g, off, none⟩) n c, .slice (some ⟨g', off', none⟩) n c']), .int .i64 y, .int .i64 z, .pointer (some ⟨w.heap.size, 0, none⟩), undef, undef, .pointer (some ⟨w.heap.size + 1, 0, none⟩), t7, t8, t9, t10, t11, t12, t13, t14, t15, t16, t17, t18, t19, t20, t21], []⟩ : Act) ∧ (D 15 → ∃ q1 k1 q2 k2, FBox X (w.heap.size + 1) (.int .i64 p.wd) (.slice (some ⟨q1, 0, none⟩) (n + 1) k1) (.slice (some ⟨q2, 0, none⟩) (n + 1) k2) ∧ OwnB X W.heap.size q1 k1 (n + 1) (p.ls ++ [y]) ∧ OwnB X W.heap.size q2 k2 (n + 1) (p.ws ++ [z]) ∧ Below w.heap.size w X) ∧ (¬ D 15 → Hid (Below W.heap.size W X) ∧ (D 0 → (t7 = .pointer (some ⟨w.heap.size, 0, none⟩))) ∧ (D 1 → (t8 = .int .i64 p.wd)) ∧ (D 2 → (t9 = .pointer (some ⟨w.heap.size, 1, none⟩))) ∧ (D 3 → (t10 = .slice (some ⟨g, off, none⟩) n c)) ∧ (D 4 → ¬ D 7 → (t11 = .slice (some ⟨g4, 0, none⟩) n k4 ∧ OwnB X W.heap.size g4 k4 (n) (p.ls))) ∧ (D 5 → (t12 = .int .i64 y)) ∧ (D 6 → ¬ D 7 → (t13 = .slice (some ⟨g6, 0, none⟩) 1 1 ∧ LitB X g6 y)) ∧ (D 7 → (t14 = .slice (some ⟨g7, 0, none⟩) (n + 1) k7 ∧ OwnB X W.heap.size g7 k7 (n + 1) (p.ls ++ [y]))) ∧ (D 8 → (t15 = .pointer (some ⟨w.heap.size, 2, none⟩))) ∧ (D 9 → (t16 = .slice (some ⟨g', off', none⟩) n c')) ∧ (D 10 → ¬ D 13 → (t17 = .slice (some ⟨g10, 0, none⟩) n k10 ∧ OwnB X W.heap.size g10 k10 (n) (p.ws))) ∧ (D 11 → (t18 = .int .i64 z)) ∧ (D 12 → ¬ D 13 → (t19 = .slice (some ⟨g12, 0, none⟩) 1 1 ∧ LitB X g12 z)) ∧ (D 13 → (t20 = .slice (some ⟨g13, 0, none⟩) (n + 1) k13 ∧ OwnB X W.heap.size g13 k13 (n + 1) (p.ws ++ [z]))) ∧ (D 14 → (t21 = .agg #[.int .i64 p.wd, .slice (some ⟨g7, 0, none⟩) (n + 1) k7, .slice (some ⟨g13, 0, none⟩) (n + 1) k13])) ∧ (D 12 → D 4 → ¬ D 7 → ¬ D 13 → (g12 ≠ g4)) ∧ (D 12 → D 7 → ¬ D 13 → (g12 ≠ g7)) ∧ (D 10 → ¬ D 13 → (g10 ≠ g7)) ∧ (D 13 → (g13 ≠ g7)))) ?_ ?_ ?_
  · exact ⟨_, _, _, _, _, _, _, _, _, _, _, _, _, _, _, 0, 0, 0, 0, 0, 0, 0, 0, 0, 0, rfl, fun h => h.elim, fun _ => ⟨Lib.hid (drew_below W), fun h => h.elim, fun h => h.elim, fun h => h.elim, fun h => h.elim, fun h => h.elim, fun h => h.elim, fun h => h.elim, fun h => h.elim, fun h => h.elim, fun h => h.elim, fun h => h.elim, fun h => h.elim, fun h => h.elim, fun h => h.elim, fun h => h.elim, fun h => h.elim, fun h => h.elim, fun h => h.elim, fun h => h.elim⟩⟩
  · refine (show ∀ i, i < 16 → StepAt _ _ _ _ _ i from ?_)
    refine lt_more (n := 15) ?_ (lt_more (n := 14) ?_ (lt_more (n := 13) ?_ (lt_more (n := 12) ?_ (lt_more (n := 11) ?_ (lt_more (n := 10) ?_ (lt_more (n := 9) ?_ (lt_more (n := 8) ?_ (lt_more (n := 7) ?_ (lt_more (n := 6) ?_ (lt_more (n := 5) ?_ (lt_more (n := 4) ?_ (lt_more (n := 3) ?_ (lt_more (n := 2) ?_ (lt_more (n := 1) ?_ (lt_more (n := 0) ?_ lt_none)))))))))))))))
    · refine step_of _ [14, 13, 0, 1, 2, 3, 4, 5, 6, 7, 8, 9, 10, 11, 12, 13, 14] [] rfl (by kernel_rfl) (by kernel_rfl) ?_
      rintro D a X hn hd hc ⟨t7, t8, t9, t10, t11, t12, t13, t14, t15, t16, t17, t18, t19, t20, t21, g4, k4, g6, g7, k7, g10, k10, g12, g13, k13, rfl, _, hrest⟩ K' hK
      have nl := hn
      obtain ⟨LX, c0, c1, c2, c3, c4, c5, c6, c7, c8, c9, c10, c11, c12, c13, c14, s1, s2, s3, s5⟩ := hrest nl
      clear hrest
      have d0 := hd 0 (by simp)
      have d1 := hd 1 (by simp)
      have d2 := hd 2 (by simp)
      have d3 := hd 3 (by simp)
      have d4 := hd 4 (by simp)
      have d5 := hd 5 (by simp)
      have d6 := hd 6 (by simp)
      have d7 := hd 7 (by simp)
      have d8 := hd 8 (by simp)
      have d9 := hd 9 (by simp)
      have d10 := hd 10 (by simp)
      have d11 := hd 11 (by simp)
      have d12 := hd 12 (by simp)
      have d13 := hd 13 (by simp)
      have d14 := hd 14 (by simp)
      clear hd hc
      obtain rfl := c14 d14
      have r7 := (c7 d7).2
      have r13 := (c13 d13).2
      have n7 := s5 d13
      obtain ⟨_, x0, x1, x2⟩ := BY.out.lo LX.out
      have f := fun j => (LX.out.frozen (p := ⟨w.heap.size + 1, j, none⟩) (by have := HSZ.out; simp only; omega)).trans (FY.out j)
      have f0 := f 0
      have f1 := f 1
      have f2 := f 2
      have FB : FBox X (w.heap.size + 1) _ _ _ := ⟨BY.out.lo LX.out, f⟩
      go_simp
      refine hK _ _ ⟨_, _, _, _, _, _, _, _, _, _, _, _, _, _, _, g4, k4, g6, g7, k7, g10, k10, g12, g13, k13, by first | rfl | simp [Act.put], fun _ => ?_, fun m => absurd (.inl rfl) m⟩
      exact ⟨_, _, _, _, fset X _ FB _ _ _, r7.part (pset X _ _ _ _) (by have := HSZ.out; have := r7.1; omega), r13.part (pset X _ _ _ _) (by have := HSZ.out; have := r13.1; omega), (LW.out.trans (LX.out.mono LW.out.size)).trans (((pset X (w.heap.size + 1) _ _ _).below (by have := HSZ.out; have := LX.out.size; omega)).mono (by omega))⟩
    · refine step_of _ [1, 7, 13] [(15, 14)] rfl (by kernel_rfl) (by kernel_rfl) ?_
      rintro D a X hn hd hc ⟨t7, t8, t9, t10, t11, t12, t13, t14, t15, t16, t17, t18, t19, t20, t21, g4, k4, g6, g7, k7, g10, k10, g12, g13, k13, rfl, _, hrest⟩ K' hK
      have nl : ¬ D 15 := fun h => hn (hc (15, 14) (by simp) h)
      obtain ⟨LX, c0, c1, c2, c3, c4, c5, c6, c7, c8, c9, c10, c11, c12, c13, c14, s1, s2, s3, s5⟩ := hrest nl
      clear hrest
      have d1 := hd 1 (by simp)
      have d7 := hd 7 (by simp)
      have d13 := hd 13 (by simp)
      clear hd hc
      obtain rfl := c1 d1
      obtain ⟨rfl, _⟩ := c7 d7
      obtain ⟨rfl, _⟩ := c13 d13
      go_simp
      refine hK _ _ ⟨_, _, _, _, _, _, _, _, _, _, _, _, _, _, _, g4, k4, g6, g7, k7, g10, k10, g12, g13, k13, by first | rfl | simp [Act.put], fun h => (nl (h.resolve_left (by decide))).elim, fun _ => ⟨LX, ?c0, ?c1, ?c2, ?c3, ?c4, ?c5, ?c6, ?c7, ?c8, ?c9, ?c10, ?c11, ?c12, ?c13, ?c14, ?s1, ?s2, ?s3, ?s5⟩⟩
      case c0 => exact fun h0 => c0 (h0.resolve_left (by decide))
      case c1 => exact fun h1 => c1 (h1.resolve_left (by decide))
      case c2 => exact fun h2 => c2 (h2.resolve_left (by decide))
      case c3 => exact fun h3 => c3 (h3.resolve_left (by decide))
      case c4 => exact fun h4 m7 => c4 (h4.resolve_left (by decide)) (fun q => m7 (.inr q))
      case c5 => exact fun h5 => c5 (h5.resolve_left (by decide))
      case c6 => exact fun h6 m7 => c6 (h6.resolve_left (by decide)) (fun q => m7 (.inr q))
      case c7 => exact fun h7 => c7 (h7.resolve_left (by decide))
      case c8 => exact fun h8 => c8 (h8.resolve_left (by decide))
      case c9 => exact fun h9 => c9 (h9.resolve_left (by decide))
      case c10 => exact fun h10 m13 => c10 (h10.resolve_left (by decide)) (fun q => m13 (.inr q))
      case c11 => exact fun h11 => c11 (h11.resolve_left (by decide))
      case c12 => exact fun h12 m13 => c12 (h12.resolve_left (by decide)) (fun q => m13 (.inr q))
      case c13 => exact fun h13 => c13 (h13.resolve_left (by decide))
      case c14 => exact fun h14 => rfl
      case s1 => exact fun h12 h4 m7 m13 => s1 (h12.resolve_left (by decide)) (h4.resolve_left (by decide)) (fun q => m7 (.inr q)) (fun q => m13 (.inr q))
      case s2 => exact fun h12 h7 m13 => s2 (h12.resolve_left (by decide)) (h7.resolve_left (by decide)) (fun q => m13 (.inr q))
      case s3 => exact fun h10 m13 => s3 (h10.resolve_left (by decide)) (fun q => m13 (.inr q))
      case s5 => exact fun h13 => s5 (h13.resolve_left (by decide))
    · refine step_of _ [10, 12, 10] [(15, 13), (14, 13), (10, 7)] rfl (by kernel_rfl) (by kernel_rfl) ?_
      rintro D a X hn hd hc ⟨t7, t8, t9, t10, t11, t12, t13, t14, t15, t16, t17, t18, t19, t20, t21, g4, k4, g6, g7, k7, g10, k10, g12, g13, k13, rfl, _, hrest⟩ K' hK
      have nl : ¬ D 15 := fun h => hn (hc (15, 13) (by simp) h)
      obtain ⟨LX, c0, c1, c2, c3, c4, c5, c6, c7, c8, c9, c10, c11, c12, c13, c14, s1, s2, s3, s5⟩ := hrest nl
      clear hrest
      have d10 := hd 10 (by simp)
      have d12 := hd 12 (by simp)
      have e14_13 := hc (14, 13) (by simp)
      have e10_7 := hc (10, 7) (by simp)
      clear hd hc
      obtain ⟨rfl, r10⟩ := c10 d10 hn
      obtain ⟨rfl, r12⟩ := c12 d12 hn
      have hsX := LX.out.size
      have d7 := e10_7 d10
      refine step_append_lies _ (by rfl) _ _ _ (by rfl) W.heap.size 3 i0 _ 1 8 Try.underlying58 hi hz0 hz1 hz2 rfl (by omega) (.slice (some ⟨g10, 0, none⟩) n k10) n (icells p.ws) (by rfl) r10.2.2 ⟨g12, 0, none⟩ 1 1 [.int .i64 z] (by rfl) (by rfl) (World.news_of_block (cs := #[.int .i64 z]) (t := 3) (fr := (0, 0)) r12.2) (by simp [Value.oneCell']) (by omega) (by unfold maxLen; omega) (by omega) hsX X.heap.size rfl ?_
      intro g13' k13' X5 hown hgrow hat hlt
      have hob : OwnB X5 W.heap.size g13' k13' (n + 1) (p.ws ++ [z]) := ⟨hat_ge hat r10.1 hsX, hlt, by rw [icells_app]; exact hown⟩
      refine hK _ _ ⟨_, _, _, _, _, _, _, _, _, _, _, _, _, _, _, g4, k4, g6, g7, k7, g10, k10, g12, g13', k13', by first | rfl | simp [Act.put], fun h => (nl (h.resolve_left (by decide))).elim, fun _ => ⟨Lib.hid (LX.out.grown hgrow hsX (fun q hq => by cases hq; exact r10.1)), ?c0, ?c1, ?c2, ?c3, ?c4, ?c5, ?c6, ?c7, ?c8, ?c9, ?c10, ?c11, ?c12, ?c13, ?c14, ?s1, ?s2, ?s3, ?s5⟩⟩
      case c0 => exact fun h0 => c0 (h0.resolve_left (by decide))
      case c1 => exact fun h1 => c1 (h1.resolve_left (by decide))
      case c2 => exact fun h2 => c2 (h2.resolve_left (by decide))
      case c3 => exact fun h3 => c3 (h3.resolve_left (by decide))
      case c4 => exact fun h4 m7 => ⟨(c4 (h4.resolve_left (by decide)) (fun q => m7 (.inr q))).1, (c4 (h4.resolve_left (by decide)) (fun q => m7 (.inr q))).2.grown hgrow (absurd d7 (fun q => m7 (.inr q)))⟩
      case c5 => exact fun h5 => c5 (h5.resolve_left (by decide))
      case c6 => exact fun h6 m7 => ⟨(c6 (h6.resolve_left (by decide)) (fun q => m7 (.inr q))).1, (c6 (h6.resolve_left (by decide)) (fun q => m7 (.inr q))).2.grown hgrow (absurd d7 (fun q => m7 (.inr q)))⟩
      case c7 => exact fun h7 => ⟨(c7 (h7.resolve_left (by decide))).1, (c7 (h7.resolve_left (by decide))).2.grown hgrow (Ne.symm (s3 d10 hn))⟩
      case c8 => exact fun h8 => c8 (h8.resolve_left (by decide))
      case c9 => exact fun h9 => c9 (h9.resolve_left (by decide))
      case c10 => exact fun h10 m13 => absurd (.inl rfl) m13
      case c11 => exact fun h11 => c11 (h11.resolve_left (by decide))
      case c12 => exact fun h12 m13 => absurd (.inl rfl) m13
      case c13 => exact fun h13 => ⟨rfl, hob⟩
      case c14 => exact fun h14 => (hn (e14_13 (h14.resolve_left (by decide)))).elim
      case s1 => exact fun h12 h4 m7 m13 => absurd (.inl rfl) m13
      case s2 => exact fun h12 h7 m13 => absurd (.inl rfl) m13
      case s3 => exact fun h10 m13 => absurd (.inl rfl) m13
      case s5 => exact fun h13 => Ne.symm (hat_ne hat (Ne.symm (s3 d10 hn)) (c7 d7).2.2.1)
    · refine step_of _ [11] [(15, 12)] rfl (by kernel_rfl) (by kernel_rfl) ?_
      rintro D a X hn hd hc ⟨t7, t8, t9, t10, t11, t12, t13, t14, t15, t16, t17, t18, t19, t20, t21, g4, k4, g6, g7, k7, g10, k10, g12, g13, k13, rfl, _, hrest⟩ K' hK
      have nl : ¬ D 15 := fun h => hn (hc (15, 12) (by simp) h)
      obtain ⟨LX, c0, c1, c2, c3, c4, c5, c6, c7, c8, c9, c10, c11, c12, c13, c14, s1, s2, s3, s5⟩ := hrest nl
      clear hrest
      have d11 := hd 11 (by simp)
      clear hd hc
      obtain rfl := c11 d11
      have l := al X (.cells #[.int .i64 z] 3)
      go_simp
      refine hK _ _ ⟨_, _, _, _, _, _, _, _, _, _, _, _, _, _, _, g4, k4, g6, g7, k7, g10, k10, X.heap.size, g13, k13, by first | rfl | simp [Act.put], fun h => (nl (h.resolve_left (by decide))).elim, fun _ => ⟨Lib.hid (lo_on LX.out l), ?c0, ?c1, ?c2, ?c3, ?c4, ?c5, ?c6, ?c7, ?c8, ?c9, ?c10, ?c11, ?c12, ?c13, ?c14, ?s1, ?s2, ?s3, ?s5⟩⟩
      case c0 => exact fun h0 => c0 (h0.resolve_left (by decide))
      case c1 => exact fun h1 => c1 (h1.resolve_left (by decide))
      case c2 => exact fun h2 => c2 (h2.resolve_left (by decide))
      case c3 => exact fun h3 => c3 (h3.resolve_left (by decide))
      case c4 => exact fun h4 m7 => ⟨(c4 (h4.resolve_left (by decide)) (fun q => m7 (.inr q))).1, (c4 (h4.resolve_left (by decide)) (fun q => m7 (.inr q))).2.lo l⟩
      case c5 => exact fun h5 => c5 (h5.resolve_left (by decide))
      case c6 => exact fun h6 m7 => ⟨(c6 (h6.resolve_left (by decide)) (fun q => m7 (.inr q))).1, (c6 (h6.resolve_left (by decide)) (fun q => m7 (.inr q))).2.lo l⟩
      case c7 => exact fun h7 => ⟨(c7 (h7.resolve_left (by decide))).1, (c7 (h7.resolve_left (by decide))).2.lo l⟩
      case c8 => exact fun h8 => c8 (h8.resolve_left (by decide))
      case c9 => exact fun h9 => c9 (h9.resolve_left (by decide))
      case c10 => exact fun h10 m13 => ⟨(c10 (h10.resolve_left (by decide)) (fun q => m13 (.inr q))).1, (c10 (h10.resolve_left (by decide)) (fun q => m13 (.inr q))).2.lo l⟩
      case c11 => exact fun h11 => c11 (h11.resolve_left (by decide))
      case c12 => exact fun h12 m13 => ⟨rfl, lit_new X z⟩
      case c13 => exact fun h13 => ⟨(c13 (h13.resolve_left (by decide))).1, (c13 (h13.resolve_left (by decide))).2.lo l⟩
      case c14 => exact fun h14 => c14 (h14.resolve_left (by decide))
      case s1 => exact fun h12 h4 m7 m13 => by have := (c4 (h4.resolve_left (by decide)) (fun q => m7 (.inr q))).2.2.1; omega
      case s2 => exact fun h12 h7 m13 => by have := (c7 (h7.resolve_left (by decide))).2.2.1; omega
      case s3 => exact fun h10 m13 => s3 (h10.resolve_left (by decide)) (fun q => m13 (.inr q))
      case s5 => exact fun h13 => s5 (h13.resolve_left (by decide))
    · refine step_of _ [] [(15, 11)] rfl (by kernel_rfl) (by kernel_rfl) ?_
      rintro D a X hn hd hc ⟨t7, t8, t9, t10, t11, t12, t13, t14, t15, t16, t17, t18, t19, t20, t21, g4, k4, g6, g7, k7, g10, k10, g12, g13, k13, rfl, _, hrest⟩ K' hK
      have nl : ¬ D 15 := fun h => hn (hc (15, 11) (by simp) h)
      obtain ⟨LX, c0, c1, c2, c3, c4, c5, c6, c7, c8, c9, c10, c11, c12, c13, c14, s1, s2, s3, s5⟩ := hrest nl
      clear hrest
      clear hd hc
      go_simp
      refine hK _ _ ⟨_, _, _, _, _, _, _, _, _, _, _, _, _, _, _, g4, k4, g6, g7, k7, g10, k10, g12, g13, k13, by first | rfl | simp [Act.put], fun h => (nl (h.resolve_left (by decide))).elim, fun _ => ⟨LX, ?c0, ?c1, ?c2, ?c3, ?c4, ?c5, ?c6, ?c7, ?c8, ?c9, ?c10, ?c11, ?c12, ?c13, ?c14, ?s1, ?s2, ?s3, ?s5⟩⟩
      case c0 => exact fun h0 => c0 (h0.resolve_left (by decide))
      case c1 => exact fun h1 => c1 (h1.resolve_left (by decide))
      case c2 => exact fun h2 => c2 (h2.resolve_left (by decide))
      case c3 => exact fun h3 => c3 (h3.resolve_left (by decide))
      case c4 => exact fun h4 m7 => c4 (h4.resolve_left (by decide)) (fun q => m7 (.inr q))
      case c5 => exact fun h5 => c5 (h5.resolve_left (by decide))
      case c6 => exact fun h6 m7 => c6 (h6.resolve_left (by decide)) (fun q => m7 (.inr q))
      case c7 => exact fun h7 => c7 (h7.resolve_left (by decide))
      case c8 => exact fun h8 => c8 (h8.resolve_left (by decide))
      case c9 => exact fun h9 => c9 (h9.resolve_left (by decide))
      case c10 => exact fun h10 m13 => c10 (h10.resolve_left (by decide)) (fun q => m13 (.inr q))
      case c11 => exact fun h11 => rfl
      case c12 => exact fun h12 m13 => c12 (h12.resolve_left (by decide)) (fun q => m13 (.inr q))
      case c13 => exact fun h13 => c13 (h13.resolve_left (by decide))
      case c14 => exact fun h14 => c14 (h14.resolve_left (by decide))
      case s1 => exact fun h12 h4 m7 m13 => s1 (h12.resolve_left (by decide)) (h4.resolve_left (by decide)) (fun q => m7 (.inr q)) (fun q => m13 (.inr q))
      case s2 => exact fun h12 h7 m13 => s2 (h12.resolve_left (by decide)) (h7.resolve_left (by decide)) (fun q => m13 (.inr q))
      case s3 => exact fun h10 m13 => s3 (h10.resolve_left (by decide)) (fun q => m13 (.inr q))
      case s5 => exact fun h13 => s5 (h13.resolve_left (by decide))
    · refine step_of _ [9, 7] [(15, 10)] rfl (by kernel_rfl) (by kernel_rfl) ?_
      rintro D a X hn hd hc ⟨t7, t8, t9, t10, t11, t12, t13, t14, t15, t16, t17, t18, t19, t20, t21, g4, k4, g6, g7, k7, g10, k10, g12, g13, k13, rfl, _, hrest⟩ K' hK
      have nl : ¬ D 15 := fun h => hn (hc (15, 10) (by simp) h)
      obtain ⟨LX, c0, c1, c2, c3, c4, c5, c6, c7, c8, c9, c10, c11, c12, c13, c14, s1, s2, s3, s5⟩ := hrest nl
      clear hrest
      have d7 := hd 7 (by simp)
      have d9 := hd 9 (by simp)
      clear hd hc
      obtain rfl := c9 d9
      have C := O10.out X LX.out
      go_simp
      refine C.mono ?_
      rintro e X5 ⟨v5, rfl, o5, l⟩
      obtain ⟨g10', k10', rfl, hge, hob⟩ := own_open o5 (HL10.out) (by omega)
      go_simp
      refine hK _ _ ⟨_, _, _, _, _, _, _, _, _, _, _, _, _, _, _, g4, k4, g6, g7, k7, g10', k10', g12, g13, k13, by first | rfl | simp [Act.put], fun h => (nl (h.resolve_left (by decide))).elim, fun _ => ⟨Lib.hid (lo_on LX.out l), ?c0, ?c1, ?c2, ?c3, ?c4, ?c5, ?c6, ?c7, ?c8, ?c9, ?c10, ?c11, ?c12, ?c13, ?c14, ?s1, ?s2, ?s3, ?s5⟩⟩
      case c0 => exact fun h0 => c0 (h0.resolve_left (by decide))
      case c1 => exact fun h1 => c1 (h1.resolve_left (by decide))
      case c2 => exact fun h2 => c2 (h2.resolve_left (by decide))
      case c3 => exact fun h3 => c3 (h3.resolve_left (by decide))
      case c4 => exact fun h4 m7 => ⟨(c4 (h4.resolve_left (by decide)) (fun q => m7 (.inr q))).1, (c4 (h4.resolve_left (by decide)) (fun q => m7 (.inr q))).2.lo l⟩
      case c5 => exact fun h5 => c5 (h5.resolve_left (by decide))
      case c6 => exact fun h6 m7 => ⟨(c6 (h6.resolve_left (by decide)) (fun q => m7 (.inr q))).1, (c6 (h6.resolve_left (by decide)) (fun q => m7 (.inr q))).2.lo l⟩
      case c7 => exact fun h7 => ⟨(c7 (h7.resolve_left (by decide))).1, (c7 (h7.resolve_left (by decide))).2.lo l⟩
      case c8 => exact fun h8 => c8 (h8.resolve_left (by decide))
      case c9 => exact fun h9 => c9 (h9.resolve_left (by decide))
      case c10 => exact fun h10 m13 => ⟨rfl, hob.base (by have := LX.out.size; omega)⟩
      case c11 => exact fun h11 => c11 (h11.resolve_left (by decide))
      case c12 => exact fun h12 m13 => ⟨(c12 (h12.resolve_left (by decide)) (fun q => m13 (.inr q))).1, (c12 (h12.resolve_left (by decide)) (fun q => m13 (.inr q))).2.lo l⟩
      case c13 => exact fun h13 => ⟨(c13 (h13.resolve_left (by decide))).1, (c13 (h13.resolve_left (by decide))).2.lo l⟩
      case c14 => exact fun h14 => c14 (h14.resolve_left (by decide))
      case s1 => exact fun h12 h4 m7 m13 => s1 (h12.resolve_left (by decide)) (h4.resolve_left (by decide)) (fun q => m7 (.inr q)) (fun q => m13 (.inr q))
      case s2 => exact fun h12 h7 m13 => s2 (h12.resolve_left (by decide)) (h7.resolve_left (by decide)) (fun q => m13 (.inr q))
      case s3 => exact fun h10 m13 => by have := (c7 d7).2.2.1; omega
      case s5 => exact fun h13 => s5 (h13.resolve_left (by decide))
    · refine step_of _ [8] [(15, 9)] rfl (by kernel_rfl) (by kernel_rfl) ?_
      rintro D a X hn hd hc ⟨t7, t8, t9, t10, t11, t12, t13, t14, t15, t16, t17, t18, t19, t20, t21, g4, k4, g6, g7, k7, g10, k10, g12, g13, k13, rfl, _, hrest⟩ K' hK
      have nl : ¬ D 15 := fun h => hn (hc (15, 9) (by simp) h)
      obtain ⟨LX, c0, c1, c2, c3, c4, c5, c6, c7, c8, c9, c10, c11, c12, c13, c14, s1, s2, s3, s5⟩ := hrest nl
      clear hrest
      have d8 := hd 8 (by simp)
      clear hd hc
      obtain rfl := c8 d8
      obtain ⟨_, x0, x1, x2⟩ := BX.out.lo LX.out
      go_simp
      refine hK _ _ ⟨_, _, _, _, _, _, _, _, _, _, _, _, _, _, _, g4, k4, g6, g7, k7, g10, k10, g12, g13, k13, by first | rfl | simp [Act.put], fun h => (nl (h.resolve_left (by decide))).elim, fun _ => ⟨LX, ?c0, ?c1, ?c2, ?c3, ?c4, ?c5, ?c6, ?c7, ?c8, ?c9, ?c10, ?c11, ?c12, ?c13, ?c14, ?s1, ?s2, ?s3, ?s5⟩⟩
      case c0 => exact fun h0 => c0 (h0.resolve_left (by decide))
      case c1 => exact fun h1 => c1 (h1.resolve_left (by decide))
      case c2 => exact fun h2 => c2 (h2.resolve_left (by decide))
      case c3 => exact fun h3 => c3 (h3.resolve_left (by decide))
      case c4 => exact fun h4 m7 => c4 (h4.resolve_left (by decide)) (fun q => m7 (.inr q))
      case c5 => exact fun h5 => c5 (h5.resolve_left (by decide))
      case c6 => exact fun h6 m7 => c6 (h6.resolve_left (by decide)) (fun q => m7 (.inr q))
      case c7 => exact fun h7 => c7 (h7.resolve_left (by decide))
      case c8 => exact fun h8 => c8 (h8.resolve_left (by decide))
      case c9 => exact fun h9 => rfl
      case c10 => exact fun h10 m13 => c10 (h10.resolve_left (by decide)) (fun q => m13 (.inr q))
      case c11 => exact fun h11 => c11 (h11.resolve_left (by decide))
      case c12 => exact fun h12 m13 => c12 (h12.resolve_left (by decide)) (fun q => m13 (.inr q))
      case c13 => exact fun h13 => c13 (h13.resolve_left (by decide))
      case c14 => exact fun h14 => c14 (h14.resolve_left (by decide))
      case s1 => exact fun h12 h4 m7 m13 => s1 (h12.resolve_left (by decide)) (h4.resolve_left (by decide)) (fun q => m7 (.inr q)) (fun q => m13 (.inr q))
      case s2 => exact fun h12 h7 m13 => s2 (h12.resolve_left (by decide)) (h7.resolve_left (by decide)) (fun q => m13 (.inr q))
      case s3 => exact fun h10 m13 => s3 (h10.resolve_left (by decide)) (fun q => m13 (.inr q))
      case s5 => exact fun h13 => s5 (h13.resolve_left (by decide))
    · refine step_of _ [] [(15, 8)] rfl (by kernel_rfl) (by kernel_rfl) ?_
      rintro D a X hn hd hc ⟨t7, t8, t9, t10, t11, t12, t13, t14, t15, t16, t17, t18, t19, t20, t21, g4, k4, g6, g7, k7, g10, k10, g12, g13, k13, rfl, _, hrest⟩ K' hK
      have nl : ¬ D 15 := fun h => hn (hc (15, 8) (by simp) h)
      obtain ⟨LX, c0, c1, c2, c3, c4, c5, c6, c7, c8, c9, c10, c11, c12, c13, c14, s1, s2, s3, s5⟩ := hrest nl
      clear hrest
      clear hd hc
      go_simp
      refine hK _ _ ⟨_, _, _, _, _, _, _, _, _, _, _, _, _, _, _, g4, k4, g6, g7, k7, g10, k10, g12, g13, k13, by first | rfl | simp [Act.put], fun h => (nl (h.resolve_left (by decide))).elim, fun _ => ⟨LX, ?c0, ?c1, ?c2, ?c3, ?c4, ?c5, ?c6, ?c7, ?c8, ?c9, ?c10, ?c11, ?c12, ?c13, ?c14, ?s1, ?s2, ?s3, ?s5⟩⟩
      case c0 => exact fun h0 => c0 (h0.resolve_left (by decide))
      case c1 => exact fun h1 => c1 (h1.resolve_left (by decide))
      case c2 => exact fun h2 => c2 (h2.resolve_left (by decide))
      case c3 => exact fun h3 => c3 (h3.resolve_left (by decide))
      case c4 => exact fun h4 m7 => c4 (h4.resolve_left (by decide)) (fun q => m7 (.inr q))
      case c5 => exact fun h5 => c5 (h5.resolve_left (by decide))
      case c6 => exact fun h6 m7 => c6 (h6.resolve_left (by decide)) (fun q => m7 (.inr q))
      case c7 => exact fun h7 => c7 (h7.resolve_left (by decide))
      case c8 => exact fun h8 => rfl
      case c9 => exact fun h9 => c9 (h9.resolve_left (by decide))
      case c10 => exact fun h10 m13 => c10 (h10.resolve_left (by decide)) (fun q => m13 (.inr q))
      case c11 => exact fun h11 => c11 (h11.resolve_left (by decide))
      case c12 => exact fun h12 m13 => c12 (h12.resolve_left (by decide)) (fun q => m13 (.inr q))
      case c13 => exact fun h13 => c13 (h13.resolve_left (by decide))
      case c14 => exact fun h14 => c14 (h14.resolve_left (by decide))
      case s1 => exact fun h12 h4 m7 m13 => s1 (h12.resolve_left (by decide)) (h4.resolve_left (by decide)) (fun q => m7 (.inr q)) (fun q => m13 (.inr q))
      case s2 => exact fun h12 h7 m13 => s2 (h12.resolve_left (by decide)) (h7.resolve_left (by decide)) (fun q => m13 (.inr q))
      case s3 => exact fun h10 m13 => s3 (h10.resolve_left (by decide)) (fun q => m13 (.inr q))
      case s5 => exact fun h13 => s5 (h13.resolve_left (by decide))
    · refine step_of _ [4, 6, 4] [(15, 7), (10, 7), (13, 10), (14, 13)] rfl (by kernel_rfl) (by kernel_rfl) ?_
      rintro D a X hn hd hc ⟨t7, t8, t9, t10, t11, t12, t13, t14, t15, t16, t17, t18, t19, t20, t21, g4, k4, g6, g7, k7, g10, k10, g12, g13, k13, rfl, _, hrest⟩ K' hK
      have nl : ¬ D 15 := fun h => hn (hc (15, 7) (by simp) h)
      obtain ⟨LX, c0, c1, c2, c3, c4, c5, c6, c7, c8, c9, c10, c11, c12, c13, c14, s1, s2, s3, s5⟩ := hrest nl
      clear hrest
      have d4 := hd 4 (by simp)
      have d6 := hd 6 (by simp)
      have e10_7 := hc (10, 7) (by simp)
      have e13_10 := hc (13, 10) (by simp)
      have e14_13 := hc (14, 13) (by simp)
      clear hd hc
      obtain ⟨rfl, r4⟩ := c4 d4 hn
      obtain ⟨rfl, r6⟩ := c6 d6 hn
      have hsX := LX.out.size
      refine step_append_lies _ (by rfl) _ _ _ (by rfl) W.heap.size 3 i0 _ 1 8 Try.underlying58 hi hz0 hz1 hz2 rfl (by omega) (.slice (some ⟨g4, 0, none⟩) n k4) n (icells p.ls) (by rfl) r4.2.2 ⟨g6, 0, none⟩ 1 1 [.int .i64 y] (by rfl) (by rfl) (World.news_of_block (cs := #[.int .i64 y]) (t := 3) (fr := (0, 0)) r6.2) (by simp [Value.oneCell']) (by omega) (by unfold maxLen; omega) (by omega) hsX X.heap.size rfl ?_
      intro g7' k7' X5 hown hgrow hat hlt
      have hob : OwnB X5 W.heap.size g7' k7' (n + 1) (p.ls ++ [y]) := ⟨hat_ge hat r4.1 hsX, hlt, by rw [icells_app]; exact hown⟩
      refine hK _ _ ⟨_, _, _, _, _, _, _, _, _, _, _, _, _, _, _, g4, k4, g6, g7', k7', g10, k10, g12, g13, k13, by first | rfl | simp [Act.put], fun h => (nl (h.resolve_left (by decide))).elim, fun _ => ⟨Lib.hid (LX.out.grown hgrow hsX (fun q hq => by cases hq; exact r4.1)), ?c0, ?c1, ?c2, ?c3, ?c4, ?c5, ?c6, ?c7, ?c8, ?c9, ?c10, ?c11, ?c12, ?c13, ?c14, ?s1, ?s2, ?s3, ?s5⟩⟩
      case c0 => exact fun h0 => c0 (h0.resolve_left (by decide))
      case c1 => exact fun h1 => c1 (h1.resolve_left (by decide))
      case c2 => exact fun h2 => c2 (h2.resolve_left (by decide))
      case c3 => exact fun h3 => c3 (h3.resolve_left (by decide))
      case c4 => exact fun h4 m7 => absurd (.inl rfl) m7
      case c5 => exact fun h5 => c5 (h5.resolve_left (by decide))
      case c6 => exact fun h6 m7 => absurd (.inl rfl) m7
      case c7 => exact fun h7 => ⟨rfl, hob⟩
      case c8 => exact fun h8 => c8 (h8.resolve_left (by decide))
      case c9 => exact fun h9 => c9 (h9.resolve_left (by decide))
      case c10 => exact fun h10 m13 => (hn (e10_7 (h10.resolve_left (by decide)))).elim
      case c11 => exact fun h11 => c11 (h11.resolve_left (by decide))
      case c12 => exact fun h12 m13 => ⟨(c12 (h12.resolve_left (by decide)) (fun q => m13 (.inr q))).1, (c12 (h12.resolve_left (by decide)) (fun q => m13 (.inr q))).2.grown hgrow (s1 (h12.resolve_left (by decide)) d4 hn (fun q => m13 (.inr q)))⟩
      case c13 => exact fun h13 => (hn (e10_7 (e13_10 (h13.resolve_left (by decide))))).elim
      case c14 => exact fun h14 => (hn (e10_7 (e13_10 (e14_13 (h14.resolve_left (by decide)))))).elim
      case s1 => exact fun h12 h4 m7 m13 => absurd (.inl rfl) m7
      case s2 => exact fun h12 h7 m13 => hat_ne hat (s1 (h12.resolve_left (by decide)) d4 hn (fun q => m13 (.inr q))) (c12 (h12.resolve_left (by decide)) (fun q => m13 (.inr q))).2.1
      case s3 => exact fun h10 m13 => (hn (e10_7 (h10.resolve_left (by decide)))).elim
      case s5 => exact fun h13 => (hn (e10_7 (e13_10 (h13.resolve_left (by decide))))).elim
    · refine step_of _ [5] [(15, 6)] rfl (by kernel_rfl) (by kernel_rfl) ?_
      rintro D a X hn hd hc ⟨t7, t8, t9, t10, t11, t12, t13, t14, t15, t16, t17, t18, t19, t20, t21, g4, k4, g6, g7, k7, g10, k10, g12, g13, k13, rfl, _, hrest⟩ K' hK
      have nl : ¬ D 15 := fun h => hn (hc (15, 6) (by simp) h)
      obtain ⟨LX, c0, c1, c2, c3, c4, c5, c6, c7, c8, c9, c10, c11, c12, c13, c14, s1, s2, s3, s5⟩ := hrest nl
      clear hrest
      have d5 := hd 5 (by simp)
      clear hd hc
      obtain rfl := c5 d5
      have l := al X (.cells #[.int .i64 y] 3)
      go_simp
      refine hK _ _ ⟨_, _, _, _, _, _, _, _, _, _, _, _, _, _, _, g4, k4, X.heap.size, g7, k7, g10, k10, g12, g13, k13, by first | rfl | simp [Act.put], fun h => (nl (h.resolve_left (by decide))).elim, fun _ => ⟨Lib.hid (lo_on LX.out l), ?c0, ?c1, ?c2, ?c3, ?c4, ?c5, ?c6, ?c7, ?c8, ?c9, ?c10, ?c11, ?c12, ?c13, ?c14, ?s1, ?s2, ?s3, ?s5⟩⟩
      case c0 => exact fun h0 => c0 (h0.resolve_left (by decide))
      case c1 => exact fun h1 => c1 (h1.resolve_left (by decide))
      case c2 => exact fun h2 => c2 (h2.resolve_left (by decide))
      case c3 => exact fun h3 => c3 (h3.resolve_left (by decide))
      case c4 => exact fun h4 m7 => ⟨(c4 (h4.resolve_left (by decide)) (fun q => m7 (.inr q))).1, (c4 (h4.resolve_left (by decide)) (fun q => m7 (.inr q))).2.lo l⟩
      case c5 => exact fun h5 => c5 (h5.resolve_left (by decide))
      case c6 => exact fun h6 m7 => ⟨rfl, lit_new X y⟩
      case c7 => exact fun h7 => ⟨(c7 (h7.resolve_left (by decide))).1, (c7 (h7.resolve_left (by decide))).2.lo l⟩
      case c8 => exact fun h8 => c8 (h8.resolve_left (by decide))
      case c9 => exact fun h9 => c9 (h9.resolve_left (by decide))
      case c10 => exact fun h10 m13 => ⟨(c10 (h10.resolve_left (by decide)) (fun q => m13 (.inr q))).1, (c10 (h10.resolve_left (by decide)) (fun q => m13 (.inr q))).2.lo l⟩
      case c11 => exact fun h11 => c11 (h11.resolve_left (by decide))
      case c12 => exact fun h12 m13 => ⟨(c12 (h12.resolve_left (by decide)) (fun q => m13 (.inr q))).1, (c12 (h12.resolve_left (by decide)) (fun q => m13 (.inr q))).2.lo l⟩
      case c13 => exact fun h13 => ⟨(c13 (h13.resolve_left (by decide))).1, (c13 (h13.resolve_left (by decide))).2.lo l⟩
      case c14 => exact fun h14 => c14 (h14.resolve_left (by decide))
      case s1 => exact fun h12 h4 m7 m13 => s1 (h12.resolve_left (by decide)) (h4.resolve_left (by decide)) (fun q => m7 (.inr q)) (fun q => m13 (.inr q))
      case s2 => exact fun h12 h7 m13 => s2 (h12.resolve_left (by decide)) (h7.resolve_left (by decide)) (fun q => m13 (.inr q))
      case s3 => exact fun h10 m13 => s3 (h10.resolve_left (by decide)) (fun q => m13 (.inr q))
      case s5 => exact fun h13 => s5 (h13.resolve_left (by decide))
    · refine step_of _ [] [(15, 5)] rfl (by kernel_rfl) (by kernel_rfl) ?_
      rintro D a X hn hd hc ⟨t7, t8, t9, t10, t11, t12, t13, t14, t15, t16, t17, t18, t19, t20, t21, g4, k4, g6, g7, k7, g10, k10, g12, g13, k13, rfl, _, hrest⟩ K' hK
      have nl : ¬ D 15 := fun h => hn (hc (15, 5) (by simp) h)
      obtain ⟨LX, c0, c1, c2, c3, c4, c5, c6, c7, c8, c9, c10, c11, c12, c13, c14, s1, s2, s3, s5⟩ := hrest nl
      clear hrest
      clear hd hc
      go_simp
      refine hK _ _ ⟨_, _, _, _, _, _, _, _, _, _, _, _, _, _, _, g4, k4, g6, g7, k7, g10, k10, g12, g13, k13, by first | rfl | simp [Act.put], fun h => (nl (h.resolve_left (by decide))).elim, fun _ => ⟨LX, ?c0, ?c1, ?c2, ?c3, ?c4, ?c5, ?c6, ?c7, ?c8, ?c9, ?c10, ?c11, ?c12, ?c13, ?c14, ?s1, ?s2, ?s3, ?s5⟩⟩
      case c0 => exact fun h0 => c0 (h0.resolve_left (by decide))
      case c1 => exact fun h1 => c1 (h1.resolve_left (by decide))
      case c2 => exact fun h2 => c2 (h2.resolve_left (by decide))
      case c3 => exact fun h3 => c3 (h3.resolve_left (by decide))
      case c4 => exact fun h4 m7 => c4 (h4.resolve_left (by decide)) (fun q => m7 (.inr q))
      case c5 => exact fun h5 => rfl
      case c6 => exact fun h6 m7 => c6 (h6.resolve_left (by decide)) (fun q => m7 (.inr q))
      case c7 => exact fun h7 => c7 (h7.resolve_left (by decide))
      case c8 => exact fun h8 => c8 (h8.resolve_left (by decide))
      case c9 => exact fun h9 => c9 (h9.resolve_left (by decide))
      case c10 => exact fun h10 m13 => c10 (h10.resolve_left (by decide)) (fun q => m13 (.inr q))
      case c11 => exact fun h11 => c11 (h11.resolve_left (by decide))
      case c12 => exact fun h12 m13 => c12 (h12.resolve_left (by decide)) (fun q => m13 (.inr q))
      case c13 => exact fun h13 => c13 (h13.resolve_left (by decide))
      case c14 => exact fun h14 => c14 (h14.resolve_left (by decide))
      case s1 => exact fun h12 h4 m7 m13 => s1 (h12.resolve_left (by decide)) (h4.resolve_left (by decide)) (fun q => m7 (.inr q)) (fun q => m13 (.inr q))
      case s2 => exact fun h12 h7 m13 => s2 (h12.resolve_left (by decide)) (h7.resolve_left (by decide)) (fun q => m13 (.inr q))
      case s3 => exact fun h10 m13 => s3 (h10.resolve_left (by decide)) (fun q => m13 (.inr q))
      case s5 => exact fun h13 => s5 (h13.resolve_left (by decide))
    · refine step_of _ [3] [(15, 4)] rfl (by kernel_rfl) (by kernel_rfl) ?_
      rintro D a X hn hd hc ⟨t7, t8, t9, t10, t11, t12, t13, t14, t15, t16, t17, t18, t19, t20, t21, g4, k4, g6, g7, k7, g10, k10, g12, g13, k13, rfl, _, hrest⟩ K' hK
      have nl : ¬ D 15 := fun h => hn (hc (15, 4) (by simp) h)
      obtain ⟨LX, c0, c1, c2, c3, c4, c5, c6, c7, c8, c9, c10, c11, c12, c13, c14, s1, s2, s3, s5⟩ := hrest nl
      clear hrest
      have d3 := hd 3 (by simp)
      clear hd hc
      obtain rfl := c3 d3
      have C := O4.out X LX.out
      go_simp
      refine C.mono ?_
      rintro e X5 ⟨v5, rfl, o5, l⟩
      obtain ⟨g4', k4', rfl, hge, hob⟩ := own_open o5 (HL4.out) (by omega)
      go_simp
      refine hK _ _ ⟨_, _, _, _, _, _, _, _, _, _, _, _, _, _, _, g4', k4', g6, g7, k7, g10, k10, g12, g13, k13, by first | rfl | simp [Act.put], fun h => (nl (h.resolve_left (by decide))).elim, fun _ => ⟨Lib.hid (lo_on LX.out l), ?c0, ?c1, ?c2, ?c3, ?c4, ?c5, ?c6, ?c7, ?c8, ?c9, ?c10, ?c11, ?c12, ?c13, ?c14, ?s1, ?s2, ?s3, ?s5⟩⟩
      case c0 => exact fun h0 => c0 (h0.resolve_left (by decide))
      case c1 => exact fun h1 => c1 (h1.resolve_left (by decide))
      case c2 => exact fun h2 => c2 (h2.resolve_left (by decide))
      case c3 => exact fun h3 => c3 (h3.resolve_left (by decide))
      case c4 => exact fun h4 m7 => ⟨rfl, hob.base (by have := LX.out.size; omega)⟩
      case c5 => exact fun h5 => c5 (h5.resolve_left (by decide))
      case c6 => exact fun h6 m7 => ⟨(c6 (h6.resolve_left (by decide)) (fun q => m7 (.inr q))).1, (c6 (h6.resolve_left (by decide)) (fun q => m7 (.inr q))).2.lo l⟩
      case c7 => exact fun h7 => ⟨(c7 (h7.resolve_left (by decide))).1, (c7 (h7.resolve_left (by decide))).2.lo l⟩
      case c8 => exact fun h8 => c8 (h8.resolve_left (by decide))
      case c9 => exact fun h9 => c9 (h9.resolve_left (by decide))
      case c10 => exact fun h10 m13 => ⟨(c10 (h10.resolve_left (by decide)) (fun q => m13 (.inr q))).1, (c10 (h10.resolve_left (by decide)) (fun q => m13 (.inr q))).2.lo l⟩
      case c11 => exact fun h11 => c11 (h11.resolve_left (by decide))
      case c12 => exact fun h12 m13 => ⟨(c12 (h12.resolve_left (by decide)) (fun q => m13 (.inr q))).1, (c12 (h12.resolve_left (by decide)) (fun q => m13 (.inr q))).2.lo l⟩
      case c13 => exact fun h13 => ⟨(c13 (h13.resolve_left (by decide))).1, (c13 (h13.resolve_left (by decide))).2.lo l⟩
      case c14 => exact fun h14 => c14 (h14.resolve_left (by decide))
      case s1 => exact fun h12 h4 m7 m13 => by have := (c12 (h12.resolve_left (by decide)) (fun q => m13 (.inr q))).2.1; omega
      case s2 => exact fun h12 h7 m13 => s2 (h12.resolve_left (by decide)) (h7.resolve_left (by decide)) (fun q => m13 (.inr q))
      case s3 => exact fun h10 m13 => s3 (h10.resolve_left (by decide)) (fun q => m13 (.inr q))
      case s5 => exact fun h13 => s5 (h13.resolve_left (by decide))
    · refine step_of _ [2] [(15, 3)] rfl (by kernel_rfl) (by kernel_rfl) ?_
      rintro D a X hn hd hc ⟨t7, t8, t9, t10, t11, t12, t13, t14, t15, t16, t17, t18, t19, t20, t21, g4, k4, g6, g7, k7, g10, k10, g12, g13, k13, rfl, _, hrest⟩ K' hK
      have nl : ¬ D 15 := fun h => hn (hc (15, 3) (by simp) h)
      obtain ⟨LX, c0, c1, c2, c3, c4, c5, c6, c7, c8, c9, c10, c11, c12, c13, c14, s1, s2, s3, s5⟩ := hrest nl
      clear hrest
      have d2 := hd 2 (by simp)
      clear hd hc
      obtain rfl := c2 d2
      obtain ⟨_, x0, x1, x2⟩ := BX.out.lo LX.out
      go_simp
      refine hK _ _ ⟨_, _, _, _, _, _, _, _, _, _, _, _, _, _, _, g4, k4, g6, g7, k7, g10, k10, g12, g13, k13, by first | rfl | simp [Act.put], fun h => (nl (h.resolve_left (by decide))).elim, fun _ => ⟨LX, ?c0, ?c1, ?c2, ?c3, ?c4, ?c5, ?c6, ?c7, ?c8, ?c9, ?c10, ?c11, ?c12, ?c13, ?c14, ?s1, ?s2, ?s3, ?s5⟩⟩
      case c0 => exact fun h0 => c0 (h0.resolve_left (by decide))
      case c1 => exact fun h1 => c1 (h1.resolve_left (by decide))
      case c2 => exact fun h2 => c2 (h2.resolve_left (by decide))
      case c3 => exact fun h3 => rfl
      case c4 => exact fun h4 m7 => c4 (h4.resolve_left (by decide)) (fun q => m7 (.inr q))
      case c5 => exact fun h5 => c5 (h5.resolve_left (by decide))
      case c6 => exact fun h6 m7 => c6 (h6.resolve_left (by decide)) (fun q => m7 (.inr q))
      case c7 => exact fun h7 => c7 (h7.resolve_left (by decide))
      case c8 => exact fun h8 => c8 (h8.resolve_left (by decide))
      case c9 => exact fun h9 => c9 (h9.resolve_left (by decide))
      case c10 => exact fun h10 m13 => c10 (h10.resolve_left (by decide)) (fun q => m13 (.inr q))
      case c11 => exact fun h11 => c11 (h11.resolve_left (by decide))
      case c12 => exact fun h12 m13 => c12 (h12.resolve_left (by decide)) (fun q => m13 (.inr q))
      case c13 => exact fun h13 => c13 (h13.resolve_left (by decide))
      case c14 => exact fun h14 => c14 (h14.resolve_left (by decide))
      case s1 => exact fun h12 h4 m7 m13 => s1 (h12.resolve_left (by decide)) (h4.resolve_left (by decide)) (fun q => m7 (.inr q)) (fun q => m13 (.inr q))
      case s2 => exact fun h12 h7 m13 => s2 (h12.resolve_left (by decide)) (h7.resolve_left (by decide)) (fun q => m13 (.inr q))
      case s3 => exact fun h10 m13 => s3 (h10.resolve_left (by decide)) (fun q => m13 (.inr q))
      case s5 => exact fun h13 => s5 (h13.resolve_left (by decide))
    · refine step_of _ [] [(15, 2)] rfl (by kernel_rfl) (by kernel_rfl) ?_
      rintro D a X hn hd hc ⟨t7, t8, t9, t10, t11, t12, t13, t14, t15, t16, t17, t18, t19, t20, t21, g4, k4, g6, g7, k7, g10, k10, g12, g13, k13, rfl, _, hrest⟩ K' hK
      have nl : ¬ D 15 := fun h => hn (hc (15, 2) (by simp) h)
      obtain ⟨LX, c0, c1, c2, c3, c4, c5, c6, c7, c8, c9, c10, c11, c12, c13, c14, s1, s2, s3, s5⟩ := hrest nl
      clear hrest
      clear hd hc
      go_simp
      refine hK _ _ ⟨_, _, _, _, _, _, _, _, _, _, _, _, _, _, _, g4, k4, g6, g7, k7, g10, k10, g12, g13, k13, by first | rfl | simp [Act.put], fun h => (nl (h.resolve_left (by decide))).elim, fun _ => ⟨LX, ?c0, ?c1, ?c2, ?c3, ?c4, ?c5, ?c6, ?c7, ?c8, ?c9, ?c10, ?c11, ?c12, ?c13, ?c14, ?s1, ?s2, ?s3, ?s5⟩⟩
      case c0 => exact fun h0 => c0 (h0.resolve_left (by decide))
      case c1 => exact fun h1 => c1 (h1.resolve_left (by decide))
      case c2 => exact fun h2 => rfl
      case c3 => exact fun h3 => c3 (h3.resolve_left (by decide))
      case c4 => exact fun h4 m7 => c4 (h4.resolve_left (by decide)) (fun q => m7 (.inr q))
      case c5 => exact fun h5 => c5 (h5.resolve_left (by decide))
      case c6 => exact fun h6 m7 => c6 (h6.resolve_left (by decide)) (fun q => m7 (.inr q))
      case c7 => exact fun h7 => c7 (h7.resolve_left (by decide))
      case c8 => exact fun h8 => c8 (h8.resolve_left (by decide))
      case c9 => exact fun h9 => c9 (h9.resolve_left (by decide))
      case c10 => exact fun h10 m13 => c10 (h10.resolve_left (by decide)) (fun q => m13 (.inr q))
      case c11 => exact fun h11 => c11 (h11.resolve_left (by decide))
      case c12 => exact fun h12 m13 => c12 (h12.resolve_left (by decide)) (fun q => m13 (.inr q))
      case c13 => exact fun h13 => c13 (h13.resolve_left (by decide))
      case c14 => exact fun h14 => c14 (h14.resolve_left (by decide))
      case s1 => exact fun h12 h4 m7 m13 => s1 (h12.resolve_left (by decide)) (h4.resolve_left (by decide)) (fun q => m7 (.inr q)) (fun q => m13 (.inr q))
      case s2 => exact fun h12 h7 m13 => s2 (h12.resolve_left (by decide)) (h7.resolve_left (by decide)) (fun q => m13 (.inr q))
      case s3 => exact fun h10 m13 => s3 (h10.resolve_left (by decide)) (fun q => m13 (.inr q))
      case s5 => exact fun h13 => s5 (h13.resolve_left (by decide))
    · refine step_of _ [0] [(15, 1)] rfl (by kernel_rfl) (by kernel_rfl) ?_
      rintro D a X hn hd hc ⟨t7, t8, t9, t10, t11, t12, t13, t14, t15, t16, t17, t18, t19, t20, t21, g4, k4, g6, g7, k7, g10, k10, g12, g13, k13, rfl, _, hrest⟩ K' hK
      have nl : ¬ D 15 := fun h => hn (hc (15, 1) (by simp) h)
      obtain ⟨LX, c0, c1, c2, c3, c4, c5, c6, c7, c8, c9, c10, c11, c12, c13, c14, s1, s2, s3, s5⟩ := hrest nl
      clear hrest
      have d0 := hd 0 (by simp)
      clear hd hc
      obtain rfl := c0 d0
      obtain ⟨_, x0, x1, x2⟩ := BX.out.lo LX.out
      go_simp
      refine hK _ _ ⟨_, _, _, _, _, _, _, _, _, _, _, _, _, _, _, g4, k4, g6, g7, k7, g10, k10, g12, g13, k13, by first | rfl | simp [Act.put], fun h => (nl (h.resolve_left (by decide))).elim, fun _ => ⟨LX, ?c0, ?c1, ?c2, ?c3, ?c4, ?c5, ?c6, ?c7, ?c8, ?c9, ?c10, ?c11, ?c12, ?c13, ?c14, ?s1, ?s2, ?s3, ?s5⟩⟩
      case c0 => exact fun h0 => c0 (h0.resolve_left (by decide))
      case c1 => exact fun h1 => rfl
      case c2 => exact fun h2 => c2 (h2.resolve_left (by decide))
      case c3 => exact fun h3 => c3 (h3.resolve_left (by decide))
      case c4 => exact fun h4 m7 => c4 (h4.resolve_left (by decide)) (fun q => m7 (.inr q))
      case c5 => exact fun h5 => c5 (h5.resolve_left (by decide))
      case c6 => exact fun h6 m7 => c6 (h6.resolve_left (by decide)) (fun q => m7 (.inr q))
      case c7 => exact fun h7 => c7 (h7.resolve_left (by decide))
      case c8 => exact fun h8 => c8 (h8.resolve_left (by decide))
      case c9 => exact fun h9 => c9 (h9.resolve_left (by decide))
      case c10 => exact fun h10 m13 => c10 (h10.resolve_left (by decide)) (fun q => m13 (.inr q))
      case c11 => exact fun h11 => c11 (h11.resolve_left (by decide))
      case c12 => exact fun h12 m13 => c12 (h12.resolve_left (by decide)) (fun q => m13 (.inr q))
      case c13 => exact fun h13 => c13 (h13.resolve_left (by decide))
      case c14 => exact fun h14 => c14 (h14.resolve_left (by decide))
      case s1 => exact fun h12 h4 m7 m13 => s1 (h12.resolve_left (by decide)) (h4.resolve_left (by decide)) (fun q => m7 (.inr q)) (fun q => m13 (.inr q))
      case s2 => exact fun h12 h7 m13 => s2 (h12.resolve_left (by decide)) (h7.resolve_left (by decide)) (fun q => m13 (.inr q))
      case s3 => exact fun h10 m13 => s3 (h10.resolve_left (by decide)) (fun q => m13 (.inr q))
      case s5 => exact fun h13 => s5 (h13.resolve_left (by decide))
    · refine step_of _ [] [(15, 0)] rfl (by kernel_rfl) (by kernel_rfl) ?_
      rintro D a X hn hd hc ⟨t7, t8, t9, t10, t11, t12, t13, t14, t15, t16, t17, t18, t19, t20, t21, g4, k4, g6, g7, k7, g10, k10, g12, g13, k13, rfl, _, hrest⟩ K' hK
      have nl : ¬ D 15 := fun h => hn (hc (15, 0) (by simp) h)
      obtain ⟨LX, c0, c1, c2, c3, c4, c5, c6, c7, c8, c9, c10, c11, c12, c13, c14, s1, s2, s3, s5⟩ := hrest nl
      clear hrest
      clear hd hc
      go_simp
      refine hK _ _ ⟨_, _, _, _, _, _, _, _, _, _, _, _, _, _, _, g4, k4, g6, g7, k7, g10, k10, g12, g13, k13, by first | rfl | simp [Act.put], fun h => (nl (h.resolve_left (by decide))).elim, fun _ => ⟨LX, ?c0, ?c1, ?c2, ?c3, ?c4, ?c5, ?c6, ?c7, ?c8, ?c9, ?c10, ?c11, ?c12, ?c13, ?c14, ?s1, ?s2, ?s3, ?s5⟩⟩
      case c0 => exact fun h0 => rfl
      case c1 => exact fun h1 => c1 (h1.resolve_left (by decide))
      case c2 => exact fun h2 => c2 (h2.resolve_left (by decide))
      case c3 => exact fun h3 => c3 (h3.resolve_left (by decide))
      case c4 => exact fun h4 m7 => c4 (h4.resolve_left (by decide)) (fun q => m7 (.inr q))
      case c5 => exact fun h5 => c5 (h5.resolve_left (by decide))
      case c6 => exact fun h6 m7 => c6 (h6.resolve_left (by decide)) (fun q => m7 (.inr q))
      case c7 => exact fun h7 => c7 (h7.resolve_left (by decide))
      case c8 => exact fun h8 => c8 (h8.resolve_left (by decide))
      case c9 => exact fun h9 => c9 (h9.resolve_left (by decide))
      case c10 => exact fun h10 m13 => c10 (h10.resolve_left (by decide)) (fun q => m13 (.inr q))
      case c11 => exact fun h11 => c11 (h11.resolve_left (by decide))
      case c12 => exact fun h12 m13 => c12 (h12.resolve_left (by decide)) (fun q => m13 (.inr q))
      case c13 => exact fun h13 => c13 (h13.resolve_left (by decide))
      case c14 => exact fun h14 => c14 (h14.resolve_left (by decide))
      case s1 => exact fun h12 h4 m7 m13 => s1 (h12.resolve_left (by decide)) (h4.resolve_left (by decide)) (fun q => m7 (.inr q)) (fun q => m13 (.inr q))
      case s2 => exact fun h12 h7 m13 => s2 (h12.resolve_left (by decide)) (h7.resolve_left (by decide)) (fun q => m13 (.inr q))
      case s3 => exact fun h10 m13 => s3 (h10.resolve_left (by decide)) (fun q => m13 (.inr q))
      case s5 => exact fun h13 => s5 (h13.resolve_left (by decide))
  · rintro D a X hall ⟨t7, t8, t9, t10, t11, t12, t13, t14, t15, t16, t17, t18, t19, t20, t21, g4, k4, g6, g7, k7, g10, k10, g12, g13, k13, rfl, hfin, _⟩
    have HFIN := Lib.hid (hfin (hall 15 (by decide)))
    clear hfin hall
    obtain ⟨q1, k1, q2, k2, fb, r1, r2, lx⟩ := HFIN.out
    obtain ⟨_, b0, b1, b2⟩ := fb.1
    go_wp2
    refine bodyPost_ret (v := .agg #[.int .i64 p.wd, .slice (some ⟨q1, 0, none⟩) (n + 1) k1, .slice (some ⟨q2, 0, none⟩) (n + 1) k2]) (by simp [results, Try.results118, go_sem, b0, b1, b2]) rfl ⟨_, rfl, ?_, lx⟩
    have hw := LW.out.size
    exact ⟨_, _, _, _, rfl, r1.high (by rw [List.length_append, HL4.out]; rfl) hw, r2.high (by rw [List.length_append, HL10.out]; rfl) hw⟩
end Go.Proofs.Ythihamjgfemacaa
