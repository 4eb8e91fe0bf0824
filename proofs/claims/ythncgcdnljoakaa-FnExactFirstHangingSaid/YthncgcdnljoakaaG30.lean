/- FhK, FhL, FhV, as one text. -/
import Derived.Test.YthncgcdnljoakaaG29
import Derived.Test.YthncgcdnljoakaaG19
namespace Go.Proofs.Ythncgcdnljoakaa
open Go.RowKit
theorem l5More_any {m : MobV} (hf : MobF m) (vm : Value) : ∀ (N : Nat) (begun left : List Int) (vb vl : Value) (w : World), left.length = N → begun.length + N = m.am.length + 1 → Wts begun → Wts left → MobRow w vm m → RowS w vb begun → OwnI w 0 vl left →
    Calls Try.prog 109 #[vm, vb, vl] w fun e w' => MoreP m begun left w e w' := by
  intro N
  induction N with
  | zero =>
    intro begun left vb vl w hl hbl hx _ hv hvb hvl
    obtain rfl : left = [] := List.length_eq_zero_iff.1 hl
    exact more_base hf vm begun vb vl w (by omega) hx hv hvb (own_form0 hvl)
  | succ K ih =>
    intro begun left vb vl w hl hbl hx hy hv hvb hvl
    exact more_step hf vm K begun left vb vl w hl hbl hx hy hv hvb hvl ih
theorem wts_are {ws : List Int} {k : Int} (h : areB ws k = true) : Wts ws := fun x hm => by
  obtain ⟨j, hj, he⟩ := List.getElem_of_mem hm
  have := ((areB_iff _ _).1 h).1 j hj
  rw [show ws.getD j 0 = ws[j] by simp [List.getD, hj], he] at this
  exact this
end Go.Proofs.Ythncgcdnljoakaa
namespace Go.Proofs.Ythncgcdnljoakaa
open Go.RowKit
theorem rowS_new (w : World) : RowS (w.alloc (.cells #[] 3)) (.slice (some ⟨w.heap.size, 0, none⟩) 0 0) [] := ⟨w.heap.size, 0, 0, rfl, by simp, fun j hj => by simp at hj⟩
theorem rowS_lit (w : World) (g : Nat) (h : g < w.heap.size) : RowS w (.slice (some ⟨g, 0, none⟩) 0 0) [] := ⟨g, 0, 0, rfl, h, fun j hj => by simp at hj⟩
def FhSo (w : World) (v : Value) (ws : List Int) : Prop := ∃ ys : List Int, ys.Perm ws ∧ OwnI w 0 v ys
theorem FhSo.lo {w w' : World} {v : Value} {ws : List Int} (h : FhSo w v ws) (l : Below w.heap.size w w') : FhSo w' v ws := by
  obtain ⟨ys, hp, o⟩ := h
  exact ⟨ys, hp, ownsRow_lo o l⟩
def FhMo (w : World) (m : MobV) (ws : List Int) (u : Value) (ok : Bool) : Prop := ∃ ys : List Int, ys.Perm ws ∧ MoreF m [] ys u ok w
set_option maxRecDepth 100000 in
set_option maxHeartbeats 6400000 in
theorem specFh_yes (v vx : Value) (m : MobV) (ws : List Int) (w : World) (hv : MobRow w v m) (hb : BndM m) (hx : IntRow w vx ws) (hf : MobF m) (ha : areB ws ((m.am.length : Int) + 1) = true) :
    Calls Try.prog 59 #[v, vx] w fun e w' => ∃ u, ∃ ok, e = .returned (.tuple #[u, .bool ok]) ∧ (∃ ys : List Int, ys.Perm ws ∧ MoreF m [] ys u ok w') ∧ Below w.heap.size w w' := by
  have h6 := hf.short
  have hwl : ws.length = m.am.length + 1 := by have := ((areB_iff _ _).1 ha).2; omega
  have D := Lib.hid (fun w1 (l : Below w.heap.size w w1) => l5Good_any v m w1 (hv.lo l) hf.small hb)
  rw [(goodB_iff m).2 hf] at D
  have HA := Lib.hid (fun w1 (l : Below w.heap.size w w1) => l5Are_any vx ws ((m.am.length : Int) + 1) w1 (hx.lo l) (by omega))
  rw [ha] at HA
  have hwt := wts_are ha
  have MO := Lib.hid (fun ys (hp : ys.Perm ws) vb vl w1 (l : Below w.heap.size w w1) (hvb : RowS w1 vb []) (hvl : OwnI w1 0 vl ys) => l5More_any hf v (m.am.length + 1) [] ys vb vl w1 (by rw [hp.length_eq, hwl]) (by simp) (fun x hm => by cases hm) (fun x hm => hwt x (hp.subset hm)) (hv.lo l) hvb hvl)
  obtain ⟨aw, cw, rfl, hxx⟩ := hx
  rcases hxx with h | ⟨gx, ox, rfl, hgx, hcx⟩
  · rw [h] at hwl; simp at hwl
  have SO := Lib.hid (fun w1 (l : Below w.heap.size w w1) => l5Sorted_any (.slice (some ⟨gx, ox, none⟩) ws.length cw) ws w1 ⟨gx, ox, cw, rfl, Nat.lt_of_lt_of_le hgx l.size, fun j hj => (l.cell (p := ⟨gx, ox + j, none⟩) hgx).trans (hcx j hj)⟩ (by omega))
  obtain ⟨ma, ml, mca, mcb, rfl⟩ := hv.form
  obtain ⟨W, hW⟩ : ∃ W, w.alloc (.cells #[.slice ma m.am.length mca, .slice ml m.hu.length mcb] 62) = W := ⟨_, rfl⟩
  have LW := Lib.hid (show Below w.heap.size w W by rw [← hW]; exact (Below.refl _ _).alloc (Nat.le_refl _) _)
  have BX := Lib.hid (show Box2 W w.heap.size (.slice ma m.am.length mca) (.slice ml m.hu.length mcb) by rw [← hW]; exact box2_new _ _ _ _)
  have D1 := Lib.hid (D.out W LW.out)
  have hwa : IntKind.i64.wrap ((m.am.length : Int) + 1) = (m.am.length : Int) + 1 := wrap_mid _ (by omega) (by omega)
  have HH := Lib.hid hf
  clear hv hb D ha hwt hcx hf
  simp only [hwl] at HA SO ⊢
  generalize m.am.length = n1 at *
  generalize m.hu.length = n2 at *
  obtain ⟨_, u0, u1⟩ := BX.out
  go_enter Try.func59, Try.ntmps59
  go_wp2_with fail
  clear hW u0 u1
  refine D1.out.mono ?_
  rintro e w1 ⟨rfl, l1⟩
  have L1 := Lib.hid (lo_on LW.out l1)
  have HA1 := Lib.hid (HA.out w1 L1.out)
  obtain ⟨hbw, u0, u1⟩ := BX.out.lo l1
  have BX1 := Lib.hid (BX.out.lo l1)
  clear D1 l1 HA
  go_wp2_with fail
  refine HA1.out.mono ?_
  rintro e w2 ⟨rfl, rfl⟩
  clear HA1 hwl
  go_wp2_with fail
  refine wp_region_inv (by kernel_rfl) (by kernel_rfl) (fun D a X => ∃ (t19 t20 t21 t22 t23 t24 t25 t4 t5 : Value), a = (⟨#[(.agg #[.slice ma n1 mca, .slice ml n2 mcb]), .slice (some ⟨gx, ox, none⟩) (n1 + 1) cw, .pointer (some ⟨w.heap.size, 0, none⟩), undef, t4, t5, (.agg #[.slice ma n1 mca, .slice ml n2 mcb]), .bool true, .bool false, .bool false, .slice (some ⟨gx, ox, none⟩) (n1 + 1) cw, .pointer (some ⟨w.heap.size, 0, none⟩), .slice ma n1 mca, .int .i64 (n1 : Int), .int .i64 ((n1 : Int) + 1), .bool true, .bool false, .bool false, undef, t19, t20, t21, t22, t23, t24, t25], []⟩ : Act) ∧ (D 8 → ∃ u ok, t4 = u ∧ t5 = .bool ok ∧ Hid (FhMo X m ws u ok ∧ Below w1.heap.size w1 X)) ∧ (¬ D 8 → Hid (Below w1.heap.size w1 X) ∧ (D 0 → (t19 = (.agg #[.slice ma n1 mca, .slice ml n2 mcb]))) ∧ (D 1 → (n1 = n1 ∧ RowS X t20 [])) ∧ (D 2 → (t21 = .slice (some ⟨gx, ox, none⟩) (n1 + 1) cw)) ∧ (D 3 → (n1 = n1 ∧ FhSo X t22 ws)) ∧ (D 4 → (∃ u ok, t23 = .tuple #[u, .bool ok] ∧ FhMo X m ws u ok)) ∧ (D 5 → (∃ u ok, t23 = .tuple #[u, .bool ok] ∧ t24 = u)) ∧ (D 6 → (∃ u ok, t23 = .tuple #[u, .bool ok] ∧ t25 = .bool ok)) ∧ (D 7 → (t4 = t24)))) ?_ ?_ ?_
  · exact ⟨_, _, _, _, _, _, _, _, _, rfl, fun h => h.elim, fun _ => ⟨Lib.hid (drew_below w1), fun h => h.elim, fun h => h.elim, fun h => h.elim, fun h => h.elim, fun h => h.elim, fun h => h.elim, fun h => h.elim, fun h => h.elim⟩⟩
  · refine (show ∀ i, i < 9 → StepAt _ _ _ _ _ i from ?_)
    refine lt_more (n := 8) ?_ (lt_more (n := 7) ?_ (lt_more (n := 6) ?_ (lt_more (n := 5) ?_ (lt_more (n := 4) ?_ (lt_more (n := 3) ?_ (lt_more (n := 2) ?_ (lt_more (n := 1) ?_ (lt_more (n := 0) ?_ lt_none))))))))
    · refine step_of _ [6, 7, 0, 1, 2, 3, 4, 5, 6, 7] [] rfl (by kernel_rfl) (by kernel_rfl) ?_
      rintro D a X hn hd hc ⟨t19, t20, t21, t22, t23, t24, t25, t4, t5, rfl, _, hrest⟩ K' hK
      have nl := hn
      obtain ⟨LX, c0, c1, c2, c3, c4, c5, c6, c7⟩ := hrest nl
      clear hrest
      have d0 := hd 0 (by simp)
      have d1 := hd 1 (by simp)
      have d2 := hd 2 (by simp)
      have d3 := hd 3 (by simp)
      have d4 := hd 4 (by simp)
      have d5 := hd 5 (by simp)
      have d6 := hd 6 (by simp)
      have d7 := hd 7 (by simp)
      clear hd hc
      obtain ⟨u, ok, rfl, hm⟩ := c4 d4
      obtain ⟨u1, ok1, q1, rfl⟩ := c5 d5
      obtain ⟨u2, ok2, q2, rfl⟩ := c6 d6
      cases q1
      cases q2
      obtain rfl := c7 d7
      go_simp
      refine hK _ _ ⟨_, _, _, _, _, _, _, _, _, by first | rfl | simp [Act.put], fun _ => ?_, fun m => absurd (.inl rfl) m⟩
      exact ⟨_, _, rfl, rfl, Lib.hid ⟨hm, LX.out⟩⟩
    · refine step_of _ [5, 4, 0, 1, 2, 3, 4, 5, 6] [(8, 7)] rfl (by kernel_rfl) (by kernel_rfl) ?_
      rintro D a X hn hd hc ⟨t19, t20, t21, t22, t23, t24, t25, t4, t5, rfl, _, hrest⟩ K' hK
      have nl : ¬ D 8 := fun h => hn (hc (8, 7) (by simp) h)
      obtain ⟨LX, c0, c1, c2, c3, c4, c5, c6, c7⟩ := hrest nl
      clear hrest
      have d0 := hd 0 (by simp)
      have d1 := hd 1 (by simp)
      have d2 := hd 2 (by simp)
      have d3 := hd 3 (by simp)
      have d4 := hd 4 (by simp)
      have d5 := hd 5 (by simp)
      have d6 := hd 6 (by simp)
      clear hd hc
      go_simp
      refine hK _ _ ⟨_, _, _, _, _, _, _, _, _, by first | rfl | simp [Act.put], fun h => (nl (h.resolve_left (by decide))).elim, fun _ => ⟨LX, ?c0, ?c1, ?c2, ?c3, ?c4, ?c5, ?c6, ?c7⟩⟩
      case c0 => exact fun h0 => c0 (h0.resolve_left (by decide))
      case c1 => exact fun h1 => c1 (h1.resolve_left (by decide))
      case c2 => exact fun h2 => c2 (h2.resolve_left (by decide))
      case c3 => exact fun h3 => c3 (h3.resolve_left (by decide))
      case c4 => exact fun h4 => c4 (h4.resolve_left (by decide))
      case c5 => exact fun h5 => c5 (h5.resolve_left (by decide))
      case c6 => exact fun h6 => c6 (h6.resolve_left (by decide))
      case c7 => exact fun h7 => rfl
    · refine step_of _ [4] [(8, 6)] rfl (by kernel_rfl) (by kernel_rfl) ?_
      rintro D a X hn hd hc ⟨t19, t20, t21, t22, t23, t24, t25, t4, t5, rfl, _, hrest⟩ K' hK
      have nl : ¬ D 8 := fun h => hn (hc (8, 6) (by simp) h)
      obtain ⟨LX, c0, c1, c2, c3, c4, c5, c6, c7⟩ := hrest nl
      clear hrest
      have d4 := hd 4 (by simp)
      clear hd hc
      obtain ⟨u, ok, rfl, hm⟩ := c4 d4
      go_simp
      refine hK _ _ ⟨_, _, _, _, _, _, _, _, _, by first | rfl | simp [Act.put], fun h => (nl (h.resolve_left (by decide))).elim, fun _ => ⟨LX, ?c0, ?c1, ?c2, ?c3, ?c4, ?c5, ?c6, ?c7⟩⟩
      case c0 => exact fun h0 => c0 (h0.resolve_left (by decide))
      case c1 => exact fun h1 => c1 (h1.resolve_left (by decide))
      case c2 => exact fun h2 => c2 (h2.resolve_left (by decide))
      case c3 => exact fun h3 => c3 (h3.resolve_left (by decide))
      case c4 => exact fun h4 => ⟨u, ok, rfl, hm⟩
      case c5 => exact fun h5 => c5 (h5.resolve_left (by decide))
      case c6 => exact fun h6 => ⟨u, ok, rfl, rfl⟩
      case c7 => exact fun h7 => c7 (h7.resolve_left (by decide))
    · refine step_of _ [4] [(8, 5), (7, 5)] rfl (by kernel_rfl) (by kernel_rfl) ?_
      rintro D a X hn hd hc ⟨t19, t20, t21, t22, t23, t24, t25, t4, t5, rfl, _, hrest⟩ K' hK
      have nl : ¬ D 8 := fun h => hn (hc (8, 5) (by simp) h)
      obtain ⟨LX, c0, c1, c2, c3, c4, c5, c6, c7⟩ := hrest nl
      clear hrest
      have d4 := hd 4 (by simp)
      have e7_5 := hc (7, 5) (by simp)
      clear hd hc
      obtain ⟨u, ok, rfl, hm⟩ := c4 d4
      go_simp
      refine hK _ _ ⟨_, _, _, _, _, _, _, _, _, by first | rfl | simp [Act.put], fun h => (nl (h.resolve_left (by decide))).elim, fun _ => ⟨LX, ?c0, ?c1, ?c2, ?c3, ?c4, ?c5, ?c6, ?c7⟩⟩
      case c0 => exact fun h0 => c0 (h0.resolve_left (by decide))
      case c1 => exact fun h1 => c1 (h1.resolve_left (by decide))
      case c2 => exact fun h2 => c2 (h2.resolve_left (by decide))
      case c3 => exact fun h3 => c3 (h3.resolve_left (by decide))
      case c4 => exact fun h4 => ⟨u, ok, rfl, hm⟩
      case c5 => exact fun h5 => ⟨u, ok, rfl, rfl⟩
      case c6 => exact fun h6 => c6 (h6.resolve_left (by decide))
      case c7 => exact fun h7 => (hn (e7_5 (h7.resolve_left (by decide)))).elim
    · refine step_of _ [0, 1, 3, 3] [(8, 4), (5, 4), (6, 4)] rfl (by kernel_rfl) (by kernel_rfl) ?_
      rintro D a X hn hd hc ⟨t19, t20, t21, t22, t23, t24, t25, t4, t5, rfl, _, hrest⟩ K' hK
      have nl : ¬ D 8 := fun h => hn (hc (8, 4) (by simp) h)
      obtain ⟨LX, c0, c1, c2, c3, c4, c5, c6, c7⟩ := hrest nl
      clear hrest
      have d0 := hd 0 (by simp)
      have d1 := hd 1 (by simp)
      have d3 := hd 3 (by simp)
      have e5_4 := hc (5, 4) (by simp)
      have e6_4 := hc (6, 4) (by simp)
      clear hd hc
      obtain rfl := c0 d0
      obtain ⟨ys, hp, OY⟩ := (c3 d3).2
      have C := MO.out ys hp t20 t22 X (lo_on L1.out LX.out) (c1 d1).2 OY
      go_simp
      refine C.mono ?_
      rintro e X5 ⟨u, ok, rfl, HM, l⟩
      go_simp
      refine hK _ _ ⟨_, _, _, _, _, _, _, _, _, by first | rfl | simp [Act.put], fun h => (nl (h.resolve_left (by decide))).elim, fun _ => ⟨Lib.hid (lo_on LX.out l), ?c0, ?c1, ?c2, ?c3, ?c4, ?c5, ?c6, ?c7⟩⟩
      case c0 => exact fun h0 => c0 (h0.resolve_left (by decide))
      case c1 => exact fun h1 => ⟨(c1 (h1.resolve_left (by decide))).1, (c1 (h1.resolve_left (by decide))).2.lo l⟩
      case c2 => exact fun h2 => c2 (h2.resolve_left (by decide))
      case c3 => exact fun h3 => ⟨(c3 (h3.resolve_left (by decide))).1, (c3 (h3.resolve_left (by decide))).2.lo l⟩
      case c4 => exact fun h4 => ⟨u, ok, rfl, ys, hp, HM⟩
      case c5 => exact fun h5 => (hn (e5_4 (h5.resolve_left (by decide)))).elim
      case c6 => exact fun h6 => (hn (e6_4 (h6.resolve_left (by decide)))).elim
      case c7 => exact fun h7 => c7 (h7.resolve_left (by decide))
    · refine step_of _ [2] [(8, 3), (4, 3)] rfl (by kernel_rfl) (by kernel_rfl) ?_
      rintro D a X hn hd hc ⟨t19, t20, t21, t22, t23, t24, t25, t4, t5, rfl, _, hrest⟩ K' hK
      have nl : ¬ D 8 := fun h => hn (hc (8, 3) (by simp) h)
      obtain ⟨LX, c0, c1, c2, c3, c4, c5, c6, c7⟩ := hrest nl
      clear hrest
      have d2 := hd 2 (by simp)
      have e4_3 := hc (4, 3) (by simp)
      clear hd hc
      obtain rfl := c2 d2
      have C := SO.out X (lo_on L1.out LX.out)
      go_simp
      refine C.mono ?_
      rintro e X5 ⟨v5, rfl, ys, oy, ry, hp, l⟩
      go_simp
      refine hK _ _ ⟨_, _, _, _, _, _, _, _, _, by first | rfl | simp [Act.put], fun h => (nl (h.resolve_left (by decide))).elim, fun _ => ⟨Lib.hid (lo_on LX.out l), ?c0, ?c1, ?c2, ?c3, ?c4, ?c5, ?c6, ?c7⟩⟩
      case c0 => exact fun h0 => c0 (h0.resolve_left (by decide))
      case c1 => exact fun h1 => ⟨(c1 (h1.resolve_left (by decide))).1, (c1 (h1.resolve_left (by decide))).2.lo l⟩
      case c2 => exact fun h2 => c2 (h2.resolve_left (by decide))
      case c3 => exact fun h3 => ⟨rfl, ys, hp, ⟨oy.1, oy.2.imp id (fun ⟨g', cap, cur, a1, a2, a3⟩ => ⟨g', cap, cur, a1, Nat.zero_le _, a3⟩)⟩⟩
      case c4 => exact fun h4 => (hn (e4_3 (h4.resolve_left (by decide)))).elim
      case c5 => exact fun h5 => c5 (h5.resolve_left (by decide))
      case c6 => exact fun h6 => c6 (h6.resolve_left (by decide))
      case c7 => exact fun h7 => c7 (h7.resolve_left (by decide))
    · refine step_of _ [] [(8, 2)] rfl (by kernel_rfl) (by kernel_rfl) ?_
      rintro D a X hn hd hc ⟨t19, t20, t21, t22, t23, t24, t25, t4, t5, rfl, _, hrest⟩ K' hK
      have nl : ¬ D 8 := fun h => hn (hc (8, 2) (by simp) h)
      obtain ⟨LX, c0, c1, c2, c3, c4, c5, c6, c7⟩ := hrest nl
      clear hrest
      clear hd hc
      go_simp
      refine hK _ _ ⟨_, _, _, _, _, _, _, _, _, by first | rfl | simp [Act.put], fun h => (nl (h.resolve_left (by decide))).elim, fun _ => ⟨LX, ?c0, ?c1, ?c2, ?c3, ?c4, ?c5, ?c6, ?c7⟩⟩
      case c0 => exact fun h0 => c0 (h0.resolve_left (by decide))
      case c1 => exact fun h1 => c1 (h1.resolve_left (by decide))
      case c2 => exact fun h2 => rfl
      case c3 => exact fun h3 => c3 (h3.resolve_left (by decide))
      case c4 => exact fun h4 => c4 (h4.resolve_left (by decide))
      case c5 => exact fun h5 => c5 (h5.resolve_left (by decide))
      case c6 => exact fun h6 => c6 (h6.resolve_left (by decide))
      case c7 => exact fun h7 => c7 (h7.resolve_left (by decide))
    · refine step_of _ [] [(8, 1), (4, 1)] rfl (by kernel_rfl) (by kernel_rfl) ?_
      rintro D a X hn hd hc ⟨t19, t20, t21, t22, t23, t24, t25, t4, t5, rfl, _, hrest⟩ K' hK
      have nl : ¬ D 8 := fun h => hn (hc (8, 1) (by simp) h)
      obtain ⟨LX, c0, c1, c2, c3, c4, c5, c6, c7⟩ := hrest nl
      clear hrest
      have e4_1 := hc (4, 1) (by simp)
      clear hd hc
      have l : Below X.heap.size X (X.alloc (.cells #[] 3)) := (Below.refl _ _).alloc (Nat.le_refl _) _
      go_simp
      refine hK _ _ ⟨_, _, _, _, _, _, _, _, _, by first | rfl | simp [Act.put], fun h => (nl (h.resolve_left (by decide))).elim, fun _ => ⟨Lib.hid (lo_on LX.out l), ?c0, ?c1, ?c2, ?c3, ?c4, ?c5, ?c6, ?c7⟩⟩
      case c0 => exact fun h0 => c0 (h0.resolve_left (by decide))
      case c1 => exact fun h1 => ⟨rfl, rowS_new X⟩
      case c2 => exact fun h2 => c2 (h2.resolve_left (by decide))
      case c3 => exact fun h3 => ⟨(c3 (h3.resolve_left (by decide))).1, (c3 (h3.resolve_left (by decide))).2.lo l⟩
      case c4 => exact fun h4 => (hn (e4_1 (h4.resolve_left (by decide)))).elim
      case c5 => exact fun h5 => c5 (h5.resolve_left (by decide))
      case c6 => exact fun h6 => c6 (h6.resolve_left (by decide))
      case c7 => exact fun h7 => c7 (h7.resolve_left (by decide))
    · refine step_of _ [] [(8, 0)] rfl (by kernel_rfl) (by kernel_rfl) ?_
      rintro D a X hn hd hc ⟨t19, t20, t21, t22, t23, t24, t25, t4, t5, rfl, _, hrest⟩ K' hK
      have nl : ¬ D 8 := fun h => hn (hc (8, 0) (by simp) h)
      obtain ⟨LX, c0, c1, c2, c3, c4, c5, c6, c7⟩ := hrest nl
      clear hrest
      clear hd hc
      obtain ⟨_, x0, x1⟩ := BX1.out.lo LX.out
      go_simp
      refine hK _ _ ⟨_, _, _, _, _, _, _, _, _, by first | rfl | simp [Act.put], fun h => (nl (h.resolve_left (by decide))).elim, fun _ => ⟨LX, ?c0, ?c1, ?c2, ?c3, ?c4, ?c5, ?c6, ?c7⟩⟩
      case c0 => exact fun h0 => rfl
      case c1 => exact fun h1 => c1 (h1.resolve_left (by decide))
      case c2 => exact fun h2 => c2 (h2.resolve_left (by decide))
      case c3 => exact fun h3 => c3 (h3.resolve_left (by decide))
      case c4 => exact fun h4 => c4 (h4.resolve_left (by decide))
      case c5 => exact fun h5 => c5 (h5.resolve_left (by decide))
      case c6 => exact fun h6 => c6 (h6.resolve_left (by decide))
      case c7 => exact fun h7 => c7 (h7.resolve_left (by decide))
  · rintro D a X hall ⟨t19, t20, t21, t22, t23, t24, t25, t4, t5, rfl, hfin, _⟩
    have HFIN := Lib.hid (hfin (hall 8 (by decide)))
    clear hfin hall
    obtain ⟨u, ok, rfl, rfl, HM⟩ := HFIN.out
    clear HFIN
    go_wp2
    go_ret2
    cases ok
    · exact ⟨t4, .inl ⟨rfl, HM.out.1, lo_on L1.out HM.out.2⟩⟩
    · exact ⟨t4, .inr ⟨rfl, HM.out.1, lo_on L1.out HM.out.2⟩⟩
end Go.Proofs.Ythncgcdnljoakaa
namespace Go.Proofs.Ythncgcdnljoakaa
open Go.RowKit
set_option maxHeartbeats 1600000 in
theorem specFh_no (v vx : Value) (m : MobV) (ws : List Int) (w : World) (hv : MobRow w v m) (hs : SmallM m) (hb : BndM m) (hx : IntRow w vx ws) (hn : ws.length ≤ 2000000) (h : hangB m ws = false) :
    Calls Try.prog 59 #[v, vx] w fun e w' => ∃ u, e = .returned (.tuple #[u, .bool false]) ∧ IntRow w' u [] ∧ Below w.heap.size w w' := by
  have D := Lib.hid (fun w1 (l : Below w.heap.size w w1) => l5Good_any v m w1 (hv.lo l) hs hb)
  have HA := Lib.hid (fun w1 (l : Below w.heap.size w w1) => l5Are_any vx ws ((m.am.length : Int) + 1) w1 (hx.lo l) hn)
  have hwa : IntKind.i64.wrap ((m.am.length : Int) + 1) = (m.am.length : Int) + 1 := by
    obtain ⟨h1, _⟩ := hs
    exact wrap_mid _ (by omega) (by omega)
  unfold hangB at h
  generalize goodB m = b1 at *
  generalize areB ws ((m.am.length : Int) + 1) = b2 at *
  obtain ⟨ma, ml, mca, mcb, rfl⟩ := hv.form
  obtain ⟨W, hW⟩ : ∃ W, w.alloc (.cells #[.slice ma m.am.length mca, .slice ml m.hu.length mcb] 62) = W := ⟨_, rfl⟩
  have LW := Lib.hid (show Below w.heap.size w W by rw [← hW]; exact (Below.refl _ _).alloc (Nat.le_refl _) _)
  have BX := Lib.hid (show Box2 W w.heap.size (.slice ma m.am.length mca) (.slice ml m.hu.length mcb) by rw [← hW]; exact box2_new _ _ _ _)
  have D1 := Lib.hid (D.out W LW.out)
  clear hv hb D hx hs
  generalize m.am.length = n1 at *
  generalize m.hu.length = n2 at *
  obtain ⟨_, u0, u1⟩ := BX.out
  cases b1 with
  | false =>
    go_enter Try.func59, Try.ntmps59
    go_wp2_with fail
    clear hW u0 u1
    refine D1.out.mono ?_
    rintro e w1 ⟨rfl, l1⟩
    have L1 := Lib.hid (lo_on LW.out l1)
    clear D1 l1 HA
    have LE := Lib.hid (lo_on L1.out ((Below.refl w1.heap.size w1).alloc (Nat.le_refl _) (.cells #[] 3)))
    have RE := Lib.hid (show IntRow (w1.alloc (.cells #[] 3)) (.slice (some ⟨w1.heap.size, 0, none⟩) 0 0) [] from ⟨_, _, rfl, .inl rfl⟩)
    go_wp2
    go_ret2
    exact ⟨_, rfl, RE.out, LE.out⟩
  | true =>
    obtain rfl : b2 = false := h
    go_enter Try.func59, Try.ntmps59
    go_wp2_with fail
    clear hW u0 u1
    refine D1.out.mono ?_
    rintro e w1 ⟨rfl, l1⟩
    have L1 := Lib.hid (lo_on LW.out l1)
    have HA1 := Lib.hid (HA.out w1 L1.out)
    obtain ⟨hbw, u0, u1⟩ := BX.out.lo l1
    clear D1 l1 HA
    go_wp2_with fail
    refine HA1.out.mono ?_
    rintro e w2 ⟨rfl, rfl⟩
    clear HA1 u0 u1
    have LE := Lib.hid (lo_on L1.out ((Below.refl w1.heap.size w1).alloc (Nat.le_refl _) (.cells #[] 3)))
    have RE := Lib.hid (show IntRow (w1.alloc (.cells #[] 3)) (.slice (some ⟨w1.heap.size, 0, none⟩) 0 0) [] from ⟨_, _, rfl, .inl rfl⟩)
    go_wp2
    go_ret2
    exact ⟨_, rfl, RE.out, LE.out⟩
theorem fhYs_len (m : MobV) (ws : List Int) : (fhYs m ws).length ≤ 2000000 := by
  unfold fhYs
  split
  · rename_i h
    unfold fhB hangB at h
    simp only [Bool.and_eq_true] at h
    obtain ⟨⟨h1, h2⟩, h3⟩ := h
    have hf := (goodB_iff m).1 h1
    have hp := (fh_iff hf h2).1 ((propB_iff _).1 h3)
    have h6 := hf.short
    have := ((areB_iff _ _).1 h2).2
    rw [hp.length_eq]
    omega
  · simp
theorem specFh_any (v vx : Value) (m : MobV) (ws : List Int) (w : World) (hv : MobRow w v m) (hs : SmallM m) (hb : BndM m) (hx : IntRow w vx ws) (hn : ws.length ≤ 2000000) :
    Calls Try.prog 59 #[v, vx] w fun e w' => ∃ u, e = .returned (.tuple #[u, .bool (fhB m ws)]) ∧ IntRow w' u (fhYs m ws) ∧ Below w.heap.size w w' := by
  cases hh : hangB m ws with
  | false =>
    have e : fhB m ws = false := by unfold fhB; rw [hh]; rfl
    unfold fhYs
    rw [e, if_neg (by simp)]
    exact specFh_no v vx m ws w hv hs hb hx hn hh
  | true =>
    have hh' := hh
    unfold hangB at hh'
    simp only [Bool.and_eq_true] at hh'
    have hf := (goodB_iff m).1 hh'.1
    have ha := hh'.2
    refine (specFh_yes v vx m ws w hv hb hx hf ha).mono ?_
    rintro e w' ⟨u, ok, rfl, ⟨ys, hp, all, hr, h1, h2⟩, l⟩
    have e : fhB m ws = propB (fhP m ws) := by unfold fhB; rw [hh, Bool.true_and]
    cases ok with
    | true =>
      obtain ⟨p, hpp, hall, hl⟩ := h1 rfl
      rw [List.nil_append] at hall
      rw [hall] at hl hr
      have hpw := hpp.trans hp
      have ho := fh_only hf ha hpw hl
      have et : fhB m ws = true := by rw [e]; exact propB_yes ⟨p, hpw, hl⟩
      unfold fhYs
      rw [et, if_pos rfl, ← ho.2.1]
      exact ⟨u, rfl, hr, l⟩
    | false =>
      obtain ⟨hno, hall⟩ := h2 rfl
      have et : fhB m ws = false := by
        rw [e]
        refine propB_no (fun ⟨p, hpw, hl⟩ => ?_)
        have := hno p (hpw.trans hp.symm)
        rw [List.nil_append, hl] at this
        cases this
      have hlen : 0 < ys.length := by
        rw [hp.length_eq]
        have := ((areB_iff _ _).1 ha).2
        omega
      obtain rfl := hall hlen
      unfold fhYs
      rw [et, if_neg (by simp)]
      exact ⟨u, rfl, hr, l⟩
end Go.Proofs.Ythncgcdnljoakaa
