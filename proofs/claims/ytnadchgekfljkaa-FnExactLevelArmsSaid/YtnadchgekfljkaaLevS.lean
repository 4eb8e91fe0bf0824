/- The model's LevelArms. -/
import Derived.Test.YtnadchgekfljkaaHangS
namespace Go.Proofs.Ytnadchgekfljkaa
section
open Go.RowKit
theorem wsM_pos {m : MobV} (hf : MobF m) : ∀ k, k ≤ m.am.length → ∀ j, m.am.length - k ≤ j → j < m.am.length → 1 ≤ wsM m k j := by
  intro k
  induction k with
  | zero => intro _ j h1 h2; omega
  | succ k ih =>
    intro hk j h1 h2
    have ih := ih (by omega)
    simp only [wsM]
    split
    · rename_i hj
      have each : ∀ t, t < 2 * m.am.length → t / 2 = m.am.length - 1 - k → 1 ≤ atM (hvM m t) (wsM m k) := fun t ht h2 => by
        have he := (hf.ends t ht).2
        unfold atM
        by_cases hneg : hvM m t < 0
        · rw [if_pos hneg]
          have : ((t / 2 : Nat) : Int) = ((m.am.length - 1 - k : Nat) : Int) := by rw [h2]
          exact ih _ (by omega) (by omega)
        · rw [if_neg hneg]; omega
      have a1 := each (2 * (m.am.length - 1 - k)) (by omega) (by omega)
      have a2 := each (2 * (m.am.length - 1 - k) + 1) (by omega) (by omega)
      omega
    · exact ih j (by omega) h2
theorem wtM_pos {m : MobV} (hf : MobF m) (j : Nat) (h : j < m.am.length) : 1 ≤ wtM m j := wsM_pos hf _ (Nat.le_refl _) j (by omega) h
def bothA (m : MobV) (i : Nat) : Int := avM m (2 * i) + avM m (2 * i + 1)
def lvM (m : MobV) (i : Nat) : Int := bothA m i * atM (hvM m (2 * i + 1)) (wtM m)
def levE (m : MobV) (t : Nat) : Int := if t % 2 = 0 then lvM m (t / 2) / wtM m (t / 2) else bothA m (t / 2) - lvM m (t / 2) / wtM m (t / 2)
def levL (m : MobV) : List (Int × Int) := (List.range m.am.length).map (fun i => (levE m (2 * i), levE m (2 * i + 1)))
def lev0 (m : MobV) : MobV := ⟨levL m, m.hu⟩
noncomputable def levB (m : MobV) : Bool := goodB m && (propB (∀ i, i < m.am.length → lvM m i % wtM m i = 0) && goodB (lev0 m))
noncomputable def levM (m : MobV) : MobV := if levB m = true then lev0 m else nilM
theorem levL_len (m : MobV) : (levL m).length = m.am.length := by simp [levL]
theorem levL_at (m : MobV) (i : Nat) (h : i < m.am.length) : (levL m).getD i (0, 0) = (levE m (2 * i), levE m (2 * i + 1)) := by simp [levL, List.getD, h]
theorem lvM_bnd {m : MobV} (hf : MobF m) (i : Nat) (h : i < m.am.length) : 0 ≤ lvM m i ∧ lvM m i ≤ 152064 := by
  have hw := fun j => wsM_small hf m.am.length (Nat.le_refl _) j
  have h1 := hf.ends (2 * i) (by omega)
  have h2 := hf.ends (2 * i + 1) (by omega)
  have b := atM_bnd (hvM m (2 * i + 1)) (wtM m) 6336 (by omega) (by have := h2.2; omega) hw
  unfold lvM bothA
  obtain ⟨c, hc⟩ : ∃ c, avM m (2 * i) + avM m (2 * i + 1) = c := ⟨_, rfl⟩
  have c0 : 0 ≤ c := by have := h1.1; have := h2.1; omega
  have c1 : c ≤ 24 := by have := h1.1; have := h2.1; omega
  rw [hc]
  exact ⟨Int.mul_nonneg c0 b.1, Int.le_trans (Int.mul_le_mul c1 b.2 b.1 (by omega)) (by omega)⟩
theorem levQ_bnd {m : MobV} (hf : MobF m) (i : Nat) (h : i < m.am.length) : 0 ≤ lvM m i / wtM m i ∧ lvM m i / wtM m i ≤ 152064 := by
  have b := lvM_bnd hf i h
  have w := wtM_pos hf i h
  exact ⟨Int.ediv_nonneg b.1 (by omega), Int.le_trans (Int.ediv_le_self _ b.1) b.2⟩
theorem both_bnd {m : MobV} (hf : MobF m) (i : Nat) (h : i < m.am.length) : 2 ≤ bothA m i ∧ bothA m i ≤ 24 := by
  have h1 := (hf.ends (2 * i) (by omega)).1
  have h2 := (hf.ends (2 * i + 1) (by omega)).1
  unfold bothA
  omega
theorem lev0_small {m : MobV} (hf : MobF m) : SmallM (lev0 m) := ⟨by rw [lev0, levL_len]; exact hf.small.1, hf.small.2⟩
theorem lev0_bnd {m : MobV} (hf : MobF m) (hb : BndM m) : BndM (lev0 m) := by
  refine ⟨fun j hj => ?_, hb.2⟩
  have hj' : j < m.am.length := by rw [← levL_len m]; exact hj
  show (-9223372036854775808 ≤ ((levL m).getD j (0, 0)).1 ∧ ((levL m).getD j (0, 0)).1 ≤ 9223372036854775807) ∧ -9223372036854775808 ≤ ((levL m).getD j (0, 0)).2 ∧ ((levL m).getD j (0, 0)).2 ≤ 9223372036854775807
  rw [levL_at m j hj']
  have q := levQ_bnd hf j hj'
  have b := both_bnd hf j hj'
  have e1 : levE m (2 * j) = lvM m j / wtM m j := by unfold levE; rw [if_pos (by omega), show 2 * j / 2 = j by omega]
  have e2 : levE m (2 * j + 1) = bothA m j - lvM m j / wtM m j := by unfold levE; rw [if_neg (by omega), show (2 * j + 1) / 2 = j by omega]
  rw [e1, e2]
  simp only
  omega
theorem OwnP.arms {w : World} {B g cap n : Nat} {m : MobV} (h : OwnP w B g cap n m.am) (hn : m.am.length = n) : PlcF w g (2 * n) (avM m) := by
  obtain ⟨_, h2, h3⟩ := h
  refine ⟨h2, fun t ht => ?_, fun j => h3.frozenAt j⟩
  have hc := cellsF_at m.am (t / 2) (by omega)
  rw [h3.cellAt t (by omega)]
  unfold avM
  by_cases e : t % 2 = 0
  · rw [if_pos e, ← hc.1, show t / 2 * 2 = t by omega]
  · rw [if_neg e, ← hc.2, show t / 2 * 2 + 1 = t by omega]
theorem plc_lev {w : World} {g n c : Nat} {m : MobV} (h : PlcF w g (2 * n) (levE m)) (hn : m.am.length = n) : LoadRow w (.slice (some ⟨g, 0, none⟩) n c) (levL m) := by
  refine ⟨_, c, by rw [levL_len, hn], .inr ⟨g, 0, rfl, h.lt, fun j hj => ?_⟩⟩
  rw [levL_len, hn] at hj
  rw [levL_at m j (by omega), Nat.zero_add, h.at_ (j * 2) (by omega), h.at_ (j * 2 + 1) (by omega), Nat.mul_comm j 2]
  exact ⟨rfl, rfl⟩
end
section
open Go.RowKit
/-- A row of numbers of a call's own, by its cells. -/
def WtB (X : World) (B g n : Nat) (f : Nat → Int) : Prop := B ≤ g ∧ PlcF X g n f
theorem WtB.lo {w w' : World} {B g n : Nat} {f : Nat → Int} (h : WtB w B g n f) (l : Below w.heap.size w w') : WtB w' B g n f := ⟨h.1, h.2.lo l⟩
/-- A struct of two cells, just made. -/
def Bx2 (w : World) (B b : Nat) : Prop := B ≤ b ∧ b < w.heap.size ∧ (∃ x y, Box2 w b x y) ∧ ∀ j, w.frozen? ⟨b, j, none⟩ = false
theorem Bx2.lo {w w' : World} {B b : Nat} (h : Bx2 w B b) (l : Below w.heap.size w w') : Bx2 w' B b := by
  obtain ⟨h1, h2, ⟨x, y, h3⟩, h4⟩ := h
  exact ⟨h1, Nat.lt_of_lt_of_le h2 l.size, ⟨x, y, h3.lo l⟩, fun j => by rw [l.frozen (p := ⟨b, j, none⟩) h2]; exact h4 j⟩
theorem bx2_new (w : World) {B : Nat} (x y : Value) (t : TypeId) (hB : B ≤ w.heap.size) : Bx2 (w.alloc (.cells #[x, y] t)) B w.heap.size := ⟨hB, by simp, ⟨x, y, box2_new w x y t⟩, fun _ => World.frozen?_alloc_at _ _ _ _ rfl⟩
theorem WtB.set {w : World} {B g n : Nat} {f : Nat → Int} (h : WtB w B g n f) (b o : Nat) (u : Value) (hne : b ≠ g) : WtB (w.setCell ⟨b, o, none⟩ u) B g n f := ⟨h.1, h.2.set_far b o u (Ne.symm hne)⟩
def TwoP (w : World) (B g1 k1 g2 k2 n : Nat) (m : MobV) : Prop := OwnP w B g1 k1 n m.am ∧ OwnP w B g2 k2 n m.hu ∧ g1 ≠ g2
theorem TwoP.lo {w w' : World} {B g1 k1 g2 k2 n : Nat} {m : MobV} (h : TwoP w B g1 k1 g2 k2 n m) (l : Below w.heap.size w w') : TwoP w' B g1 k1 g2 k2 n m := ⟨h.1.lo l, h.2.1.lo l, h.2.2⟩
theorem TwoP.set {w : World} {B g1 k1 g2 k2 n : Nat} {m : MobV} (h : TwoP w B g1 k1 g2 k2 n m) (b o : Nat) (u : Value) (h1 : b ≠ g1) (h2 : b ≠ g2) : TwoP (w.setCell ⟨b, o, none⟩ u) B g1 k1 g2 k2 n m := ⟨h.1.set b o u (Ne.symm h1), h.2.1.set b o u (Ne.symm h2), h.2.2⟩
theorem lev_no {m : MobV} (h : ¬ ∀ i, i < m.am.length → lvM m i % wtM m i = 0) : levB m = false ∧ levM m = nilM := by
  have e : levB m = false := by unfold levB; rw [propB_no h, Bool.false_and, Bool.and_false]
  exact ⟨e, by unfold levM; rw [e]; rfl⟩
/-- The arms when the first k rods have been levelled. -/
def laM (m : MobV) (k t : Nat) : Int := if t < 2 * k then levE m t else avM m t
theorem la_step (m : MobV) (k j : Nat) : laM m (k + 1) j = if j = k * 2 + 1 then bothA m k - lvM m k / wtM m k else if j = k * 2 then lvM m k / wtM m k else laM m k j := by
  unfold laM
  by_cases h1 : j = k * 2 + 1
  · rw [if_pos h1, if_pos (by omega)]
    unfold levE
    rw [if_neg (by omega), show j / 2 = k by omega]
  · rw [if_neg h1]
    by_cases h2 : j = k * 2
    · rw [if_pos h2, if_pos (by omega)]
      unfold levE
      rw [if_pos (by omega), show j / 2 = k by omega]
    · rw [if_neg h2]
      by_cases h : j < 2 * k
      · rw [if_pos h, if_pos (by omega)]
      · rw [if_neg h, if_neg (by omega)]
def St2 (w : World) (B b : Nat) (x y : Value) : Prop := B ≤ b ∧ Box2 w b x y
theorem St2.lo {w w' : World} {B b : Nat} {x y : Value} (h : St2 w B b x y) (l : Below w.heap.size w w') : St2 w' B b x y := ⟨h.1, h.2.lo l⟩
theorem box2_set (w : World) (b : Nat) {x y : Value} (h : Box2 w b x y) (u v : Value) : Box2 ((w.setCell ⟨b, 0, none⟩ u).setCell ⟨b, 1, none⟩ v) b u v := set2_1 _ _ (set2_0 w b h u) v
set_option maxRecDepth 100000 in
set_option maxHeartbeats 6400000 in
theorem specLevArms_yes (v : Value) (m : MobV) (w : World) (hv : MobRow w v m) (hb : BndM m) (hf : MobF m) :
    Calls Try.prog 42 #[v] w fun e w' => ∃ u, e = .returned (.tuple #[u, .bool (levB m)]) ∧ MobRow w' u (levM m) ∧ Below w.heap.size w w' := by
  have hg : goodB m = true := (goodB_iff m).2 hf
  have h1 := hf.one
  have h6 := hf.short
  have hs := hf.same
  have D := Lib.hid (fun w1 (l : Below w.heap.size w w1) => l5Good_any v m w1 (hv.lo l) hf.small hb)
  rw [hg] at D
  have ON := Lib.hid (fun w1 (l : Below w.heap.size w w1) => l5Own_any v m w1 (hv.lo l) hf)
  have WN := Lib.hid (fun w1 (l : Below w.heap.size w w1) => l5Weights_any v m w1 (hv.lo l) hf)
  obtain ⟨av, bv, rfl, ha, hh⟩ := hv
  obtain ⟨g, off, c, rfl, hgg, hca⟩ := pair_at ha (by omega)
  obtain ⟨g', off', c', rfl, hgg', hch⟩ := pair_at hh (by omega)
  obtain ⟨n, hn⟩ : ∃ n, m.am.length = n := ⟨_, rfl⟩
  have EC := Lib.hid (fun i e (h1 : i < n) (h2 : e < 2) => end_cells hn (hs.trans hn) hca hch i e h1 h2)
  obtain ⟨W, hW⟩ : ∃ W, (w.alloc (.cells #[.slice (some ⟨g, off, none⟩) n c, .slice (some ⟨g', off', none⟩) n c'] 27)).alloc (.cells #[.slice none 0 0, .slice none 0 0] 27) = W := ⟨_, rfl⟩
  have LW := Lib.hid (show Below w.heap.size w W by rw [← hW]; exact ((Below.refl _ _).alloc (Nat.le_refl _) _).alloc (by simp) _)
  have BX := Lib.hid (show Box2 W w.heap.size (.slice (some ⟨g, off, none⟩) n c) (.slice (some ⟨g', off', none⟩) n c') by rw [← hW]; exact (box2_new _ _ _ _).lo ((Below.refl _ _).alloc (Nat.le_refl _) _))
  have BY := Lib.hid (show Box2 W (w.heap.size + 1) (.slice none 0 0) (.slice none 0 0) by rw [← hW]; have := box2_new (w.alloc (.cells #[.slice (some ⟨g, off, none⟩) n c, .slice (some ⟨g', off', none⟩) n c'] 27)) (.slice none 0 0) (.slice none 0 0) 27; simpa using this)
  have FY := Lib.hid (show ∀ j, W.frozen? ⟨w.heap.size + 1, j, none⟩ = false by rw [← hW]; exact fun j => World.frozen?_alloc_at _ _ _ _ (by simp))
  have HSZ := Lib.hid (show W.heap.size = w.heap.size + 2 by rw [← hW]; simp)
  have HF := Lib.hid hf
  have HBD := Lib.hid hb
  have HN := Lib.hid hn
  have HNS := Lib.hid (hs.trans hn)
  rw [hs, hn] at D ON WN
  rw [hs, hn]
  rw [hn] at h1 h6
  have D1 := Lib.hid (D.out W LW.out)
  have by0 : w.heap.size + 1 < W.heap.size := BY.out.1
  have bx0 : w.heap.size < W.heap.size := BX.out.1
  clear ha hh hca hch hs hn hf hg D hb
  obtain ⟨_, u0, u1⟩ := BX.out
  go_enter Try.func42, Try.ntmps42
  go_wp2_with fail
  clear hW u0 u1
  refine D1.out.mono ?_
  rintro eq1 w1 ⟨rfl, l1⟩
  have L1 := Lib.hid l1
  have ON1 := Lib.hid (fun X (l : Below w1.heap.size w1 X) => ON.out X (lo_on LW.out (lo_on L1.out l)))
  have WN1 := Lib.hid (fun X (l : Below w1.heap.size w1 X) => WN.out X (lo_on LW.out (lo_on L1.out l)))
  obtain ⟨_, u0, u1⟩ := BX.out.lo l1
  have hw1 := l1.size
  clear l1 D1 ON WN
  go_wp2_with fail
  clear u0 u1
  refine wp_region_inv (by kernel_rfl) (by kernel_rfl) (fun D a X => ∃ (t13 t14 t15 t16 t4 t5 : Value) (g1 k1 g2 k2 gw b : Nat), a = (⟨#[(.agg #[.slice (some ⟨g, off, none⟩) n c, .slice (some ⟨g', off', none⟩) n c']), .pointer (some ⟨w.heap.size, 0, none⟩), .pointer (some ⟨w.heap.size + 1, 0, none⟩), .bool false, t4, t5, undef, undef, undef, (.agg #[.slice (some ⟨g, off, none⟩) n c, .slice (some ⟨g', off', none⟩) n c']), .bool true, .bool false, undef, t13, t14, t15, t16, undef, undef, undef, undef, undef, undef, undef, undef, undef, undef, undef, undef, undef, undef, undef, undef, undef, undef, undef, undef, undef, undef, undef, undef, undef, undef, undef, undef, undef, undef, undef, undef, undef, undef, undef, undef, undef, undef, undef, undef, undef, undef, undef, undef, undef, undef, undef, undef, undef, undef, undef, undef, undef, undef, undef, undef, undef, undef, undef, undef, undef, undef], []⟩ : Act) ∧ (D 6 → ∃ qb qw q1 j1 q2 j2, t4 = .pointer (some ⟨qb, 0, none⟩) ∧ t5 = .slice (some ⟨qw, 0, none⟩) n n ∧ Hid (St2 X w1.heap.size qb (.slice (some ⟨q1, 0, none⟩) n j1) (.slice (some ⟨q2, 0, none⟩) n j2) ∧ TwoP X w1.heap.size q1 j1 q2 j2 n m ∧ WtB X w1.heap.size qw n (wtM m) ∧ (qb ≠ q1 ∧ qb ≠ q2) ∧ qb ≠ qw ∧ (qw ≠ q1 ∧ qw ≠ q2) ∧ Below w1.heap.size w1 X)) ∧ (¬ D 6 → Hid (Below w1.heap.size w1 X) ∧ (D 0 → (t13 = (.agg #[.slice (some ⟨g, off, none⟩) n c, .slice (some ⟨g', off', none⟩) n c']))) ∧ (D 1 → (t14 = .agg #[(.slice (some ⟨g1, 0, none⟩) n k1), (.slice (some ⟨g2, 0, none⟩) n k2)] ∧ TwoP X w1.heap.size g1 k1 g2 k2 n m)) ∧ (D 2 → (t15 = (.agg #[.slice (some ⟨g, off, none⟩) n c, .slice (some ⟨g', off', none⟩) n c']))) ∧ (D 3 → (t16 = .slice (some ⟨gw, 0, none⟩) n n ∧ WtB X w1.heap.size gw n (wtM m))) ∧ (D 4 → (t4 = .pointer (some ⟨b, 0, none⟩))) ∧ (D 4 → ¬ D 5 → (b = b ∧ Bx2 X w1.heap.size b)) ∧ (D 5 → (b = b ∧ St2 X w1.heap.size b (.slice (some ⟨g1, 0, none⟩) n k1) (.slice (some ⟨g2, 0, none⟩) n k2))) ∧ (D 1 → D 4 → (b ≠ g1 ∧ b ≠ g2)) ∧ (D 3 → D 4 → (b ≠ gw)) ∧ (D 1 → D 3 → (gw ≠ g1 ∧ gw ≠ g2)))) ?_ ?_ ?_
  · exact ⟨_, _, _, _, _, _, 0, 0, 0, 0, 0, 0, rfl, fun h => h.elim, fun _ => ⟨Lib.hid (drew_below w1), fun h => h.elim, fun h => h.elim, fun h => h.elim, fun h => h.elim, fun h => h.elim, fun h => h.elim, fun h => h.elim, fun h => h.elim, fun h => h.elim, fun h => h.elim⟩⟩
  · refine (show ∀ i, i < 7 → StepAt _ _ _ _ _ i from ?_)
    refine lt_more (n := 6) ?_ (lt_more (n := 5) ?_ (lt_more (n := 4) ?_ (lt_more (n := 3) ?_ (lt_more (n := 2) ?_ (lt_more (n := 1) ?_ (lt_more (n := 0) ?_ lt_none))))))
    · refine step_of _ [3, 5, 0, 1, 2, 3, 4, 5] [(5, 4)] rfl (by kernel_rfl) (by kernel_rfl) ?_
      rintro D a X hn hd hc ⟨t13, t14, t15, t16, t4, t5, g1, k1, g2, k2, gw, b, rfl, _, hrest⟩ K' hK
      have nl := hn
      obtain ⟨LX, c0, c1, c2, c3, c4e, c4, c5, s14, s34, s13⟩ := hrest nl
      clear hrest
      have d0 := hd 0 (by simp)
      have d1 := hd 1 (by simp)
      have d2 := hd 2 (by simp)
      have d3 := hd 3 (by simp)
      have d4 := hd 4 (by simp)
      have d5 := hd 5 (by simp)
      have e5_4 := hc (5, 4) (by simp)
      clear hd hc
      obtain ⟨rfl, r3⟩ := c3 d3
      have d4 := e5_4 d5
      have r1 := (c1 d1).2
      go_simp
      refine hK _ _ ⟨_, _, _, _, _, _, g1, k1, g2, k2, gw, b, by first | rfl | simp [Act.put], fun _ => ?_, fun m => absurd (.inl rfl) m⟩
      exact ⟨b, gw, g1, k1, g2, k2, c4e d4, rfl, Lib.hid ⟨(c5 d5).2, r1, r3, s14 d1 d4, s34 d3 d4, s13 d1 d3, LX.out⟩⟩
    · refine step_of _ [4, 1, 3, 0, 1, 4] [(6, 5)] rfl (by kernel_rfl) (by kernel_rfl) ?_
      rintro D a X hn hd hc ⟨t13, t14, t15, t16, t4, t5, g1, k1, g2, k2, gw, b, rfl, _, hrest⟩ K' hK
      have nl : ¬ D 6 := fun h => hn (hc (6, 5) (by simp) h)
      obtain ⟨LX, c0, c1, c2, c3, c4e, c4, c5, s14, s34, s13⟩ := hrest nl
      clear hrest
      have d0 := hd 0 (by simp)
      have d1 := hd 1 (by simp)
      have d3 := hd 3 (by simp)
      have d4 := hd 4 (by simp)
      clear hd hc
      obtain ⟨rfl, r1⟩ := c1 d1
      obtain rfl := c4e d4
      obtain ⟨_, hB, _, ⟨x, y, hbx, x0, x1⟩, fz⟩ := c4 d4 hn
      have f0 := fz 0
      have f1 := fz 1
      have n14 := s14 d1 d4
      have n34 := s34 d3 d4
      go_simp
      refine hK _ _ ⟨_, _, _, _, _, _, g1, k1, g2, k2, gw, b, by first | rfl | simp [Act.put], fun h => (nl (h.resolve_left (by decide))).elim, fun _ => ⟨Lib.hid ((LX.out.setCell (p := ⟨b, 0, none⟩) hB _).setCell (p := ⟨b, 1, none⟩) hB _), ?c0, ?c1, ?c2, ?c3, ?c4e, ?c4, ?c5, ?s14, ?s34, ?s13⟩⟩
      case c0 => exact fun h0 => c0 (h0.resolve_left (by decide))
      case c1 => exact fun h1 => ⟨rfl, (r1.set b 0 _ n14.1 n14.2).set b 1 _ n14.1 n14.2⟩
      case c2 => exact fun h2 => c2 (h2.resolve_left (by decide))
      case c3 => exact fun h3 => ⟨(c3 (h3.resolve_left (by decide))).1, ((c3 (h3.resolve_left (by decide))).2.set b 0 _ n34).set b 1 _ n34⟩
      case c4e => exact fun h4 => c4e (h4.resolve_left (by decide))
      case c4 => exact fun h4 m5 => absurd (.inl rfl) m5
      case c5 => exact fun h5 => ⟨rfl, hB, box2_set X b ⟨hbx, x0, x1⟩ (.slice (some ⟨g1, 0, none⟩) n k1) (.slice (some ⟨g2, 0, none⟩) n k2)⟩
      case s14 => exact fun h1 h4 => s14 (h1.resolve_left (by decide)) (h4.resolve_left (by decide))
      case s34 => exact fun h3 h4 => s34 (h3.resolve_left (by decide)) (h4.resolve_left (by decide))
      case s13 => exact fun h1 h3 => s13 (h1.resolve_left (by decide)) (h3.resolve_left (by decide))
    · refine step_of _ [] [(6, 4), (5, 4)] rfl (by kernel_rfl) (by kernel_rfl) ?_
      rintro D a X hn hd hc ⟨t13, t14, t15, t16, t4, t5, g1, k1, g2, k2, gw, b, rfl, _, hrest⟩ K' hK
      have nl : ¬ D 6 := fun h => hn (hc (6, 4) (by simp) h)
      obtain ⟨LX, c0, c1, c2, c3, c4e, c4, c5, s14, s34, s13⟩ := hrest nl
      clear hrest
      have e5_4 := hc (5, 4) (by simp)
      clear hd hc
      have l := al X (.cells #[.slice none 0 0, .slice none 0 0] 27)
      have hsX := LX.out.size
      go_simp
      refine hK _ _ ⟨_, _, _, _, _, _, g1, k1, g2, k2, gw, X.heap.size, by first | rfl | simp [Act.put], fun h => (nl (h.resolve_left (by decide))).elim, fun _ => ⟨Lib.hid (lo_on LX.out l), ?c0, ?c1, ?c2, ?c3, ?c4e, ?c4, ?c5, ?s14, ?s34, ?s13⟩⟩
      case c0 => exact fun h0 => c0 (h0.resolve_left (by decide))
      case c1 => exact fun h1 => ⟨(c1 (h1.resolve_left (by decide))).1, (c1 (h1.resolve_left (by decide))).2.lo l⟩
      case c2 => exact fun h2 => c2 (h2.resolve_left (by decide))
      case c3 => exact fun h3 => ⟨(c3 (h3.resolve_left (by decide))).1, (c3 (h3.resolve_left (by decide))).2.lo l⟩
      case c4e => exact fun h4 => rfl
      case c4 => exact fun h4 m5 => ⟨rfl, bx2_new X _ _ _ hsX⟩
      case c5 => exact fun h5 => (hn (e5_4 (h5.resolve_left (by decide)))).elim
      case s14 => exact fun h1 h4 => by have z1 := (c1 (h1.resolve_left (by decide))).2.1.2.1; have z2 := (c1 (h1.resolve_left (by decide))).2.2.1.2.1; omega
      case s34 => exact fun h3 h4 => by have z1 := (c3 (h3.resolve_left (by decide))).2.2.lt; omega
      case s13 => exact fun h1 h3 => s13 (h1.resolve_left (by decide)) (h3.resolve_left (by decide))
    · refine step_of _ [2, 1] [(6, 3), (5, 3)] rfl (by kernel_rfl) (by kernel_rfl) ?_
      rintro D a X hn hd hc ⟨t13, t14, t15, t16, t4, t5, g1, k1, g2, k2, gw, b, rfl, _, hrest⟩ K' hK
      have nl : ¬ D 6 := fun h => hn (hc (6, 3) (by simp) h)
      obtain ⟨LX, c0, c1, c2, c3, c4e, c4, c5, s14, s34, s13⟩ := hrest nl
      clear hrest
      have d1 := hd 1 (by simp)
      have d2 := hd 2 (by simp)
      have e5_3 := hc (5, 3) (by simp)
      clear hd hc
      obtain rfl := c2 d2
      have C := WN1.out X LX.out
      have hsX := LX.out.size
      have r1 := (c1 d1).2
      go_simp
      refine C.mono ?_
      rintro e X5 ⟨gw', rfl, hq, hq2, hcc, hff, l⟩
      have hq3 := r1.1.2.1
      have hq4 := r1.2.1.2.1
      go_simp
      refine hK _ _ ⟨_, _, _, _, _, _, g1, k1, g2, k2, gw', b, by first | rfl | simp [Act.put], fun h => (nl (h.resolve_left (by decide))).elim, fun _ => ⟨Lib.hid (lo_on LX.out l), ?c0, ?c1, ?c2, ?c3, ?c4e, ?c4, ?c5, ?s14, ?s34, ?s13⟩⟩
      case c0 => exact fun h0 => c0 (h0.resolve_left (by decide))
      case c1 => exact fun h1 => ⟨(c1 (h1.resolve_left (by decide))).1, (c1 (h1.resolve_left (by decide))).2.lo l⟩
      case c2 => exact fun h2 => c2 (h2.resolve_left (by decide))
      case c3 => exact fun h3 => ⟨rfl, by omega, hq2, hcc, hff⟩
      case c4e => exact fun h4 => c4e (h4.resolve_left (by decide))
      case c4 => exact fun h4 m5 => ⟨(c4 (h4.resolve_left (by decide)) (fun q => m5 (.inr q))).1, (c4 (h4.resolve_left (by decide)) (fun q => m5 (.inr q))).2.lo l⟩
      case c5 => exact fun h5 => (hn (e5_3 (h5.resolve_left (by decide)))).elim
      case s14 => exact fun h1 h4 => s14 (h1.resolve_left (by decide)) (h4.resolve_left (by decide))
      case s34 => exact fun h3 h4 => by have := (c4 (h4.resolve_left (by decide)) (fun q => hn (e5_3 q))).2.2.1; omega
      case s13 => exact fun h1 h3 => by omega
    · refine step_of _ [] [(6, 2)] rfl (by kernel_rfl) (by kernel_rfl) ?_
      rintro D a X hn hd hc ⟨t13, t14, t15, t16, t4, t5, g1, k1, g2, k2, gw, b, rfl, _, hrest⟩ K' hK
      have nl : ¬ D 6 := fun h => hn (hc (6, 2) (by simp) h)
      obtain ⟨LX, c0, c1, c2, c3, c4e, c4, c5, s14, s34, s13⟩ := hrest nl
      clear hrest
      clear hd hc
      obtain ⟨_, x0, x1⟩ := BX.out.lo (lo_on L1.out LX.out)
      go_simp
      refine hK _ _ ⟨_, _, _, _, _, _, g1, k1, g2, k2, gw, b, by first | rfl | simp [Act.put], fun h => (nl (h.resolve_left (by decide))).elim, fun _ => ⟨LX, ?c0, ?c1, ?c2, ?c3, ?c4e, ?c4, ?c5, ?s14, ?s34, ?s13⟩⟩
      case c0 => exact fun h0 => c0 (h0.resolve_left (by decide))
      case c1 => exact fun h1 => c1 (h1.resolve_left (by decide))
      case c2 => exact fun h2 => rfl
      case c3 => exact fun h3 => c3 (h3.resolve_left (by decide))
      case c4e => exact fun h4 => c4e (h4.resolve_left (by decide))
      case c4 => exact fun h4 m5 => c4 (h4.resolve_left (by decide)) (fun q => m5 (.inr q))
      case c5 => exact fun h5 => c5 (h5.resolve_left (by decide))
      case s14 => exact fun h1 h4 => s14 (h1.resolve_left (by decide)) (h4.resolve_left (by decide))
      case s34 => exact fun h3 h4 => s34 (h3.resolve_left (by decide)) (h4.resolve_left (by decide))
      case s13 => exact fun h1 h3 => s13 (h1.resolve_left (by decide)) (h3.resolve_left (by decide))
    · refine step_of _ [0] [(6, 1), (3, 1), (5, 1)] rfl (by kernel_rfl) (by kernel_rfl) ?_
      rintro D a X hn hd hc ⟨t13, t14, t15, t16, t4, t5, g1, k1, g2, k2, gw, b, rfl, _, hrest⟩ K' hK
      have nl : ¬ D 6 := fun h => hn (hc (6, 1) (by simp) h)
      obtain ⟨LX, c0, c1, c2, c3, c4e, c4, c5, s14, s34, s13⟩ := hrest nl
      clear hrest
      have d0 := hd 0 (by simp)
      have e3_1 := hc (3, 1) (by simp)
      have e5_1 := hc (5, 1) (by simp)
      clear hd hc
      obtain rfl := c0 d0
      have C := ON1.out X LX.out
      have hsX := LX.out.size
      go_simp
      refine C.mono ?_
      rintro e X5 ⟨v5, rfl, ⟨g1', k1', g2', k2', rfl, r1, r2, r12⟩, l⟩
      rw [HN.out] at r1
      rw [HNS.out] at r2
      rw [HN.out, HNS.out]
      have hq1 := r1.1
      have hq2 := r2.1
      go_simp
      refine hK _ _ ⟨_, _, _, _, _, _, g1', k1', g2', k2', gw, b, by first | rfl | simp [Act.put], fun h => (nl (h.resolve_left (by decide))).elim, fun _ => ⟨Lib.hid (lo_on LX.out l), ?c0, ?c1, ?c2, ?c3, ?c4e, ?c4, ?c5, ?s14, ?s34, ?s13⟩⟩
      case c0 => exact fun h0 => c0 (h0.resolve_left (by decide))
      case c1 => exact fun h1 => ⟨rfl, r1.base hsX, r2.base hsX, r12⟩
      case c2 => exact fun h2 => c2 (h2.resolve_left (by decide))
      case c3 => exact fun h3 => ⟨(c3 (h3.resolve_left (by decide))).1, (c3 (h3.resolve_left (by decide))).2.lo l⟩
      case c4e => exact fun h4 => c4e (h4.resolve_left (by decide))
      case c4 => exact fun h4 m5 => ⟨(c4 (h4.resolve_left (by decide)) (fun q => m5 (.inr q))).1, (c4 (h4.resolve_left (by decide)) (fun q => m5 (.inr q))).2.lo l⟩
      case c5 => exact fun h5 => (hn (e5_1 (h5.resolve_left (by decide)))).elim
      case s14 => exact fun h1 h4 => by have := (c4 (h4.resolve_left (by decide)) (fun q => hn (e5_1 q))).2.2.1; omega
      case s34 => exact fun h3 h4 => s34 (h3.resolve_left (by decide)) (h4.resolve_left (by decide))
      case s13 => exact fun h1 h3 => (hn (e3_1 (h3.resolve_left (by decide)))).elim
    · refine step_of _ [] [(6, 0)] rfl (by kernel_rfl) (by kernel_rfl) ?_
      rintro D a X hn hd hc ⟨t13, t14, t15, t16, t4, t5, g1, k1, g2, k2, gw, b, rfl, _, hrest⟩ K' hK
      have nl : ¬ D 6 := fun h => hn (hc (6, 0) (by simp) h)
      obtain ⟨LX, c0, c1, c2, c3, c4e, c4, c5, s14, s34, s13⟩ := hrest nl
      clear hrest
      clear hd hc
      obtain ⟨_, x0, x1⟩ := BX.out.lo (lo_on L1.out LX.out)
      go_simp
      refine hK _ _ ⟨_, _, _, _, _, _, g1, k1, g2, k2, gw, b, by first | rfl | simp [Act.put], fun h => (nl (h.resolve_left (by decide))).elim, fun _ => ⟨LX, ?c0, ?c1, ?c2, ?c3, ?c4e, ?c4, ?c5, ?s14, ?s34, ?s13⟩⟩
      case c0 => exact fun h0 => rfl
      case c1 => exact fun h1 => c1 (h1.resolve_left (by decide))
      case c2 => exact fun h2 => c2 (h2.resolve_left (by decide))
      case c3 => exact fun h3 => c3 (h3.resolve_left (by decide))
      case c4e => exact fun h4 => c4e (h4.resolve_left (by decide))
      case c4 => exact fun h4 m5 => c4 (h4.resolve_left (by decide)) (fun q => m5 (.inr q))
      case c5 => exact fun h5 => c5 (h5.resolve_left (by decide))
      case s14 => exact fun h1 h4 => s14 (h1.resolve_left (by decide)) (h4.resolve_left (by decide))
      case s34 => exact fun h3 h4 => s34 (h3.resolve_left (by decide)) (h4.resolve_left (by decide))
      case s13 => exact fun h1 h3 => s13 (h1.resolve_left (by decide)) (h3.resolve_left (by decide))
  · rintro D a X hall ⟨t13, t14, t15, t16, t4, t5, g1, k1, g2, k2, gw, b, rfl, hfin, _⟩
    have HFIN := Lib.hid (hfin (hall 6 (by decide)))
    clear hfin hall
    obtain ⟨qb, qw, q1, j1, q2, j2, rfl, rfl, HFN⟩ := HFIN.out
    clear HFIN
    obtain ⟨_, u0, u1⟩ := BX.out.lo (lo_on L1.out HFN.out.2.2.2.2.2.2)
    obtain ⟨⟨hqb, hbo⟩, ⟨ho1, ho2, hq12⟩, ⟨hqw, hpw⟩, ⟨hb1, hb2⟩, hbw, ⟨hw1', hw2'⟩, hlx⟩ := HFN.out
    have hq1 := ho1.1
    have hq2 := ho2.1
    have PA0 := Lib.hid ((ho1.arms HN.out).congr (f' := laM m 0) (fun j _ => by unfold laM; rw [if_neg (by omega)]))
    have OB0 := Lib.hid ho2
    have PW0 := Lib.hid hpw
    have BO0 := Lib.hid hbo
    have LX0 := Lib.hid hlx
    clear HFN hbo ho1 ho2 hpw hlx
    go_wp2
    clear u0 u1
    go_loopw [6] (fun x wr => ∃ k : Nat, k ≤ n ∧ x = .int .i64 k ∧ Hid (PlcF wr q1 (2 * n) (laM m k)) ∧ Hid (OwnP wr w1.heap.size q2 j2 n m.hu) ∧ Hid (PlcF wr qw n (wtM m)) ∧ Hid (Box2 wr qb (.slice (some ⟨q1, 0, none⟩) n j1) (.slice (some ⟨q2, 0, none⟩) n j2)) ∧ Hid (∀ i, i < k → lvM m i % wtM m i = 0) ∧ Hid (Below w1.heap.size w1 wr)) (fun x _ => n - (intOf x).toNat)
    case atStart => exact ⟨0, Nat.zero_le _, rfl, PA0, OB0, PW0, BO0, Lib.hid (fun i h => by omega), LX0⟩
    case round =>
      obtain ⟨k, hk, rfl, HPA, HOB, HPW, HBO, HAL, HL⟩ := hrel
      obtain ⟨wx, rfl⟩ : ∃ wx : World, wx = wr := ⟨_, rfl⟩
      clear PA0 OB0 PW0 BO0 LX0
      have LWX := Lib.hid (lo_on L1.out HL.out)
      obtain ⟨_, u0, u1⟩ := BX.out.lo LWX.out
      obtain ⟨_, y0, y1⟩ := BY.out.lo LWX.out
      have fy : ∀ j, wx.frozen? ⟨w.heap.size + 1, j, none⟩ = false := fun j => (LWX.out.frozen (p := ⟨w.heap.size + 1, j, none⟩) by0).trans (FY.out j)
      have fy0 := fy 0
      have fy1 := fy 1
      by_cases hlt : k < n
      · have hlt' : (k : Int) < (n : Int) := by omega
        have hml : m.am.length = n := HN.out
        have LX := LW.out.trans (LWX.out.mono LW.out.size)
        have e1 := EC.out k 0 hlt (by omega)
        have e2 := EC.out k 1 hlt (by omega)
        rw [← LX.cell (p := ⟨g, off + k * 2 + 0, none⟩) hgg, ← LX.cell (p := ⟨g', off' + k * 2 + 0, none⟩) hgg'] at e1
        rw [← LX.cell (p := ⟨g, off + k * 2 + 1, none⟩) hgg, ← LX.cell (p := ⟨g', off' + k * 2 + 1, none⟩) hgg'] at e2
        simp only [Nat.add_zero] at e1
        obtain ⟨e1a, e1h⟩ := e1
        obtain ⟨e2a, e2h⟩ := e2
        have hbd := both_bnd HF.out k (by omega)
        have hlb := lvM_bnd HF.out k (by omega)
        have hqq := levQ_bnd HF.out k (by omega)
        have hwk := wtM_pos HF.out k (by omega)
        have hen := (HF.out.ends (2 * k + 1) (by omega)).2
        rw [hml, show (2 * k + 1) / 2 = k by omega] at hen
        have AT := Lib.hid (fun wd (l : Below wx.heap.size wx wd) => l5At_any (hvM m (2 * k + 1)) qw n n (wtM m) wd (by omega) (by omega) h6 (fun h => ⟨by omega, (HPW.out.lo l).at_ _ (by omega)⟩))
        have HLV : bothA m k * atM (hvM m (2 * k + 1)) (wtM m) = lvM m k := rfl
        have HBA : avM m (2 * k) + avM m (2 * k + 1) = bothA m k := rfl
        have cw := HPW.out.at_ k hlt
        have HNOk := Lib.hid (fun (h : ¬ lvM m k % wtM m k = 0) => lev_no (m := m) (fun f => h (f k (by omega))))
        have HALs := Lib.hid (fun (h : lvM m k % wtM m k = 0) => show ∀ i, i < k + 1 → lvM m i % wtM m i = 0 from fun i hi => by
          by_cases e : i = k
          · rw [e]; exact h
          · exact HAL.out i (by omega))
        have HLE := Lib.hid (fun j (_ : j < 2 * n) => la_step m k j)
        obtain ⟨x, hx⟩ : ∃ p, avM m (2 * k) = p := ⟨_, rfl⟩
        obtain ⟨y, hy⟩ : ∃ q, avM m (2 * k + 1) = q := ⟨_, rfl⟩
        obtain ⟨h, hh⟩ : ∃ q, hvM m (2 * k + 1) = q := ⟨_, rfl⟩
        obtain ⟨b, hb⟩ : ∃ q, bothA m k = q := ⟨_, rfl⟩
        obtain ⟨l, hl⟩ : ∃ q, lvM m k = q := ⟨_, rfl⟩
        obtain ⟨d, hd⟩ : ∃ q, wtM m k = q := ⟨_, rfl⟩
        rw [hx] at e1a HBA
        rw [hy] at e2a HBA
        rw [hh] at e2h AT HLV
        rw [hb] at HBA HLV hbd HLE
        rw [hl] at HLV hlb hqq HNOk HALs HLE
        rw [hd] at cw hwk hqq HNOk HALs HLE
        obtain ⟨a, ha⟩ : ∃ q, atM h (wtM m) = q := ⟨_, rfl⟩
        rw [ha] at AT HLV
        have hm1 : IntKind.i64.wrap (x + y) = b := (wrap_mid (x + y) (by omega) (by omega)).trans HBA
        have hm2 : IntKind.i64.wrap (b * a) = l := (wrap_mid (b * a) (by omega) (by omega)).trans HLV
        have hd0 : ¬ d = 0 := by omega
        have ht1 : l % d = Int.tmod l d := (Int.tmod_eq_emod_of_nonneg hlb.1).symm
        have ht2 : l / d = Int.tdiv l d := (Int.tdiv_eq_ediv_of_nonneg hlb.1).symm
        have hr1 := Int.emod_nonneg l hd0
        have hr2 := Int.emod_lt_of_pos l (show 0 < d by omega)
        have hdb : d ≤ 6336 := by rw [← hd]; exact (wsM_small HF.out m.am.length (Nat.le_refl _) k).2
        rw [ht1] at HNOk HALs hr1 hr2
        rw [ht2] at hqq HLE
        obtain ⟨r, hr⟩ : ∃ r, Int.tmod l d = r := ⟨_, rfl⟩
        obtain ⟨q, hq⟩ : ∃ q, Int.tdiv l d = q := ⟨_, rfl⟩
        rw [hr] at HNOk HALs hr1 hr2
        rw [hq] at hqq HLE
        have hm3 := wrap_mid r (by omega) (by omega)
        have hm4 := wrap_mid q (by omega) (by omega)
        have hm5 := wrap_mid (b - q) (by omega) (by omega)
        clear LX hx hy hh hb hl hd ha hml HBA HLV ht1 ht2 fy e1h hen HAL
        go_wp2
        go_region_held3 (fun w' => w'.cell? ⟨w.heap.size, 0, none⟩ = some (.slice (some ⟨g, off, none⟩) n c) ∧ w'.cell? ⟨g, off + k * 2, none⟩ = some (.int .i64 x) ∧ w'.cell? ⟨g, off + k * 2 + 1, none⟩ = some (.int .i64 y))
          (first | exact ⟨u0, e1a, e2a⟩ | go_keep)
          (first | (fail))
        obtain ⟨wd, hwd⟩ : ∃ wd, wx.drew = wd := ⟨_, rfl⟩
        have LD : Below wx.heap.size wx wd := by rw [← hwd]; exact drew_below wx
        rw [hwd]
        have HPA2 := Lib.hid (HPA.out.lo LD)
        have HOB2 := Lib.hid (HOB.out.lo LD)
        have HPW2 := Lib.hid (HPW.out.lo LD)
        have HBO2 := Lib.hid (HBO.out.lo LD)
        have HL2 := Lib.hid (lo_on HL.out LD)
        have A1 := Lib.hid (AT.out wd LD)
        have LWD := Lib.hid (lo_on LWX.out LD)
        have e2h' : wd.cell? ⟨g', off' + k * 2 + 1, none⟩ = some (.int .i64 h) := by rw [← hwd]; exact e2h
        have cw' := HPW2.out.at_ k hlt
        rw [show wtM m k = d from Value.int.inj (Option.some.inj ((HPW.out.at_ k hlt).symm.trans cw)) |>.2] at cw'
        clear u0 u1 e1a e2a e2h cw y0 y1 fy0 fy1 HPA HOB HPW HBO HL AT LWX LD hwd
        obtain ⟨_, u0, u1⟩ := BX.out.lo LWD.out
        obtain ⟨_, y0, y1⟩ := BY.out.lo LWD.out
        have fy : ∀ j, wd.frozen? ⟨w.heap.size + 1, j, none⟩ = false := fun j => (LWD.out.frozen (p := ⟨w.heap.size + 1, j, none⟩) by0).trans (FY.out j)
        have fy0 := fy 0
        have fy1 := fy 1
        clear fy
        go_wp2_with fail
        refine A1.out.mono ?_
        rintro e' w' ⟨rfl, hww⟩
        rw [hww]
        clear hww w'
        clear A1
        by_cases hr0 : r = 0
        · subst hr0
          have HALN := Lib.hid (HALs.out rfl)
          obtain ⟨_, b0, b1⟩ := HBO2.out
          have c0 := HPA2.out.at_ (k * 2) (by omega)
          have c1 := HPA2.out.at_ (k * 2 + 1) (by omega)
          have f0 := HPA2.out.fz (k * 2)
          have f1 := HPA2.out.fz (k * 2 + 1)
          have kb : ((wd.setCell ⟨q1, k * 2, none⟩ (.int .i64 q)).setCell ⟨q1, k * 2 + 1, none⟩ (.int .i64 (b - q))).drew.cell? ⟨qb, 0, none⟩ = some (.slice (some ⟨q1, 0, none⟩) n j1) := ((World.cell?_setCell_other _ _ _ _ (fun e => hb1 (by have := congrArg Addr.block e; simp only at this; omega))).trans (World.cell?_setCell_other _ _ _ _ (fun e => hb1 (by have := congrArg Addr.block e; simp only at this; omega)))).trans b0
          have kx : ((wd.setCell ⟨q1, k * 2, none⟩ (.int .i64 q)).setCell ⟨q1, k * 2 + 1, none⟩ (.int .i64 (b - q))).drew.cell? ⟨qw, k, none⟩ = some (.int .i64 d) := ((World.cell?_setCell_other _ _ _ _ (fun e => hw1' (by have := congrArg Addr.block e; simp only at this; omega))).trans (World.cell?_setCell_other _ _ _ _ (fun e => hw1' (by have := congrArg Addr.block e; simp only at this; omega)))).trans cw'
          obtain ⟨wn, hwn⟩ : ∃ wn, ((wd.setCell ⟨q1, k * 2, none⟩ (.int .i64 q)).setCell ⟨q1, k * 2 + 1, none⟩ (.int .i64 (b - q))).drew = wn := ⟨_, rfl⟩
          have HPAN := Lib.hid (show PlcF wn q1 (2 * n) (laM m (k + 1)) by
            rw [← hwn]
            exact (((HPA2.out.set (q := k * 2) (by omega) q).set (q := k * 2 + 1) (by omega) (b - q)).lo (drew_below _)).congr (fun j hj => (HLE.out j hj).symm))
          have HOBN := Lib.hid (show OwnP wn w1.heap.size q2 j2 n m.hu by rw [← hwn]; exact ((HOB2.out.set q1 _ _ (Ne.symm hq12)).set q1 _ _ (Ne.symm hq12)).lo (drew_below _))
          have HPWN := Lib.hid (show PlcF wn qw n (wtM m) by rw [← hwn]; exact ((HPW2.out.set_far q1 _ _ hw1').set_far q1 _ _ hw1').lo (drew_below _))
          have HBON := Lib.hid (show Box2 wn qb (.slice (some ⟨q1, 0, none⟩) n j1) (.slice (some ⟨q2, 0, none⟩) n j2) by rw [← hwn]; exact (Box2.set (Box2.set HBO2.out hb1) hb1).lo (drew_below _))
          have HLN := Lib.hid (show Below w1.heap.size w1 wn by rw [← hwn]; exact lo_on ((HL2.out.setCell (p := ⟨q1, k * 2, none⟩) hq1 _).setCell (p := ⟨q1, k * 2 + 1, none⟩) hq1 _) (drew_below _))
          have HWN := Lib.hid hwn
          clear hwn HALs HNOk HLE u0 u1 y0 y1 fy0 fy1 e2h'
          go_wp2
          have c0' : wd.drew.cell? ⟨q1, k * 2, none⟩ = _ := c0
          have c1' : wd.drew.cell? ⟨q1, k * 2 + 1, none⟩ = _ := c1
          have f0' : wd.drew.frozen? ⟨q1, k * 2, none⟩ = false := f0
          have f1' : wd.drew.frozen? ⟨q1, k * 2 + 1, none⟩ = false := f1
          go_region_held3 (fun w' => w'.cell? ⟨qb, 0, none⟩ = some (.slice (some ⟨q1, 0, none⟩) n j1) ∧ w'.cell? ⟨qw, k, none⟩ = some (.int .i64 d))
            (first | exact ⟨b0, cw'⟩ | go_keep | exact ⟨kb, kx⟩)
            (first | (fail))
          rw [HWN.out]
          go_wp2
          go_roundw
          case rel => exact ⟨k + 1, by omega, by go_num, HPAN, HOBN, HPWN, HBON, HALN, HLN⟩
          case measure => simp [intOf]; omega
        · have HNK := Lib.hid (HNOk.out hr0)
          have TS := Lib.hid (two_set wd (w.heap.size + 1) 0 (.slice none 0 0) (.slice none 0 0) y0 y1)
          have LF := Lib.hid (((lo_on LW.out LWD.out).setCell (p := ⟨w.heap.size + 1, 0, none⟩) (Nat.le_succ _) (.slice none 0 0)).setCell (p := ⟨w.heap.size + 1, 1, none⟩) (Nat.le_succ _) (.slice none 0 0))
          clear HALs HNOk HLE
          go_wp2
          obtain ⟨t0, t1, _⟩ := TS.out
          exact bodyPost_ret (v := .tuple #[.agg #[.slice none 0 0, .slice none 0 0], .bool false]) (by simp [results, Try.results42, go_sem, t0, t1]) rfl ⟨_, by rw [HNK.out.1], by rw [HNK.out.2]; exact mobRow_nil _, LF.out⟩
      · obtain rfl : k = n := by omega
        have hge : ¬ (k : Int) < (k : Int) := by omega
        have hml : m.am.length = k := HN.out
        obtain ⟨_, b0, b1⟩ := HBO.out
        have RA := Lib.hid (fun (X : World) (P : PlcF X q1 (2 * k) (laM m k)) => plc_lev (c := j1) (P.congr (f' := levE m) (fun j hj => by unfold laM; rw [if_pos (by omega)])) hml)
        have RB := Lib.hid (fun (X : World) (P : OwnP X w1.heap.size q2 j2 k m.hu) => loadRow_a2 (v := .slice (some ⟨q2, 0, none⟩) k j2) (xs := m.hu) (by rw [HNS.out]; exact P.2.2))
        have MR := Lib.hid (show MobRow wx (.agg #[.slice (some ⟨q1, 0, none⟩) k j1, .slice (some ⟨q2, 0, none⟩) k j2]) (lev0 m) from ⟨_, _, rfl, RA.out wx HPA.out, RB.out wx HOB.out⟩)
        have G1 := Lib.hid (l5Good_any _ (lev0 m) wx MR.out (lev0_small HF.out) (lev0_bnd HF.out HBD.out))
        have HAA := Lib.hid (show ∀ i, i < m.am.length → lvM m i % wtM m i = 0 from fun i hi => HAL.out i (by omega))
        have HGN := Lib.hid (fun (h : goodB (lev0 m) = false) => show levB m = false ∧ levM m = nilM from by
          have e : levB m = false := by unfold levB; rw [h, Bool.and_false, Bool.and_false]
          exact ⟨e, by unfold levM; rw [e]; rfl⟩)
        have HGY := Lib.hid (fun (h : goodB (lev0 m) = true) => show levB m = true ∧ levM m = lev0 m from by
          have e : levB m = true := by unfold levB; rw [h, propB_yes HAA.out, (goodB_iff m).2 HF.out]; rfl
          exact ⟨e, by unfold levM; rw [e]; rfl⟩)
        obtain ⟨gb, hgb⟩ : ∃ r, goodB (lev0 m) = r := ⟨_, rfl⟩
        rw [hgb] at G1 HGN HGY
        have hs1 := L1.out.size
        clear hml hgb fy fy0 fy1 y0 y1
        go_wp2_with fail
        refine G1.out.mono ?_
        rintro e' w2 ⟨rfl, l2⟩
        have LW2 := Lib.hid (lo_on LWX.out l2)
        have M2 := Lib.hid (MR.out.lo l2)
        obtain ⟨_, y0, y1⟩ := BY.out.lo LW2.out
        have fy : ∀ j, w2.frozen? ⟨w.heap.size + 1, j, none⟩ = false := fun j => (LW2.out.frozen (p := ⟨w.heap.size + 1, j, none⟩) by0).trans (FY.out j)
        have fy0 := fy 0
        have fy1 := fy 1
        obtain ⟨_, c0, c1⟩ := HBO.out.lo l2
        clear G1 l2 fy b0 b1 u0 u1
        cases gb with
        | false =>
          have HNK := Lib.hid (HGN.out rfl)
          have TS := Lib.hid (two_set w2 (w.heap.size + 1) 0 (.slice none 0 0) (.slice none 0 0) y0 y1)
          have LF := Lib.hid (((lo_on LW.out LW2.out).setCell (p := ⟨w.heap.size + 1, 0, none⟩) (Nat.le_succ _) (.slice none 0 0)).setCell (p := ⟨w.heap.size + 1, 1, none⟩) (Nat.le_succ _) (.slice none 0 0))
          clear HGN HGY
          go_wp2
          obtain ⟨t0, t1, _⟩ := TS.out
          exact bodyPost_ret (v := .tuple #[.agg #[.slice none 0 0, .slice none 0 0], .bool false]) (by simp [results, Try.results42, go_sem, t0, t1]) rfl ⟨_, by rw [HNK.out.1], by rw [HNK.out.2]; exact mobRow_nil _, LF.out⟩
        | true =>
          have HYK := Lib.hid (HGY.out rfl)
          have TS := Lib.hid (two_set w2 (w.heap.size + 1) 0 (.slice (some ⟨q1, 0, none⟩) k j1) (.slice (some ⟨q2, 0, none⟩) k j2) y0 y1)
          have LF := Lib.hid (((lo_on LW.out LW2.out).setCell (p := ⟨w.heap.size + 1, 0, none⟩) (Nat.le_succ _) (.slice (some ⟨q1, 0, none⟩) k j1)).setCell (p := ⟨w.heap.size + 1, 1, none⟩) (Nat.le_succ _) (.slice (some ⟨q2, 0, none⟩) k j2))
          have far : FarM w1.heap.size (.agg #[.slice (some ⟨q1, 0, none⟩) k j1, .slice (some ⟨q2, 0, none⟩) k j2]) := ⟨q1, k, j1, q2, k, j2, rfl, hq1, hq2⟩
          have RM := Lib.hid (mobRow_far (b := w.heap.size + 1) (o := 1) (x := .slice (some ⟨q2, 0, none⟩) k j2) (mobRow_far (b := w.heap.size + 1) (o := 0) (x := .slice (some ⟨q1, 0, none⟩) k j1) M2.out far (by omega)) far (by omega))
          clear HGN HGY far
          go_wp2
          obtain ⟨t0, t1, _⟩ := TS.out
          exact bodyPost_ret (v := .tuple #[.agg #[.slice (some ⟨q1, 0, none⟩) k j1, .slice (some ⟨q2, 0, none⟩) k j2], .bool true]) (by simp [results, Try.results42, go_sem, t0, t1]) rfl ⟨_, by rw [HYK.out.1], by rw [HYK.out.2]; exact RM.out, LF.out⟩
end
section
open Go.RowKit
set_option maxRecDepth 100000 in
set_option maxHeartbeats 1600000 in
theorem specLevArms_no (v : Value) (m : MobV) (w : World) (hv : MobRow w v m) (hs : SmallM m) (hb : BndM m) (hr : goodB m = false) :
    Calls Try.prog 42 #[v] w fun e w' => ∃ u, e = .returned (.tuple #[u, .bool false]) ∧ MobRow w' u nilM ∧ Below w.heap.size w w' := by
  have D := Lib.hid (fun w1 (l : Below w.heap.size w w1) => l5Good_any v m w1 (hv.lo l) hs hb)
  rw [hr] at D
  obtain ⟨a, b, c, d, rfl⟩ := hv.form
  obtain ⟨W, hW⟩ : ∃ W, (w.alloc (.cells #[.slice a m.am.length c, .slice b m.hu.length d] 27)).alloc (.cells #[.slice none 0 0, .slice none 0 0] 27) = W := ⟨_, rfl⟩
  have LW := Lib.hid (show Below w.heap.size w W by rw [← hW]; exact ((Below.refl _ _).alloc (Nat.le_refl _) _).alloc (by simp) _)
  have BX := Lib.hid (show Box2 W w.heap.size (.slice a m.am.length c) (.slice b m.hu.length d) by rw [← hW]; exact (box2_new _ _ _ _).lo ((Below.refl _ _).alloc (Nat.le_refl _) _))
  have BY := Lib.hid (show Box2 W (w.heap.size + 1) (.slice none 0 0) (.slice none 0 0) by rw [← hW]; have := box2_new (w.alloc (.cells #[.slice a m.am.length c, .slice b m.hu.length d] 27)) (.slice none 0 0) (.slice none 0 0) 27; simpa using this)
  have FY := Lib.hid (show ∀ j, W.frozen? ⟨w.heap.size + 1, j, none⟩ = false by rw [← hW]; exact fun j => World.frozen?_alloc_at _ _ _ _ (by simp))
  have D1 := Lib.hid (D.out W LW.out)
  generalize m.am.length = n at *
  generalize m.hu.length = n2 at *
  clear hv hs hb D hr
  obtain ⟨_, u0, u1⟩ := BX.out
  go_enter Try.func42, Try.ntmps42
  go_wp2_with fail
  clear hW u0 u1
  refine D1.out.mono ?_
  rintro e' w1 ⟨rfl, l1⟩
  have L1 := Lib.hid (lo_on LW.out l1)
  obtain ⟨by0, y0, y1⟩ := BY.out.lo l1
  have fy : ∀ j, w1.frozen? ⟨w.heap.size + 1, j, none⟩ = false := fun j => (l1.frozen (p := ⟨w.heap.size + 1, j, none⟩) BY.out.1).trans (FY.out j)
  have fy0 := fy 0
  have fy1 := fy 1
  have TS := Lib.hid (two_set w1 (w.heap.size + 1) 0 (.slice none 0 0) (.slice none 0 0) y0 y1)
  have LF := Lib.hid (L1.out.setCell (p := ⟨w.heap.size + 1, 0, none⟩) (Nat.le_succ _) (.slice none 0 0) |>.setCell (p := ⟨w.heap.size + 1, 1, none⟩) (Nat.le_succ _) (.slice none 0 0))
  clear l1 D1 fy
  go_wp2
  obtain ⟨q0, q1, _⟩ := TS.out
  exact bodyPost_ret (v := .tuple #[.agg #[.slice none 0 0, .slice none 0 0], .bool false]) (by simp [results, Try.results42, go_sem, q0, q1]) rfl ⟨_, rfl, mobRow_nil _, LF.out⟩
theorem specLevArms_any (v : Value) (m : MobV) (w : World) (hv : MobRow w v m) (hs : SmallM m) (hb : BndM m) :
    Calls Try.prog 42 #[v] w fun e w' => ∃ u, e = .returned (.tuple #[u, .bool (levB m)]) ∧ MobRow w' u (levM m) ∧ Below w.heap.size w w' := by
  cases h : goodB m with
  | true => exact specLevArms_yes v m w hv hb ((goodB_iff m).1 h)
  | false =>
    have e : levB m = false := by unfold levB; rw [h]; rfl
    rw [e, show levM m = nilM by unfold levM; rw [e]; rfl]
    exact specLevArms_no v m w hv hs hb h
end
end Go.Proofs.Ytnadchgekfljkaa
