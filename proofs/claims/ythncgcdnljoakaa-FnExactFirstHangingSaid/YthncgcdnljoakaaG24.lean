/- Hang1, LevS, as one text. -/
import Derived.Test.YthncgcdnljoakaaG21
import Derived.Test.YthncgcdnljoakaaG23
import Derived.Test.YthncgcdnljoakaaG7
namespace Go.Proofs.Ythncgcdnljoakaa
open Go.RowKit
/-- What mobileOf makes of rods that hang as those of a mobile. -/
theorem madeR_gen {m q : MobV} {S : RodF} (hf : MobF m) (hb : S.be = (rodF m).be) (hl : q.am.length = m.am.length) (hl2 : q.hu.length = m.am.length)
    (ha : ∀ t, t < 2 * m.am.length → avM q t = S.ar t) (hh : ∀ t, t < 2 * m.am.length → hvM q t = if S.be t = 0 then S.le t else -((S.be t : Nat) : Int)) : madeR m.am.length S = q := by
  have hk : keptR m.am.length S = List.range m.am.length := by
    rw [← keptR_full hf]
    unfold keptR
    congr 1
    funext j
    rw [preR_be hb]
  obtain ⟨am, hu⟩ := q
  unfold madeR
  rw [hk]
  have hlt : ∀ t, t < 2 * m.am.length → S.be t < m.am.length := fun t ht => by
    rw [hb]
    by_cases h0 : (rodF m).be t = 0
    · rw [h0]; have := hf.one; omega
    · exact ((wtR_rodF hf).down t ht h0).2
  have hR : ∀ t, t < 2 * m.am.length → hungR S (List.range m.am.length) t = hvM ⟨am, hu⟩ t := fun t ht => by
    rw [hh t ht]
    unfold hungR
    rw [range_idx _ _ (hlt t ht)]
  congr 1
  · unfold madeAm
    refine range_map_list am (0, 0) _ hl _ (fun j hj => ?_)
    rw [← ha _ (by omega), ← ha _ (by omega)]
    simp only [avM]
    rw [if_pos (by omega), if_neg (by omega), show 2 * j / 2 = j by omega, show (2 * j + 1) / 2 = j by omega]
  · unfold madeHu
    refine range_map_list hu (0, 0) _ hl2 _ (fun j hj => ?_)
    rw [hR _ (by omega), hR _ (by omega)]
    simp only [hvM]
    rw [if_pos (by omega), if_neg (by omega), show 2 * j / 2 = j by omega, show (2 * j + 1) / 2 = j by omega]
theorem endT_more (S : RodF) (T : Nat) : ∀ d, ∃ r, endT S (T + d) = endT S T ++ r := by
  intro d
  induction d with
  | zero => exact ⟨[], by simp⟩
  | succ d ih =>
    obtain ⟨r, hr⟩ := ih
    by_cases h : S.be (T + d) = 0
    · exact ⟨r ++ [T + d], by rw [← Nat.add_assoc, endT_yes h, hr, List.append_assoc]⟩
    · exact ⟨r, by rw [← Nat.add_assoc, endT_no h, hr]⟩
theorem endT_rise (S : RodF) (T : Nat) : (endT S T).Pairwise (· < ·) := List.Pairwise.filter _ List.pairwise_lt_range
theorem endT_idx (S : RodF) (N t : Nat) (ht : t < N) (h : S.be t = 0) : (endT S N).idxOf t = (endT S t).length ∧ (endT S t).length < (endT S N).length := by
  obtain ⟨r, hr⟩ := endT_more S (t + 1) (N - (t + 1))
  rw [show t + 1 + (N - (t + 1)) = N by omega, endT_yes h] at hr
  have hl : (endT S t).length < (endT S N).length := by rw [hr]; simp
  have hg : (endT S N).getD (endT S t).length 0 = t := by rw [hr]; simp [List.getD]
  have := pos_at (endT_rise S N) hl
  rw [hg] at this
  exact ⟨this, hl⟩
theorem ends_len {m : MobV} (hf : MobF m) (T : Nat) (hT : T ≤ 2 * m.am.length) : (endT (rodF m) T).length = (leavesF m T).length := by
  rw [leaves_ends hf T hT, List.length_map]
/-- The rods when the first k leaves have their weights. -/
def hangR (m : MobV) (xs : List Int) (k : Nat) : RodF := ⟨(rodF m).ar, fun t => if (endT (rodF m) (2 * m.am.length)).idxOf t < k then xs.getD ((endT (rodF m) (2 * m.am.length)).idxOf t) 0 else (rodF m).le t, (rodF m).be⟩
theorem hangR_step (m : MobV) (xs : List Int) (k j : Nat) (hk : k < (endT (rodF m) (2 * m.am.length)).length) : (hangR m xs (k + 1)).le j = if j = (endT (rodF m) (2 * m.am.length)).getD k 0 then xs.getD k 0 else (hangR m xs k).le j := by
  unfold hangR
  have hK := endT_rise (rodF m) (2 * m.am.length)
  generalize endT (rodF m) (2 * m.am.length) = K at *
  simp only
  by_cases e : j = K.getD k 0
  · rw [if_pos e, e, pos_at hK hk, if_pos (by omega)]
  · rw [if_neg e]
    have hne : K.idxOf j ≠ k := fun h => by
      have hl : K.idxOf j < K.length := by omega
      have hm := List.idxOf_lt_length_iff.1 hl
      exact e (by rw [← h, pos_mem hm])
    by_cases h : K.idxOf j < k
    · rw [if_pos h, if_pos (by omega)]
    · rw [if_neg h, if_neg (by omega)]
theorem hvM_hang (m : MobV) (xs : List Int) (t : Nat) (ht : t < 2 * m.am.length) : hvM (hangM m xs) t = hgM m xs t := by
  unfold hvM
  show (if t % 2 = 0 then ((hungL m xs).getD (t / 2) (0, 0)).1 else ((hungL m xs).getD (t / 2) (0, 0)).2) = _
  rw [hungL_at m xs _ (by omega)]
  split
  · rw [show 2 * (t / 2) = t by omega]
  · rw [show 2 * (t / 2) + 1 = t by omega]
theorem madeR_hang {m : MobV} (hf : MobF m) (xs : List Int) : madeR m.am.length (hangR m xs (m.am.length + 1)) = hangM m xs := by
  refine madeR_gen hf rfl rfl (hungL_len m xs) (fun t _ => rfl) (fun t ht => ?_)
  rw [hvM_hang m xs t ht]
  have hb := be_rodF hf t ht
  unfold hgM
  by_cases h0 : 0 < hvM m t
  · have hz := hb.2 h0
    obtain ⟨e1, e2⟩ := endT_idx (rodF m) (2 * m.am.length) t ht hz
    rw [if_pos h0, if_pos (show (hangR m xs (m.am.length + 1)).be t = 0 from hz)]
    show _ = if (endT (rodF m) (2 * m.am.length)).idxOf t < m.am.length + 1 then xs.getD ((endT (rodF m) (2 * m.am.length)).idxOf t) 0 else _
    rw [e1, ends_len hf t (by omega), if_pos (leaf_lt hf t ht h0)]
  · have hz : (rodF m).be t ≠ 0 := fun e => h0 (hb.1 e)
    rw [if_neg h0, if_neg (show ¬ (hangR m xs (m.am.length + 1)).be t = 0 from hz)]
    show hvM m t = -(((-hvM m t).toNat : Nat) : Int)
    have := (hf.ends t ht).2
    omega
theorem neg_lt {m q : MobV} : ∀ T, (∀ t, t < T → hvM m t < 0 → hvM q t < 0) → negM m T ≤ negM q T ∧ ∀ t, t < T → hvM q t < 0 → ¬ hvM m t < 0 → negM m T < negM q T := by
  intro T
  induction T with
  | zero => intro _; exact ⟨Nat.le_refl _, fun t h => by omega⟩
  | succ T ih =>
    intro h
    obtain ⟨a, b⟩ := ih (fun t ht => h t (by omega))
    have hT := h T (by omega)
    rw [negM, negM]
    refine ⟨?_, fun t ht h1 h2 => ?_⟩
    · split <;> split <;> first | omega | (exfalso; rename_i x y; exact y (hT x))
    · by_cases e : t = T
      · subst e; rw [if_neg h2, if_pos h1]; omega
      · have := b t (by omega) h1 h2
        split <;> split <;> first | omega | (exfalso; rename_i x y; exact y (hT x))
theorem neg_good {q : MobV} (hf : MobF q) : (negM q (2 * q.am.length) : Int) = (q.am.length : Int) - 1 := by
  have := good_by_count hf.one hf.short hf.same hf.ends (fun j h1 h2 => by rw [hf.once j h1 h2]; exact Nat.le_refl _)
  rw [(goodB_iff q).2 hf] at this
  exact of_decide_eq_true this.symm
theorem cnt_hang {m : MobV} {xs : List Int} (hx : ∀ t, t < 2 * m.am.length → 0 < hvM m t → 0 < hgM m xs t) (j : Nat) : ∀ T, T ≤ 2 * m.am.length → cntM (hangM m xs) T j = cntM m T j := by
  intro T
  induction T with
  | zero => intro _; rfl
  | succ T ih =>
    intro hT
    rw [cntM, cntM, ih (by omega), hvM_hang m xs T (by omega)]
    have := hx T (by omega)
    by_cases h0 : 0 < hvM m T
    · have := this h0
      rw [if_neg (by omega), if_neg (by omega)]
    · rw [show hgM m xs T = hvM m T from if_neg h0]
/-- The mobile with other leaves is one just if these are weights. -/
theorem hang_good {m : MobV} (hf : MobF m) (xs : List Int) (hl : xs.length = m.am.length + 1) : goodB (hangM m xs) = areB xs ((m.am.length : Int) + 1) := by
  have hlen : (endT (rodF m) (2 * m.am.length)).length = m.am.length + 1 := by rw [ends_len hf _ (Nat.le_refl _), leaf_total hf]
  by_cases ha : ∀ i, i < xs.length → 1 ≤ xs.getD i 0 ∧ xs.getD i 0 ≤ 99
  · have e : areB xs ((m.am.length : Int) + 1) = true := by
      unfold areB
      rw [(propB_iff _).2 ha, decide_eq_true (by omega)]; rfl
    rw [e]
    refine (goodB_iff _).2 ?_
    have hp : ∀ t, t < 2 * m.am.length → 0 < hvM m t → 1 ≤ hgM m xs t ∧ hgM m xs t ≤ 99 := fun t ht h0 => by
      rw [show hgM m xs t = xs.getD (leavesF m t).length 0 from if_pos h0]
      exact ha _ (by have := leaf_lt hf t ht h0; omega)
    refine ⟨hf.one, hf.short, hungL_len m xs, fun t ht => ?_, fun j h1 h2 => ?_⟩
    · have ht' : t < 2 * m.am.length := ht
      obtain ⟨e1, e2⟩ := hf.ends t ht'
      refine ⟨e1, ?_⟩
      rw [hvM_hang m xs t ht']
      by_cases h0 : 0 < hvM m t
      · exact .inl (hp t ht' h0)
      · rw [show hgM m xs t = hvM m t from if_neg h0]; exact e2
    · show cntM (hangM m xs) (2 * m.am.length) j = 1
      rw [cnt_hang (fun t ht h0 => by have := hp t ht h0; omega) j _ (Nat.le_refl _)]
      exact hf.once j h1 h2
  · have e : areB xs ((m.am.length : Int) + 1) = false := by
      unfold areB
      rw [show propB (∀ i, i < xs.length → 1 ≤ xs.getD i 0 ∧ xs.getD i 0 ≤ 99) = false from propB_no ha]; rfl
    rw [e]
    refine propB_no (fun hq => ha (fun i hi => ?_))
    have hi2 : i < (endT (rodF m) (2 * m.am.length)).length := by omega
    obtain ⟨ht, hbe⟩ := endT_at (rodF m) (2 * m.am.length) i hi2
    have hpos := pos_at (endT_rise (rodF m) (2 * m.am.length)) hi2
    generalize (endT (rodF m) (2 * m.am.length)).getD i 0 = t at ht hbe hpos
    have h0 := (be_rodF hf t ht).1 hbe
    rw [(endT_idx (rodF m) _ t ht hbe).1, ends_len hf t (by omega)] at hpos
    have hg : hvM (hangM m xs) t = xs.getD i 0 := by rw [hvM_hang m xs t ht, show hgM m xs t = xs.getD (leavesF m t).length 0 from if_pos h0, hpos]
    have hE := (hq.ends t ht).2
    rw [hg] at hE
    have n1 := neg_good hf
    have n2 := neg_good hq
    have n3 := (neg_lt (m := m) (q := hangM m xs) (2 * m.am.length) (fun s hs h => by rw [hvM_hang m xs s hs, show hgM m xs s = hvM m s from if_neg (by omega)]; exact h)).2 t ht
    rw [hg] at n3
    have n4 : (negM (hangM m xs) (2 * m.am.length) : Int) = (m.am.length : Int) - 1 := n2
    by_cases hneg : xs.getD i 0 < 0
    · have := n3 hneg (by omega); omega
    · omega
end Go.Proofs.Ythncgcdnljoakaa
namespace Go.Proofs.Ythncgcdnljoakaa
section
open Go.RowKit
theorem wsM_pos {m : MobV} (hf : MobF m) : ∀ k, k ≤ m.am.length → ∀ j, m.am.length - k ≤ j → j < m.am.length → 1 ≤ wsM m k j := by
  intro k
  induction k with
  | zero => intro _ j h1 h2; omega
  | succ k ih =>
    intro hk j h1 h2
    have ih := ih (by omega)
    simp only [wsM]
    split
    · rename_i hj
      have each : ∀ t, t < 2 * m.am.length → t / 2 = m.am.length - 1 - k → 1 ≤ atM (hvM m t) (wsM m k) := fun t ht h2 => by
        have he := (hf.ends t ht).2
        unfold atM
        by_cases hneg : hvM m t < 0
        · rw [if_pos hneg]
          have : ((t / 2 : Nat) : Int) = ((m.am.length - 1 - k : Nat) : Int) := by rw [h2]
          exact ih _ (by omega) (by omega)
        · rw [if_neg hneg]; omega
      have a1 := each (2 * (m.am.length - 1 - k)) (by omega) (by omega)
      have a2 := each (2 * (m.am.length - 1 - k) + 1) (by omega) (by omega)
      omega
    · exact ih j (by omega) h2
theorem wtM_pos {m : MobV} (hf : MobF m) (j : Nat) (h : j < m.am.length) : 1 ≤ wtM m j := wsM_pos hf _ (Nat.le_refl _) j (by omega) h
def bothA (m : MobV) (i : Nat) : Int := avM m (2 * i) + avM m (2 * i + 1)
def lvM (m : MobV) (i : Nat) : Int := bothA m i * atM (hvM m (2 * i + 1)) (wtM m)
def levE (m : MobV) (t : Nat) : Int := if t % 2 = 0 then lvM m (t / 2) / wtM m (t / 2) else bothA m (t / 2) - lvM m (t / 2) / wtM m (t / 2)
def levL (m : MobV) : List (Int × Int) := (List.range m.am.length).map (fun i => (levE m (2 * i), levE m (2 * i + 1)))
def lev0 (m : MobV) : MobV := ⟨levL m, m.hu⟩
noncomputable def levB (m : MobV) : Bool := goodB m && (propB (∀ i, i < m.am.length → lvM m i % wtM m i = 0) && goodB (lev0 m))
noncomputable def levM (m : MobV) : MobV := if levB m = true then lev0 m else nilM
theorem levL_len (m : MobV) : (levL m).length = m.am.length := by simp [levL]
theorem levL_at (m : MobV) (i : Nat) (h : i < m.am.length) : (levL m).getD i (0, 0) = (levE m (2 * i), levE m (2 * i + 1)) := by simp [levL, List.getD, h]
theorem lvM_bnd {m : MobV} (hf : MobF m) (i : Nat) (h : i < m.am.length) : 0 ≤ lvM m i ∧ lvM m i ≤ 152064 := by
  have hw := fun j => wsM_small hf m.am.length (Nat.le_refl _) j
  have h1 := hf.ends (2 * i) (by omega)
  have h2 := hf.ends (2 * i + 1) (by omega)
  have b := atM_bnd (hvM m (2 * i + 1)) (wtM m) 6336 (by omega) (by have := h2.2; omega) hw
  unfold lvM bothA
  obtain ⟨c, hc⟩ : ∃ c, avM m (2 * i) + avM m (2 * i + 1) = c := ⟨_, rfl⟩
  have c0 : 0 ≤ c := by have := h1.1; have := h2.1; omega
  have c1 : c ≤ 24 := by have := h1.1; have := h2.1; omega
  rw [hc]
  exact ⟨Int.mul_nonneg c0 b.1, Int.le_trans (Int.mul_le_mul c1 b.2 b.1 (by omega)) (by omega)⟩
theorem levQ_bnd {m : MobV} (hf : MobF m) (i : Nat) (h : i < m.am.length) : 0 ≤ lvM m i / wtM m i ∧ lvM m i / wtM m i ≤ 152064 := by
  have b := lvM_bnd hf i h
  have w := wtM_pos hf i h
  exact ⟨Int.ediv_nonneg b.1 (by omega), Int.le_trans (Int.ediv_le_self _ b.1) b.2⟩
theorem both_bnd {m : MobV} (hf : MobF m) (i : Nat) (h : i < m.am.length) : 2 ≤ bothA m i ∧ bothA m i ≤ 24 := by
  have h1 := (hf.ends (2 * i) (by omega)).1
  have h2 := (hf.ends (2 * i + 1) (by omega)).1
  unfold bothA
  omega
theorem lev0_small {m : MobV} (hf : MobF m) : SmallM (lev0 m) := ⟨by rw [lev0, levL_len]; exact hf.small.1, hf.small.2⟩
theorem lev0_bnd {m : MobV} (hf : MobF m) (hb : BndM m) : BndM (lev0 m) := by
  refine ⟨fun j hj => ?_, hb.2⟩
  have hj' : j < m.am.length := by rw [← levL_len m]; exact hj
  show (-9223372036854775808 ≤ ((levL m).getD j (0, 0)).1 ∧ ((levL m).getD j (0, 0)).1 ≤ 9223372036854775807) ∧ -9223372036854775808 ≤ ((levL m).getD j (0, 0)).2 ∧ ((levL m).getD j (0, 0)).2 ≤ 9223372036854775807
  rw [levL_at m j hj']
  have q := levQ_bnd hf j hj'
  have b := both_bnd hf j hj'
  have e1 : levE m (2 * j) = lvM m j / wtM m j := by unfold levE; rw [if_pos (by omega), show 2 * j / 2 = j by omega]
  have e2 : levE m (2 * j + 1) = bothA m j - lvM m j / wtM m j := by unfold levE; rw [if_neg (by omega), show (2 * j + 1) / 2 = j by omega]
  rw [e1, e2]
  simp only
  omega
theorem OwnP.arms {w : World} {B g cap n : Nat} {m : MobV} (h : OwnP w B g cap n m.am) (hn : m.am.length = n) : PlcF w g (2 * n) (avM m) := by
  obtain ⟨_, h2, h3⟩ := h
  refine ⟨h2, fun t ht => ?_, fun j => h3.frozenAt j⟩
  have hc := cellsF_at m.am (t / 2) (by omega)
  rw [h3.cellAt t (by omega)]
  unfold avM
  by_cases e : t % 2 = 0
  · rw [if_pos e, ← hc.1, show t / 2 * 2 = t by omega]
  · rw [if_neg e, ← hc.2, show t / 2 * 2 + 1 = t by omega]
theorem plc_lev {w : World} {g n c : Nat} {m : MobV} (h : PlcF w g (2 * n) (levE m)) (hn : m.am.length = n) : LoadRow w (.slice (some ⟨g, 0, none⟩) n c) (levL m) := by
  refine ⟨_, c, by rw [levL_len, hn], .inr ⟨g, 0, rfl, h.lt, fun j hj => ?_⟩⟩
  rw [levL_len, hn] at hj
  rw [levL_at m j (by omega), Nat.zero_add, h.at_ (j * 2) (by omega), h.at_ (j * 2 + 1) (by omega), Nat.mul_comm j 2]
  exact ⟨rfl, rfl⟩
end
section
open Go.RowKit
/-- A row of numbers of a call's own, by its cells. -/
def WtB (X : World) (B g n : Nat) (f : Nat → Int) : Prop := B ≤ g ∧ PlcF X g n f
theorem WtB.lo {w w' : World} {B g n : Nat} {f : Nat → Int} (h : WtB w B g n f) (l : Below w.heap.size w w') : WtB w' B g n f := ⟨h.1, h.2.lo l⟩
/-- A struct of two cells, just made. -/
def Bx2 (w : World) (B b : Nat) : Prop := B ≤ b ∧ b < w.heap.size ∧ (∃ x y, Box2 w b x y) ∧ ∀ j, w.frozen? ⟨b, j, none⟩ = false
theorem Bx2.lo {w w' : World} {B b : Nat} (h : Bx2 w B b) (l : Below w.heap.size w w') : Bx2 w' B b := by
  obtain ⟨h1, h2, ⟨x, y, h3⟩, h4⟩ := h
  exact ⟨h1, Nat.lt_of_lt_of_le h2 l.size, ⟨x, y, h3.lo l⟩, fun j => by rw [l.frozen (p := ⟨b, j, none⟩) h2]; exact h4 j⟩
theorem bx2_new (w : World) {B : Nat} (x y : Value) (t : TypeId) (hB : B ≤ w.heap.size) : Bx2 (w.alloc (.cells #[x, y] t)) B w.heap.size := ⟨hB, by simp, ⟨x, y, box2_new w x y t⟩, fun _ => World.frozen?_alloc_at _ _ _ _ rfl⟩
theorem WtB.set {w : World} {B g n : Nat} {f : Nat → Int} (h : WtB w B g n f) (b o : Nat) (u : Value) (hne : b ≠ g) : WtB (w.setCell ⟨b, o, none⟩ u) B g n f := ⟨h.1, h.2.set_far b o u (Ne.symm hne)⟩
def TwoP (w : World) (B g1 k1 g2 k2 n : Nat) (m : MobV) : Prop := OwnP w B g1 k1 n m.am ∧ OwnP w B g2 k2 n m.hu ∧ g1 ≠ g2
theorem TwoP.lo {w w' : World} {B g1 k1 g2 k2 n : Nat} {m : MobV} (h : TwoP w B g1 k1 g2 k2 n m) (l : Below w.heap.size w w') : TwoP w' B g1 k1 g2 k2 n m := ⟨h.1.lo l, h.2.1.lo l, h.2.2⟩
theorem TwoP.set {w : World} {B g1 k1 g2 k2 n : Nat} {m : MobV} (h : TwoP w B g1 k1 g2 k2 n m) (b o : Nat) (u : Value) (h1 : b ≠ g1) (h2 : b ≠ g2) : TwoP (w.setCell ⟨b, o, none⟩ u) B g1 k1 g2 k2 n m := ⟨h.1.set b o u (Ne.symm h1), h.2.1.set b o u (Ne.symm h2), h.2.2⟩
theorem lev_no {m : MobV} (h : ¬ ∀ i, i < m.am.length → lvM m i % wtM m i = 0) : levB m = false ∧ levM m = nilM := by
  have e : levB m = false := by unfold levB; rw [propB_no h, Bool.false_and, Bool.and_false]
  exact ⟨e, by unfold levM; rw [e]; rfl⟩
/-- The arms when the first k rods have been levelled. -/
def laM (m : MobV) (k t : Nat) : Int := if t < 2 * k then levE m t else avM m t
theorem la_step (m : MobV) (k j : Nat) : laM m (k + 1) j = if j = k * 2 + 1 then bothA m k - lvM m k / wtM m k else if j = k * 2 then lvM m k / wtM m k else laM m k j := by
  unfold laM
  by_cases h1 : j = k * 2 + 1
  · rw [if_pos h1, if_pos (by omega)]
    unfold levE
    rw [if_neg (by omega), show j / 2 = k by omega]
  · rw [if_neg h1]
    by_cases h2 : j = k * 2
    · rw [if_pos h2, if_pos (by omega)]
      unfold levE
      rw [if_pos (by omega), show j / 2 = k by omega]
    · rw [if_neg h2]
      by_cases h : j < 2 * k
      · rw [if_pos h, if_pos (by omega)]
      · rw [if_neg h, if_neg (by omega)]
def St2 (w : World) (B b : Nat) (x y : Value) : Prop := B ≤ b ∧ Box2 w b x y
theorem St2.lo {w w' : World} {B b : Nat} {x y : Value} (h : St2 w B b x y) (l : Below w.heap.size w w') : St2 w' B b x y := ⟨h.1, h.2.lo l⟩
theorem box2_set (w : World) (b : Nat) {x y : Value} (h : Box2 w b x y) (u v : Value) : Box2 ((w.setCell ⟨b, 0, none⟩ u).setCell ⟨b, 1, none⟩ v) b u v := set2_1 _ _ (set2_0 w b h u) v
end
section
open Go.RowKit
end
end Go.Proofs.Ythncgcdnljoakaa
