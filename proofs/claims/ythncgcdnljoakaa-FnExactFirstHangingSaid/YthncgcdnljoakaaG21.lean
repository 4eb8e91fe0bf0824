/- MobO, as one text. -/
import Derived.Test.YthncgcdnljoakaaG18
import Derived.Test.YthncgcdnljoakaaG20
import Derived.Test.YthncgcdnljoakaaG15
import Derived.Test.YthncgcdnljoakaaG1
namespace Go.Proofs.Ythncgcdnljoakaa
section
open Go.RowKit
theorem map_pair (f : Nat → Int × Int) (ts : List Nat) (k : Nat) (h : k < ts.length) : (ts.map f).getD k (0, 0) = f (ts.getD k 0) := by simp [List.getD, h]
theorem rise_index {K : List Nat} (hK : K.Pairwise (· < ·)) {i j : Nat} (hi : i < K.length) (hj : j < K.length) (h : K.getD i 0 = K.getD j 0) : i = j := by
  rw [List.pairwise_iff_getElem] at hK
  rw [List.getD, List.getD, List.getElem?_eq_getElem hi, List.getElem?_eq_getElem hj] at h
  simp only [Option.getD_some] at h
  rcases Nat.lt_trichotomy i j with e | e | e
  · have := hK i j hi hj e; omega
  · exact e
  · have := hK j i hj hi e; omega
theorem pos_at {K : List Nat} (hK : K.Pairwise (· < ·)) {k : Nat} (hk : k < K.length) : K.idxOf (K.getD k 0) = k := by
  have hm : K.getD k 0 ∈ K := by simp only [List.getD, List.getElem?_eq_getElem hk, Option.getD_some]; exact List.getElem_mem hk
  have hl := List.idxOf_lt_length_of_mem hm
  refine rise_index hK hl hk ?_
  conv => lhs; rw [List.getD, List.getElem?_eq_getElem hl, Option.getD_some]
  exact List.getElem_idxOf hl
theorem pos_mem {K : List Nat} {j : Nat} (h : j ∈ K) : K.getD (K.idxOf j) 0 = j := by
  have hl := List.idxOf_lt_length_of_mem h
  rw [List.getD, List.getElem?_eq_getElem hl, Option.getD_some]
  exact List.getElem_idxOf hl
/-- The numbers when the first k rods have been numbered anew. -/
def numK (K : List Nat) (k j : Nat) : Int := if K.idxOf j < k then (K.idxOf j : Int) else (j : Int)
theorem numK_step {K : List Nat} (hK : K.Pairwise (· < ·)) {k : Nat} (hk : k < K.length) (j : Nat) : numK K (k + 1) j = if j = K.getD k 0 then (k : Int) else numK K k j := by
  unfold numK
  by_cases e : j = K.getD k 0
  · rw [if_pos e, e, pos_at hK hk, if_pos (by omega)]
  · rw [if_neg e]
    have hne : K.idxOf j ≠ k := fun h => by
      have hl : K.idxOf j < K.length := by omega
      have hm := List.idxOf_lt_length_iff.1 hl
      exact e (by rw [← h, pos_mem hm])
    by_cases h : K.idxOf j < k
    · rw [if_pos h, if_pos (by omega)]
    · rw [if_neg h, if_neg (by omega)]
theorem RodsIn.set_num {w : World} {B n : Nat} {b : Nat → Nat} {nu : Nat → Int} {S : RodF} (h : RodsIn w B 0 n b nu S) (q : Nat) (hq : q < n) (x : Int) : RodsIn (w.setCell ⟨b q, 0, none⟩ (.int .i64 x)) B 0 n b (fun j => if j = q then x else nu j) S where
  rod := fun i h1 h2 => by
    by_cases e : i = q
    · subst e; rw [if_pos rfl]; exact (h.rod i h1 h2).set_num x
    · rw [if_neg e]
      exact (h.rod i h1 h2).keep (by simp) (Below.heap_setCell _ _ _ _ (fun e2 => e (h.apart i q h1 h2 (by omega) hq e2)))
  far := h.far
  apart := h.apart
theorem RodsIn.nums {w : World} {B n : Nat} {b : Nat → Nat} {nu nu' : Nat → Int} {S : RodF} (h : RodsIn w B 0 n b nu S) (he : ∀ j, j < n → nu j = nu' j) : RodsIn w B 0 n b nu' S :=
  ⟨fun i h1 h2 => by rw [← he i h2]; exact h.rod i h1 h2, h.far, h.apart⟩
/-- What hangs at an end of a rod that is kept, by the new numbers. -/
def hungR (S : RodF) (K : List Nat) (t : Nat) : Int := if S.be t = 0 then S.le t else -((K.idxOf (S.be t) : Nat) : Int)
def madeAm (S : RodF) (K : List Nat) : List (Int × Int) := K.map (fun j => (S.ar (2 * j), S.ar (2 * j + 1)))
def madeHu (S : RodF) (K : List Nat) : List (Int × Int) := K.map (fun j => (hungR S K (2 * j), hungR S K (2 * j + 1)))
def madeR (n : Nat) (S : RodF) : MobV := ⟨madeAm S (keptR n S), madeHu S (keptR n S)⟩
noncomputable def keptM (q : MobV) : MobV := if goodB q = true then q else nilM
/-- Numbers that fit. -/
structure BndR (n : Nat) (S : RodF) : Prop where
  ar : ∀ t, t < 2 * n → -9223372036854775808 ≤ S.ar t ∧ S.ar t ≤ 9223372036854775807
  le : ∀ t, t < 2 * n → -9223372036854775808 ≤ S.le t ∧ S.le t ≤ 9223372036854775807
theorem keptR_lt {n : Nat} {S : RodF} {j : Nat} (h : j ∈ keptR n S) : j < n := by
  unfold keptR at h
  rw [List.mem_filter, List.mem_range] at h
  exact h.1
theorem keptR_len (n : Nat) (S : RodF) : (keptR n S).length ≤ n := by
  have := List.length_filter_le (fun j => decide (j ∈ preR S n 0)) (List.range n)
  unfold keptR
  simpa using this
theorem hungR_bnd {n : Nat} {S : RodF} (hb : BndR n S) (h6 : n ≤ 6) (t : Nat) (ht : t < 2 * n) : -9223372036854775808 ≤ hungR S (keptR n S) t ∧ hungR S (keptR n S) t ≤ 9223372036854775807 := by
  have h1 := hb.le t ht
  have h2 : (keptR n S).idxOf (S.be t) ≤ (keptR n S).length := List.idxOf_le_length
  have h3 := keptR_len n S
  unfold hungR
  split <;> omega
theorem madeR_bnd {n : Nat} {S : RodF} (hb : BndR n S) (h6 : n ≤ 6) : BndM (madeR n S) := by
  constructor
  · intro j hj
    simp only [madeR, madeAm, List.length_map] at hj
    simp only [madeR, madeAm]
    rw [map_pair _ _ _ hj]
    have hm : (keptR n S).getD j 0 < n := keptR_lt (by simp only [List.getD, List.getElem?_eq_getElem hj, Option.getD_some]; exact List.getElem_mem hj)
    have h1 := hb.ar (2 * (keptR n S).getD j 0) (by omega)
    have h2 := hb.ar (2 * (keptR n S).getD j 0 + 1) (by omega)
    simp only
    omega
  · intro j hj
    simp only [madeR, madeHu, List.length_map] at hj
    simp only [madeR, madeHu]
    rw [map_pair _ _ _ hj]
    have hm : (keptR n S).getD j 0 < n := keptR_lt (by simp only [List.getD, List.getElem?_eq_getElem hj, Option.getD_some]; exact List.getElem_mem hj)
    have h1 := hungR_bnd hb h6 (2 * (keptR n S).getD j 0) (by omega)
    have h2 := hungR_bnd hb h6 (2 * (keptR n S).getD j 0 + 1) (by omega)
    simp only
    omega
theorem madeR_small {n : Nat} {S : RodF} (h6 : n ≤ 6) : SmallM (madeR n S) := by
  have := keptR_len n S
  constructor
  · simp only [madeR, madeAm, List.length_map]; omega
  · simp only [madeR, madeHu, List.length_map]; omega
end
section
open Go.RowKit
theorem box2_far {w : World} {b g o : Nat} {x y u : Value} (h : Box2 w b x y) (hne : b ≠ g) : Box2 (w.setCell ⟨g, o, none⟩ u) b x y := by
  obtain ⟨h0, h1, h2⟩ := h
  refine ⟨by simpa using h0, ?_, ?_⟩
  · rw [World.cell?_setCell_other _ _ _ _ (fun e => hne (by have := congrArg Addr.block e; simp only at this; omega))]; exact h1
  · rw [World.cell?_setCell_other _ _ _ _ (fun e => hne (by have := congrArg Addr.block e; simp only at this; omega))]; exact h2
theorem Out2.far {w : World} {b g o : Nat} {x u v : Value} {xs ys : List (Int × Int)} (h : Out2 w b u v xs ys) (h0 : b ≠ g) (h1 : u.ownBlock ≠ some g) (h2 : v.ownBlock ≠ some g) : Out2 (w.setCell ⟨g, o, none⟩ x) b u v xs ys :=
  ⟨box2_far h.box h0, fun j => by rw [World.frozen?_setCell]; exact h.fz j, ownsRow_set h.r1 g o x h1, ownsRow_set h.r2 g o x h2, h.ap⟩
theorem take_pair (f : Nat → Int × Int) (K : List Nat) (k : Nat) (h : k < K.length) : (K.map f).take (k + 1) = (K.map f).take k ++ [f (K.getD k 0)] := by
  rw [List.take_add_one, List.getElem?_map, List.getElem?_eq_getElem h, List.getD, List.getElem?_eq_getElem h]; rfl
/-- Rods while they are numbered anew. -/
structure NumSt (w0 w : World) (B g n k : Nat) (b : Nat → Nat) (S : RodF) (K : List Nat) : Prop where
  rods : RodsIn w B 0 n b (numK K k) S
  row : ∀ j, j < K.length → w.cell? ⟨g, j, none⟩ = some (ptrB b (K.getD j 0))
  box : Box2 w w0.heap.size (.slice none 0 0) (.slice none 0 0)
  fz : ∀ j, w.frozen? ⟨w0.heap.size, j, none⟩ = false
  lo : Below B w0 w
  gl : g < w.heap.size
theorem NumSt.step {w0 w : World} {B g n k : Nat} {b : Nat → Nat} {S : RodF} {K : List Nat} (h : NumSt w0 w B g n k b S K) (hK : K.Pairwise (· < ·)) (hk : k < K.length) (hn : K.getD k 0 < n) (hg : ∀ i, i < n → b i ≠ g ∧ b i ≠ w0.heap.size) : NumSt w0 (w.setCell ⟨b (K.getD k 0), 0, none⟩ (.int .i64 (k : Int))) B g n (k + 1) b S K where
  rods := (h.rods.set_num (K.getD k 0) hn (k : Int)).nums (fun j _ => (numK_step hK hk j).symm)
  row := fun j hj => by rw [World.cell?_setCell_other _ _ _ _ (fun hh => (hg _ hn).1 (congrArg Addr.block hh))]; exact h.row j hj
  box := box2_far h.box (fun e => (hg _ hn).2 e.symm)
  fz := fun j => by rw [World.frozen?_setCell]; exact h.fz j
  lo := h.lo.setCell (p := ⟨b (K.getD k 0), 0, none⟩) (h.rods.far _ (by omega) hn) _
  gl := by simpa using h.gl
theorem mineL_a2 {w : World} {B : Nat} {v : Value} {xs : List (Int × Int)} (h : w.ownsRow B 134 2 v xs.length (cellsF xs)) : (xs = [] ∧ v = .slice none 0 0) ∨ ∃ g, v.ownBlock = some g ∧ B ≤ g ∧ g < w.heap.size ∧ MineL w g (g + 1) v xs := by
  have h' := h
  rcases h.2 with ⟨rfl, h0⟩ | ⟨g, cap, cur, rfl, hb, hg, _⟩
  · exact .inl ⟨List.length_eq_zero_iff.1 h0, rfl⟩
  · have hl := (Array.getElem?_eq_some_iff.1 hg).1
    exact .inr ⟨g, rfl, hb, hl, .inr ⟨g, cap, rfl, Nat.le_refl _, by omega, hl, fun j hj => by
      have hc := cellsF_at xs j hj
      rw [h'.cellAt (j * 2) (by omega), h'.cellAt (j * 2 + 1) (by omega)]
      exact hc, fun j => h'.frozenAt j⟩⟩
theorem Out2.mine {w : World} {b B : Nat} {u v : Value} {xs ys : List (Int × Int)} (h : Out2 w b u v xs ys) (hB : B ≤ b + 1) : MineMb w B w.heap.size (.agg #[u, v]) ⟨xs, ys⟩ := by
  have hb := h.box.1
  rcases mineL_a2 h.r1 with ⟨rfl, rfl⟩ | ⟨g1, e1, k1, l1, m1⟩
  · rcases mineL_a2 h.r2 with ⟨rfl, rfl⟩ | ⟨g2, e2, k2, l2, m2⟩
    · exact ⟨_, _, B, B, B, B, rfl, ⟨by omega, by omega, by omega, by omega, by omega⟩, mineL_nil _ _ _ _ _, mineL_nil _ _ _ _ _⟩
    · exact ⟨_, _, B, B, g2, g2 + 1, rfl, ⟨by omega, by omega, by omega, by omega, by omega⟩, mineL_nil _ _ _ _ _, m2⟩
  · rcases mineL_a2 h.r2 with ⟨rfl, rfl⟩ | ⟨g2, e2, k2, l2, m2⟩
    · exact ⟨_, _, g1, g1 + 1, B, B, rfl, ⟨by omega, by omega, by omega, by omega, by omega⟩, m1, mineL_nil _ _ _ _ _⟩
    · have hne : g1 ≠ g2 := fun e => h.ap g1 e1 (by rw [e2, e])
      exact ⟨_, _, g1, g1 + 1, g2, g2 + 1, rfl, ⟨by omega, by omega, by omega, by omega, by omega⟩, m1, m2⟩
set_option maxRecDepth 100000 in
set_option maxHeartbeats 6400000 in
theorem mobileOf_any (n B : Nat) (b : Nat → Nat) (S : RodF) (w : World) (h1 : 1 ≤ n) (h6 : n ≤ 6) (hT : TreeR n S) (hB : BndR n S) (H : RodsIn w B 0 n b (fun i => (i : Int)) S) (hBw : B ≤ w.heap.size) :
    Calls Try.prog 143 #[.pointer (some ⟨b 0, 0, none⟩)] w fun e w' => ∃ u, e = .returned (.tuple #[u, .bool (goodB (madeR n S))]) ∧ MineMb w' w.heap.size w'.heap.size u (keptM (madeR n S)) ∧ Below B w w' := by
  obtain ⟨W, hW⟩ : ∃ W, w.alloc (.cells #[.slice none 0 0, .slice none 0 0] 62) = W := ⟨_, rfl⟩
  have LW := Lib.hid (show Below w.heap.size w W by rw [← hW]; exact (Below.refl _ _).alloc (Nat.le_refl _) _)
  have BR := Lib.hid (show Box2 W w.heap.size (.slice none 0 0) (.slice none 0 0) by rw [← hW]; exact box2_new _ _ _ _)
  have FR := Lib.hid (show ∀ j, W.frozen? ⟨w.heap.size, j, none⟩ = false by rw [← hW]; exact fun j => World.frozen?_alloc_at _ _ _ _ rfl)
  have hsz : W.heap.size = w.heap.size + 1 := by rw [← hW]; simp
  have HSZ := Lib.hid hsz
  have BA := Lib.hid (below_all n B b _ S hT.down n 0 W (by omega) (by omega) (H.lo LW.out) (fun j k' hj _ => preR_len hT h6 k' j hj))
  have HB := Lib.hid (fun i (hi : i < n) => (H.rod i (by omega) hi).lt)
  have HM := Lib.hid (fun x (hx : x ∈ preR S n 0) => (preR_ge hT n 0 x (by omega) hx).2)
  have HP := Lib.hid (fun L (hp : L.Perm (preR S n 0)) hs => keptR_only hT h1 L hp hs)
  have HL6 := Lib.hid (preR_len hT h6 n 0 (by omega))
  have HRD := Lib.hid (H.lo LW.out)
  have HKR := Lib.hid (keptR_rise n S)
  have HKL := Lib.hid (fun k (hk : k < (keptR n S).length) => show (keptR n S).getD k 0 < n from keptR_lt (S := S) (by simp only [List.getD, List.getElem?_eq_getElem hk, Option.getD_some]; exact List.getElem_mem hk))
  have HKD := Lib.hid (fun q e (hq : q ∈ keptR n S) (he : e < 2) (h0 : S.be (2 * q + e) ≠ 0) => show S.be (2 * q + e) ∈ keptR n S from by
    have hq2 := keptR_lt hq
    refine (keptR_mem hT h1 _).2 (preR_down hT n 0 _ (by omega) (by omega) (by omega) h0 ?_)
    rw [show (2 * q + e) / 2 = q by omega]
    exact (keptR_mem hT h1 _).1 hq)
  clear H hsz
  go_enter Try.func143, Try.ntmps143
  go_wp2_with fail
  clear hW
  refine BA.out.mono ?_
  rintro e w1 ⟨vl, rfl, ol, nl, l1⟩
  obtain ⟨g, cap, rfl, hgW, hg1⟩ : ∃ g cap, vl = .slice (some ⟨g, 0, none⟩) (preR S n 0).length cap ∧ W.heap.size ≤ g ∧ g < w1.heap.size := by
    rcases ol.2 with ⟨e, _⟩ | ⟨g, cap, cur, e, hb, hh, _⟩
    · exact absurd e nl
    · exact ⟨g, cap, e, hb, (Array.getElem?_eq_some_iff.1 hh).1⟩
  have hgb : ∀ i, i < n → b i ≠ g ∧ b i ≠ w.heap.size := fun i hi => by have := HB.out i hi; have := HSZ.out; omega
  have HGB := Lib.hid hgb
  have SO := Lib.hid (sortP_any g cap W.heap.size B n b _ S (preR S n 0) w1 ol (HRD.out.lo l1) (fun i hi => (hgb i hi).1) HM.out (by omega) (by have := HL6.out; omega))
  have L1 := Lib.hid l1
  clear ol nl l1 BA hgb
  go_wp2_with fail
  refine SO.out.mono ?_
  rintro e w2 ⟨rfl, L', hp, hs, hc, ho⟩
  have hK : L' = keptR n S := HP.out L' hp (fun i j hij hj => by have := hs i j hij hj; omega)
  subst hK
  have hlen : (preR S n 0).length = (keptR n S).length := hp.length_eq.symm
  have LN := Lib.hid hlen
  have L2 := Lib.hid ho
  have ST0 := Lib.hid (show NumSt w w2 B g n 0 b S (keptR n S) from
    ⟨((HRD.out.lo L1.out).keep ho.size (fun i h1 h2 => ho.block _ (HGB.out i h2).1 (by have := L1.out.size; have := HB.out i h2; have := HSZ.out; omega))).nums (fun j _ => by unfold numK; rw [if_neg (by omega)]), hc,
      box2_block (BR.out.lo L1.out) ho.size (ho.block _ (by have := HSZ.out; omega) (by have := L1.out.size; have := HSZ.out; omega)),
      fun j => by rw [World.frozen?_of_block (a := ⟨w.heap.size, j, none⟩) (ho.block _ (by have := HSZ.out; simp only; omega) (by have := L1.out.size; have := HSZ.out; simp only; omega)), L1.out.frozen (p := ⟨w.heap.size, j, none⟩) (by have := HSZ.out; simp only; omega)]; exact FR.out j,
      ((LW.out.mono hBw).trans (L1.out.mono (by have := HSZ.out; omega))).trans (ho.below (by omega) |>.mono (by have := HSZ.out; omega)), by have := ho.size; omega⟩)
  rw [hlen]
  clear hs hc ho hp hlen SO L1 HRD
  have HKN := Lib.hid (keptR_len n S)
  obtain ⟨K, hKK⟩ : ∃ K, keptR n S = K := ⟨_, rfl⟩
  have HKK := Lib.hid hKK
  rw [hKK] at ST0 HKR HKL HKN LN HKD ⊢
  clear hKK
  have hK6 : K.length ≤ 6 := by have := HKN.out; omega
  go_wp2
  go_loopw [19] (fun x wr => ∃ k : Nat, k ≤ K.length ∧ x = .int .i64 k ∧ Hid (NumSt w wr B g n k b S K)) (fun x _ => K.length - (intOf x).toNat)
  case atStart => exact ⟨0, Nat.zero_le _, rfl, ST0⟩
  case round =>
    obtain ⟨k, hk, rfl, HS⟩ := hrel
    obtain ⟨wq, rfl⟩ : ∃ wq : World, wq = wr := ⟨_, rfl⟩
    clear ST0
    by_cases hlt : k < K.length
    · have hlt' : (k : Int) < (K.length : Int) := by omega
      have cr := HS.out.row k hlt
      have hqn := HKL.out k hlt
      have HSN := Lib.hid (HS.out.step HKR.out hlt hqn HGB.out)
      have cn := (HS.out.rods.rod _ (by omega) hqn).num
      have fn := (HS.out.rods.rod _ (by omega) hqn).fz 0
      obtain ⟨q, hq⟩ : ∃ q, K.getD k 0 = q := ⟨_, rfl⟩
      rw [hq] at cr cn fn HSN
      unfold ptrB at cr
      have hgl := HS.out.gl
      clear hq HS
      go_wp2
      go_roundw
      case rel => exact ⟨k + 1, by omega, by go_num, HSN⟩
      case measure => simp [intOf]; omega
    · obtain rfl : k = K.length := by omega
      have hge : ¬ (K.length : Int) < (K.length : Int) := by omega
      go_wp2
      have HSq := HS
      clear HS
      obtain ⟨bM, hbM⟩ : ∃ bM, wq.heap.size = bM := ⟨_, rfl⟩
      obtain ⟨W3, hW3⟩ : ∃ W3, wq.alloc (.cells #[.slice none 0 0, .slice none 0 0] 62) = W3 := ⟨_, rfl⟩
      have LM := Lib.hid (show Below bM wq W3 by rw [← hW3, ← hbM]; exact (Below.refl _ _).alloc (Nat.le_refl _) _)
      have O0 := Lib.hid (show Out2 W3 bM (.slice none 0 0) (.slice none 0 0) ((madeAm S K).take 0) ((madeHu S K).take 0) by rw [← hW3, ← hbM]; exact out2_new wq)
      have HZ3 := Lib.hid (show W3.heap.size = bM + 1 by rw [← hW3, ← hbM]; simp)
      have HBM := Lib.hid hbM
      rw [hbM, hW3]
      clear hW3 hbM
      go_loopw [31] (fun x wr => ∃ (k : Nat) (va vb : Value), k ≤ K.length ∧ x = .int .i64 k ∧ Hid (Out2 wr bM va vb ((madeAm S K).take k) ((madeHu S K).take k)) ∧ Hid (Below bM W3 wr)) (fun x _ => K.length - (intOf x).toNat)
      case atStart => exact ⟨0, _, _, Nat.zero_le _, rfl, O0, Lib.hid (Below.refl _ _)⟩
      case round =>
        obtain ⟨k, va, vb, hk, rfl, HO, HW⟩ := hrel
        obtain ⟨wr0, rfl⟩ : ∃ wr0 : World, wr0 = wr := ⟨_, rfl⟩
        clear O0
        by_cases hlt : k < K.length
        · have hlt' : (k : Int) < (K.length : Int) := by omega
          have hqn := HKL.out k hlt
          have hqK : K.getD k 0 ∈ K := by simp only [List.getD, List.getElem?_eq_getElem hlt, Option.getD_some]; exact List.getElem_mem hlt
          have HA1 := Lib.hid (take_pair (fun j => (S.ar (2 * j), S.ar (2 * j + 1))) K k hlt)
          have HA2 := Lib.hid (take_pair (fun j => (hungR S K (2 * j), hungR S K (2 * j + 1))) K k hlt)
          have LQ := Lib.hid (show Below bM wq wr0 from LM.out.trans HW.out)
          have LQ' := Lib.hid (show Below wq.heap.size wq wr0 by rw [HBM.out]; exact LQ.out)
          have cr : wr0.cell? ⟨g, k, none⟩ = some (ptrB b (K.getD k 0)) := by rw [LQ'.out.cell (p := ⟨g, k, none⟩) HSq.out.gl]; exact HSq.out.row k hlt
          have HRr := Lib.hid (HSq.out.rods.lo LQ'.out)
          obtain ⟨q, hq⟩ : ∃ q, K.getD k 0 = q := ⟨_, rfl⟩
          rw [hq] at cr hqn hqK HA1 HA2
          unfold ptrB at cr
          have rq := HRr.out.rod q (by omega) hqn
          have c3 := rq.leaf 0 (by omega)
          have c4 := rq.leaf 1 (by omega)
          have c5 := rq.below 0 (by omega)
          have c6 := rq.below 1 (by omega)
          have hbq := rq.lt
          simp only [Nat.add_zero, Nat.reduceAdd] at c3 c4 c5 c6
          have HIX := Lib.hid (fun e (he : e < 2) w => index_ptr (ptrR b (S.be (2 * q))) (ptrR b (S.be (2 * q + 1))) (ptrR b (S.be (2 * q + e))) e he (by
            rcases (show e = 0 ∨ e = 1 by omega) with rfl | rfl
            · rfl
            · rfl) w)
          generalize ptrR b (S.be (2 * q)) = p0 at *
          generalize ptrR b (S.be (2 * q + 1)) = p1 at *
          have HRQ := Lib.hid rq
          clear hq rq
          have hgr : g < wr0.heap.size := by have := LQ'.out.size; have := HSq.out.gl; omega
          go_wp2
          obtain ⟨bh, hbh⟩ : ∃ bh, wr0.heap.size = bh := ⟨_, rfl⟩
          obtain ⟨W4, hW4⟩ : ∃ W4, wr0.alloc (.cells #[.int .i64 (S.le (2 * q)), .int .i64 (S.le (2 * q + 1))] 134) = W4 := ⟨_, rfl⟩
          have N4 := Lib.hid (show NumC W4 bh 2 (fun j => if j < 0 then hungR S K (2 * q + j) else S.le (2 * q + j)) by
            rw [← hW4, ← hbh]
            refine ⟨by simp, fun j hj => ?_, fun j => World.frozen?_alloc_at _ _ _ _ rfl⟩
            rw [World.cell?_alloc_at _ _ _ _ rfl, if_neg (by omega)]
            rcases (show j = 0 ∨ j = 1 by omega) with rfl | rfl
            · rfl
            · rfl)
          have l4 : Below wr0.heap.size wr0 W4 := by rw [← hW4]; exact (Below.refl _ _).alloc (Nat.le_refl _) _
          have hw3 : bM + 1 ≤ wr0.heap.size := by have := HW.out.size; have := HZ3.out; omega
          have O4 := Lib.hid (HO.out.lo l4)
          have W4L := Lib.hid (show Below bM W3 W4 from HW.out.trans (l4.mono (by omega)))
          have hsh : W4.heap.size = bh + 1 := by rw [← hW4, ← hbh]; simp
          have AG := Lib.hid (show bM ≠ bh ∧ va.ownBlock ≠ some bh ∧ vb.ownBlock ≠ some bh ∧ bM + 1 ≤ bh from ⟨by omega, fun h => by have := (HO.out.r1.lt bh h).2; omega, fun h => by have := (HO.out.r2.lt bh h).2; omega, by omega⟩)
          have HSH := Lib.hid hsh
          rw [hbh, hW4]
          clear hW4 hbh l4 c3 c4 c5 c6 cr hsh HO HW LQ LQ' HRr HRQ hw3 hbq hgr
          go_loopw [43] (fun x wr => ∃ e : Nat, e ≤ 2 ∧ x = .int .i64 e ∧ Hid (NumC wr bh 2 (fun j => if j < e then hungR S K (2 * q + j) else S.le (2 * q + j))) ∧ Hid (Out2 wr bM va vb ((madeAm S K).take k) ((madeHu S K).take k)) ∧ Hid (Below bM W3 wr) ∧ Hid (wr.heap.size = bh + 1)) (fun x _ => 2 - (intOf x).toNat)
          case atStart => exact ⟨0, Nat.zero_le _, rfl, N4, O4, W4L, HSH⟩
          case round =>
            obtain ⟨e, he, rfl, HN, HO, HW, HZ⟩ := hrel
            obtain ⟨wx, rfl⟩ : ∃ wx : World, wx = wr := ⟨_, rfl⟩
            clear N4 O4 W4L HSH
            by_cases hel : e < 2
            · have hel' : (e : Int) < 2 := by omega
              have hix := HIX.out e hel wx
              by_cases h0 : S.be (2 * q + e) = 0
              · have HNN := Lib.hid (HN.out.congr (f' := fun j => if j < e + 1 then hungR S K (2 * q + j) else S.le (2 * q + j)) (fun j _ => by
                  by_cases h1 : j < e
                  · rw [if_pos h1, if_pos (by omega)]
                  · rw [if_neg h1]
                    by_cases h2 : j = e
                    · subst h2; rw [if_pos (by omega)]; unfold hungR; rw [if_pos h0]
                    · rw [if_neg (by omega)]))
                rw [ptrR_none _ h0] at hix
                clear h0
                go_wp2
                go_roundw
                case rel => exact ⟨e + 1, by omega, by go_num, HNN, HO, HW, HZ⟩
                case measure => simp [intOf]; omega
              · have hrK := HKD.out q e hqK hel h0
                have hrl := List.idxOf_lt_length_of_mem hrK
                have HNE := Lib.hid (show hungR S K (2 * q + e) = -((K.idxOf (S.be (2 * q + e)) : Nat) : Int) by unfold hungR; rw [if_neg h0])
                rw [ptrR_some _ h0] at hix
                have hrn : S.be (2 * q + e) < n := by
                  have hm := pos_mem hrK
                  have := HKL.out _ hrl
                  omega
                obtain ⟨r, hr⟩ : ∃ r, S.be (2 * q + e) = r := ⟨_, rfl⟩
                rw [hr] at hix hrK hrl HNE hrn
                have LQ' := Lib.hid (show Below wq.heap.size wq wx by rw [HBM.out]; exact LM.out.trans HW.out)
                have cn := ((HSq.out.rods.lo LQ'.out).rod r (by omega) hrn).num
                unfold numK at cn
                rw [if_pos hrl] at cn
                have HNN := Lib.hid ((HN.out.set hel (-((K.idxOf r : Nat) : Int))).congr (f' := fun j => if j < e + 1 then hungR S K (2 * q + j) else S.le (2 * q + j)) (fun j _ => by
                  by_cases h2 : j = e
                  · subst h2; rw [if_pos rfl, if_pos (by omega), HNE.out]
                  · rw [if_neg h2]
                    by_cases h1 : j < e
                    · rw [if_pos h1, if_pos (by omega)]
                    · rw [if_neg h1, if_neg (by omega)]))
                have hc := HN.out.at_ e hel
                have hfz := HN.out.fz e
                have HON := Lib.hid (HO.out.far (o := e) (x := .int .i64 (-((K.idxOf r : Nat) : Int))) AG.out.1 AG.out.2.1 AG.out.2.2.1)
                have HWN := Lib.hid (HW.out.setCell (p := ⟨bh, e, none⟩) (show bM ≤ bh by have := AG.out.2.2.2; omega) (.int .i64 (-((K.idxOf r : Nat) : Int))))
                have HZN := Lib.hid (show (wx.setCell ⟨bh, e, none⟩ (.int .i64 (-((K.idxOf r : Nat) : Int)))).heap.size = bh + 1 by have := HZ.out; simpa using this)
                obtain ⟨ix, hix2⟩ : ∃ ix, K.idxOf r = ix := ⟨_, rfl⟩
                rw [hix2] at cn HNN HON HWN HZN hrl
                have hix6 : (ix : Int) ≤ 6 := by omega
                have hix0 : (0 : Int) ≤ (ix : Int) := by omega
                clear h0 hr hrK HNE LQ' hix2
                go_wp2
                go_roundw
                case rel => exact ⟨e + 1, by omega, by go_num, HNN, HON, HWN, HZN⟩
                case measure => simp [intOf]; omega
            · obtain rfl : e = 2 := by omega
              have LQ' := Lib.hid (show Below wq.heap.size wq wx by rw [HBM.out]; exact LM.out.trans HW.out)
              have rq := (HSq.out.rods.lo LQ'.out).rod q (by omega) hqn
              have ca0 := rq.arm 0 (by omega)
              have ca1 := rq.arm 1 (by omega)
              simp only [Nat.add_zero, Nat.reduceAdd] at ca0 ca1
              have hbM3 : bM ≤ W3.heap.size := by have := HZ3.out; omega
              have hbR : bM ≤ wx.heap.size := Nat.le_trans hbM3 HW.out.size
              have hbhx : bh < wx.heap.size := by have := HZ.out; omega
              have hqb : b q < wq.heap.size := (HSq.out.rods.rod q (by omega) hqn).lt
              have r30 := (HSq.out.rods.rod q (by omega) hqn).arm 0 (by omega)
              have r31 := (HSq.out.rods.rod q (by omega) hqn).arm 1 (by omega)
              simp only [Nat.add_zero, Nat.reduceAdd] at r30 r31
              have CEQ := Lib.hid (fun X (l : Below bM W3 X) => show X.cell? ⟨b q, 1, none⟩ = some (.int .i64 (S.ar (2 * q))) ∧ X.cell? ⟨b q, 2, none⟩ = some (.int .i64 (S.ar (2 * q + 1))) from by
                have l2 : Below wq.heap.size wq X := by rw [HBM.out]; exact LM.out.trans l
                exact ⟨(l2.cell (p := ⟨b q, 1, none⟩) hqb).trans r30, (l2.cell (p := ⟨b q, 2, none⟩) hqb).trans r31⟩)
              obtain ⟨x, hx⟩ : ∃ x, S.ar (2 * q) = x := ⟨_, rfl⟩
              obtain ⟨y, hy⟩ : ∃ y, S.ar (2 * q + 1) = y := ⟨_, rfl⟩
              simp only [hx, hy] at HA1 CEQ
              have HL1 := Lib.hid (show ((madeAm S K).take k).length = k by rw [List.length_take, show (madeAm S K).length = K.length from List.length_map ..]; omega)
              have HL2 := Lib.hid (show ((madeHu S K).take k).length = k by rw [List.length_take, show (madeHu S K).length = K.length from List.length_map ..]; omega)
              have HX1 := Lib.hid (show (madeAm S K).take (k + 1) = (madeAm S K).take k ++ [(x, y)] from HA1.out)
              have HY1 := Lib.hid (show (madeHu S K).take (k + 1) = (madeHu S K).take k ++ [(hungR S K (2 * q), hungR S K (2 * q + 1))] from HA2.out)
              obtain ⟨X1, hX1⟩ : ∃ X1, (madeAm S K).take k = X1 := ⟨_, rfl⟩
              obtain ⟨Y1, hY1⟩ : ∃ Y1, (madeHu S K).take k = Y1 := ⟨_, rfl⟩
              rw [hX1] at HL1 HX1 HO
              rw [hY1] at HL2 HY1 HO
              have NH := Lib.hid (HN.out.congr (f' := fun j => hungR S K (2 * q + j)) (fun j hj => if_pos hj))
              obtain ⟨i0, hi, hz0, hz1, hz2⟩ := info_parts infoA2
              clear HA1 HA2 HN LQ' rq ca0 ca1 hX1 hY1 hx hy r30 r31 HIX
              go_wp2
              refine wp_region_inv (by kernel_rfl) (by kernel_rfl) (fun D a X => ∃ (t57 t58 t59 t60 t61 t62 t63 t64 t65 : Value) (g15 g16 k16 : Nat), a = (⟨#[.pointer (some ⟨b 0, 0, none⟩), undef, .pointer (some ⟨w.heap.size, 0, none⟩), .bool false, .slice (some ⟨g, 0, none⟩) K.length cap, u5, u6, .pointer (some ⟨bM, 0, none⟩), undef, .pointer (some ⟨b q, 0, none⟩), .pointer (some ⟨bh, 0, none⟩), u11, u12, .pointer (some ⟨b 0, 0, none⟩), .slice (some ⟨g, 0, none⟩) K.length cap, .slice (some ⟨g, 0, none⟩) K.length cap, .tuple #[], .slice (some ⟨g, 0, none⟩) K.length cap, .int .i64 (K.length : Int), .int .i64 (K.length : Int), .bool false, u21, u22, u23, u24, u25, u26, u27, u28, .slice (some ⟨g, 0, none⟩) K.length cap, .int .i64 (K.length : Int), .int .i64 (k : Int), .bool true, .pointer (some ⟨g, k, none⟩), .pointer (some ⟨b q, 0, none⟩), .pointer (some ⟨b q, 0, none⟩), .pointer (some ⟨b q, 0, none⟩), .pointer (some ⟨b q, 3, none⟩), .agg #[.int .i64 (S.le (2 * q)), .int .i64 (S.le (2 * q + 1))], .pointer (some ⟨b q, 0, none⟩), .pointer (some ⟨b q, 0, none⟩), .pointer (some ⟨b q, 5, none⟩), .agg #[p0, p1], .int .i64 ((2 : Nat) : Int), .bool false, u45, u46, u47, u48, u49, u50, u51, u52, u53, u54, u55, u56, t57, t58, t59, t60, t61, t62, t63, t64, t65, u66, u67, u68, u69, u70, u71, u72, undef, undef, undef, undef, undef], []⟩ : Act) ∧ (D 9 → ∃ qq cp, Hid (Out2 X bM (.slice (some ⟨qq, 0, none⟩) (k + 1) cp) vb (X1 ++ [(x, y)]) Y1 ∧ Below bM W3 X ∧ X.heap[bh]? = wx.heap[bh]? ∧ bh < X.heap.size)) ∧ (¬ D 9 → Hid (Below bM W3 X ∧ X.heap[bh]? = wx.heap[bh]? ∧ bh < X.heap.size) ∧ (D 0 → (t57 = .pointer (some ⟨bM, 0, none⟩))) ∧ (D 1 → (t58 = va)) ∧ (D 2 → (t59 = .pointer (some ⟨b q, 0, none⟩))) ∧ (D 3 → (t60 = .pointer (some ⟨b q, 0, none⟩))) ∧ (D 4 → (t61 = .pointer (some ⟨b q, 1, none⟩))) ∧ (D 5 → (t62 = .agg #[.int .i64 x, .int .i64 y])) ∧ (D 6 → ¬ D 7 → (t63 = .slice (some ⟨g15, 0, none⟩) 1 1 ∧ Lit2 X g15 x y)) ∧ (D 7 → (t64 = (.slice (some ⟨g16, 0, none⟩) (k + 1) k16) ∧ App2 X bM 0 va ∧ Out2 (X.setCell ⟨bM, 0, none⟩ (.slice (some ⟨g16, 0, none⟩) (k + 1) k16)) bM (.slice (some ⟨g16, 0, none⟩) (k + 1) k16) vb (X1 ++ [(x, y)]) Y1)) ∧ (D 8 → (t65 = .pointer (some ⟨bM, 0, none⟩))) ∧ (¬ D 7 → (Out2 X bM va vb X1 Y1)))) ?_ ?_ ?_
              · exact ⟨_, _, _, _, _, _, _, _, _, 0, 0, 0, rfl, fun h => h.elim, fun _ => ⟨Lib.hid ⟨HW.out.trans (drew_below _ |>.mono hbR), rfl, hbhx⟩, fun h => h.elim, fun h => h.elim, fun h => h.elim, fun h => h.elim, fun h => h.elim, fun h => h.elim, fun h => h.elim, fun h => h.elim, fun h => h.elim, fun _ => HO.out.lo (drew_below _)⟩⟩
              · refine (show ∀ i, i < 10 → StepAt _ _ _ _ _ i from ?_)
                refine lt_more (n := 9) ?_ (lt_more (n := 8) ?_ (lt_more (n := 7) ?_ (lt_more (n := 6) ?_ (lt_more (n := 5) ?_ (lt_more (n := 4) ?_ (lt_more (n := 3) ?_ (lt_more (n := 2) ?_ (lt_more (n := 1) ?_ (lt_more (n := 0) ?_ lt_none)))))))))
                · refine step_of _ [8, 7, 7, 0, 1, 2, 3, 4, 5, 6, 7] [] rfl (by kernel_rfl) (by kernel_rfl) ?_
                  rintro D a X hn hd hc ⟨t57, t58, t59, t60, t61, t62, t63, t64, t65, g15, g16, k16, rfl, _, hrest⟩ K' hK
                  have nl := hn
                  obtain ⟨LX, c0, c1, c2, c3, c4, c5, c6, c7, c8, cO⟩ := hrest nl
                  clear hrest
                  have d0 := hd 0 (by simp)
                  have d1 := hd 1 (by simp)
                  have d2 := hd 2 (by simp)
                  have d3 := hd 3 (by simp)
                  have d4 := hd 4 (by simp)
                  have d5 := hd 5 (by simp)
                  have d6 := hd 6 (by simp)
                  have d7 := hd 7 (by simp)
                  have d8 := hd 8 (by simp)
                  clear hd hc
                  obtain ⟨rfl, ⟨a0, a1⟩, a2⟩ := c7 d7
                  obtain rfl := c8 d8
                  go_simp
                  refine hK _ _ ⟨_, _, _, _, _, _, _, _, _, g15, g16, k16, by first | rfl | simp [Act.put], fun _ => ?_, fun m => absurd (.inl rfl) m⟩
                  exact ⟨g16, k16, Lib.hid ⟨a2, LX.out.1.setCell (p := ⟨bM, 0, none⟩) (Nat.le_refl _) _, (Below.heap_setCell _ _ _ _ (fun e => AG.out.1 e.symm)).trans LX.out.2.1, by simpa using LX.out.2.2⟩⟩
                · refine step_of _ [0, 1, 2, 3, 4, 5, 6, 7] [(9, 8)] rfl (by kernel_rfl) (by kernel_rfl) ?_
                  rintro D a X hn hd hc ⟨t57, t58, t59, t60, t61, t62, t63, t64, t65, g15, g16, k16, rfl, _, hrest⟩ K' hK
                  have nl : ¬ D 9 := fun h => hn (hc (9, 8) (by simp) h)
                  obtain ⟨LX, c0, c1, c2, c3, c4, c5, c6, c7, c8, cO⟩ := hrest nl
                  clear hrest
                  have d0 := hd 0 (by simp)
                  have d1 := hd 1 (by simp)
                  have d2 := hd 2 (by simp)
                  have d3 := hd 3 (by simp)
                  have d4 := hd 4 (by simp)
                  have d5 := hd 5 (by simp)
                  have d6 := hd 6 (by simp)
                  have d7 := hd 7 (by simp)
                  clear hd hc
                  go_simp
                  refine hK _ _ ⟨_, _, _, _, _, _, _, _, _, g15, g16, k16, by first | rfl | simp [Act.put], fun h => (nl (h.resolve_left (by decide))).elim, fun _ => ⟨LX, ?c0, ?c1, ?c2, ?c3, ?c4, ?c5, ?c6, ?c7, ?c8, ?cO⟩⟩
                  case c0 => exact fun h0 => c0 (h0.resolve_left (by decide))
                  case c1 => exact fun h1 => c1 (h1.resolve_left (by decide))
                  case c2 => exact fun h2 => c2 (h2.resolve_left (by decide))
                  case c3 => exact fun h3 => c3 (h3.resolve_left (by decide))
                  case c4 => exact fun h4 => c4 (h4.resolve_left (by decide))
                  case c5 => exact fun h5 => c5 (h5.resolve_left (by decide))
                  case c6 => exact fun h6 m7 => c6 (h6.resolve_left (by decide)) (fun q => m7 (.inr q))
                  case c7 => exact fun h7 => c7 (h7.resolve_left (by decide))
                  case c8 => exact fun h8 => rfl
                  case cO => exact fun m7 => cO (fun q => m7 (.inr q))
                · refine step_of _ [1, 6] [(9, 7)] rfl (by kernel_rfl) (by kernel_rfl) ?_
                  rintro D a X hn hd hc ⟨t57, t58, t59, t60, t61, t62, t63, t64, t65, g15, g16, k16, rfl, _, hrest⟩ K' hK
                  have nl : ¬ D 9 := fun h => hn (hc (9, 7) (by simp) h)
                  obtain ⟨LX, c0, c1, c2, c3, c4, c5, c6, c7, c8, cO⟩ := hrest nl
                  clear hrest
                  have d1 := hd 1 (by simp)
                  have d6 := hd 6 (by simp)
                  clear hd hc
                  have hbX : bM ≤ X.heap.size := Nat.le_trans hbM3 LX.out.1.size
                  obtain rfl := (c1 d1).symm
                  obtain ⟨rfl, r15⟩ := c6 d6 hn
                  have hO := cO hn
                  have hOr := hO.r1
                  rw [HL1.out] at hOr
                  refine step_append_lies _ (by rfl) _ _ _ (by rfl) (bM + 1) 134 i0 _ 2 16 Try.underlying57 hi hz0 hz1 hz2 rfl (by omega) va k (cellsF X1) (by rfl) hOr ⟨g15, 0, none⟩ 1 1 [.int .i64 x, .int .i64 y] (by rfl) (by rfl) (World.news_of_block (cs := #[.int .i64 x, .int .i64 y]) (t := 134) (fr := (0, 0)) r15.2) (by simp [Value.oneCell']) (by omega) (by unfold maxLen; omega) (by omega) (by have := hO.box.1; omega) X.heap.size rfl ?_
                  intro g16' k16' X5 hown hgrow hat hlt
                  have hA := hO.app1 HL1.out hown hgrow hat
                  refine hK _ _ ⟨_, _, _, _, _, _, _, _, _, g15, g16', k16', by first | rfl | simp [Act.put], fun h => (nl (h.resolve_left (by decide))).elim, fun _ => ⟨Lib.hid ⟨LX.out.1.grown hgrow hbX (fun q hq => by have := (hOr.lt q hq).1; omega), (hgrow.block bh LX.out.2.2 (fun e => AG.out.2.1 e.symm)).trans LX.out.2.1, Nat.lt_of_lt_of_le LX.out.2.2 hgrow.size⟩, ?c0, ?c1, ?c2, ?c3, ?c4, ?c5, ?c6, ?c7, ?c8, ?cO⟩⟩
                  case c0 => exact fun h0 => c0 (h0.resolve_left (by decide))
                  case c1 => exact fun h1 => c1 (h1.resolve_left (by decide))
                  case c2 => exact fun h2 => c2 (h2.resolve_left (by decide))
                  case c3 => exact fun h3 => c3 (h3.resolve_left (by decide))
                  case c4 => exact fun h4 => c4 (h4.resolve_left (by decide))
                  case c5 => exact fun h5 => c5 (h5.resolve_left (by decide))
                  case c6 => exact fun h6 m7 => absurd (.inl rfl) m7
                  case c7 => exact fun h7 => ⟨rfl, hA⟩
                  case c8 => exact fun h8 => c8 (h8.resolve_left (by decide))
                  case cO => exact fun m7 => absurd (.inl rfl) m7
                · refine step_of _ [5] [(9, 6), (7, 6)] rfl (by kernel_rfl) (by kernel_rfl) ?_
                  rintro D a X hn hd hc ⟨t57, t58, t59, t60, t61, t62, t63, t64, t65, g15, g16, k16, rfl, _, hrest⟩ K' hK
                  have nl : ¬ D 9 := fun h => hn (hc (9, 6) (by simp) h)
                  obtain ⟨LX, c0, c1, c2, c3, c4, c5, c6, c7, c8, cO⟩ := hrest nl
                  clear hrest
                  have d5 := hd 5 (by simp)
                  have e7_6 := hc (7, 6) (by simp)
                  clear hd hc
                  have hbX : bM ≤ X.heap.size := Nat.le_trans hbM3 LX.out.1.size
                  obtain rfl := c5 d5
                  have l := al X (.cells #[.int .i64 x, .int .i64 y] 134)
                  go_simp
                  refine hK _ _ ⟨_, _, _, _, _, _, _, _, _, X.heap.size, g16, k16, by first | rfl | simp [Act.put], fun h => (nl (h.resolve_left (by decide))).elim, fun _ => ⟨Lib.hid ⟨lo_b LX.out.1 l hbX, (l.block bh LX.out.2.2).trans LX.out.2.1, Nat.lt_of_lt_of_le LX.out.2.2 l.size⟩, ?c0, ?c1, ?c2, ?c3, ?c4, ?c5, ?c6, ?c7, ?c8, ?cO⟩⟩
                  case c0 => exact fun h0 => c0 (h0.resolve_left (by decide))
                  case c1 => exact fun h1 => c1 (h1.resolve_left (by decide))
                  case c2 => exact fun h2 => c2 (h2.resolve_left (by decide))
                  case c3 => exact fun h3 => c3 (h3.resolve_left (by decide))
                  case c4 => exact fun h4 => c4 (h4.resolve_left (by decide))
                  case c5 => exact fun h5 => c5 (h5.resolve_left (by decide))
                  case c6 => exact fun h6 m7 => ⟨rfl, lit2_new X x y⟩
                  case c7 => exact fun h7 => (hn (e7_6 (h7.resolve_left (by decide)))).elim
                  case c8 => exact fun h8 => c8 (h8.resolve_left (by decide))
                  case cO => exact fun m7 => (cO (fun q => m7 (.inr q))).lo l
                · refine step_of _ [4] [(9, 5)] rfl (by kernel_rfl) (by kernel_rfl) ?_
                  rintro D a X hn hd hc ⟨t57, t58, t59, t60, t61, t62, t63, t64, t65, g15, g16, k16, rfl, _, hrest⟩ K' hK
                  have nl : ¬ D 9 := fun h => hn (hc (9, 5) (by simp) h)
                  obtain ⟨LX, c0, c1, c2, c3, c4, c5, c6, c7, c8, cO⟩ := hrest nl
                  clear hrest
                  have d4 := hd 4 (by simp)
                  clear hd hc
                  obtain rfl := c4 d4
                  obtain ⟨y0, y1⟩ := CEQ.out X LX.out.1
                  go_simp
                  refine hK _ _ ⟨_, _, _, _, _, _, _, _, _, g15, g16, k16, by first | rfl | simp [Act.put], fun h => (nl (h.resolve_left (by decide))).elim, fun _ => ⟨LX, ?c0, ?c1, ?c2, ?c3, ?c4, ?c5, ?c6, ?c7, ?c8, ?cO⟩⟩
                  case c0 => exact fun h0 => c0 (h0.resolve_left (by decide))
                  case c1 => exact fun h1 => c1 (h1.resolve_left (by decide))
                  case c2 => exact fun h2 => c2 (h2.resolve_left (by decide))
                  case c3 => exact fun h3 => c3 (h3.resolve_left (by decide))
                  case c4 => exact fun h4 => c4 (h4.resolve_left (by decide))
                  case c5 => exact fun h5 => rfl
                  case c6 => exact fun h6 m7 => c6 (h6.resolve_left (by decide)) (fun q => m7 (.inr q))
                  case c7 => exact fun h7 => c7 (h7.resolve_left (by decide))
                  case c8 => exact fun h8 => c8 (h8.resolve_left (by decide))
                  case cO => exact fun m7 => cO (fun q => m7 (.inr q))
                · refine step_of _ [3] [(9, 4)] rfl (by kernel_rfl) (by kernel_rfl) ?_
                  rintro D a X hn hd hc ⟨t57, t58, t59, t60, t61, t62, t63, t64, t65, g15, g16, k16, rfl, _, hrest⟩ K' hK
                  have nl : ¬ D 9 := fun h => hn (hc (9, 4) (by simp) h)
                  obtain ⟨LX, c0, c1, c2, c3, c4, c5, c6, c7, c8, cO⟩ := hrest nl
                  clear hrest
                  have d3 := hd 3 (by simp)
                  clear hd hc
                  obtain rfl := c3 d3
                  go_simp
                  refine hK _ _ ⟨_, _, _, _, _, _, _, _, _, g15, g16, k16, by first | rfl | simp [Act.put], fun h => (nl (h.resolve_left (by decide))).elim, fun _ => ⟨LX, ?c0, ?c1, ?c2, ?c3, ?c4, ?c5, ?c6, ?c7, ?c8, ?cO⟩⟩
                  case c0 => exact fun h0 => c0 (h0.resolve_left (by decide))
                  case c1 => exact fun h1 => c1 (h1.resolve_left (by decide))
                  case c2 => exact fun h2 => c2 (h2.resolve_left (by decide))
                  case c3 => exact fun h3 => c3 (h3.resolve_left (by decide))
                  case c4 => exact fun h4 => rfl
                  case c5 => exact fun h5 => c5 (h5.resolve_left (by decide))
                  case c6 => exact fun h6 m7 => c6 (h6.resolve_left (by decide)) (fun q => m7 (.inr q))
                  case c7 => exact fun h7 => c7 (h7.resolve_left (by decide))
                  case c8 => exact fun h8 => c8 (h8.resolve_left (by decide))
                  case cO => exact fun m7 => cO (fun q => m7 (.inr q))
                · refine step_of _ [2] [(9, 3)] rfl (by kernel_rfl) (by kernel_rfl) ?_
                  rintro D a X hn hd hc ⟨t57, t58, t59, t60, t61, t62, t63, t64, t65, g15, g16, k16, rfl, _, hrest⟩ K' hK
                  have nl : ¬ D 9 := fun h => hn (hc (9, 3) (by simp) h)
                  obtain ⟨LX, c0, c1, c2, c3, c4, c5, c6, c7, c8, cO⟩ := hrest nl
                  clear hrest
                  have d2 := hd 2 (by simp)
                  clear hd hc
                  obtain rfl := c2 d2
                  go_simp
                  refine hK _ _ ⟨_, _, _, _, _, _, _, _, _, g15, g16, k16, by first | rfl | simp [Act.put], fun h => (nl (h.resolve_left (by decide))).elim, fun _ => ⟨LX, ?c0, ?c1, ?c2, ?c3, ?c4, ?c5, ?c6, ?c7, ?c8, ?cO⟩⟩
                  case c0 => exact fun h0 => c0 (h0.resolve_left (by decide))
                  case c1 => exact fun h1 => c1 (h1.resolve_left (by decide))
                  case c2 => exact fun h2 => c2 (h2.resolve_left (by decide))
                  case c3 => exact fun h3 => rfl
                  case c4 => exact fun h4 => c4 (h4.resolve_left (by decide))
                  case c5 => exact fun h5 => c5 (h5.resolve_left (by decide))
                  case c6 => exact fun h6 m7 => c6 (h6.resolve_left (by decide)) (fun q => m7 (.inr q))
                  case c7 => exact fun h7 => c7 (h7.resolve_left (by decide))
                  case c8 => exact fun h8 => c8 (h8.resolve_left (by decide))
                  case cO => exact fun m7 => cO (fun q => m7 (.inr q))
                · refine step_of _ [] [(9, 2)] rfl (by kernel_rfl) (by kernel_rfl) ?_
                  rintro D a X hn hd hc ⟨t57, t58, t59, t60, t61, t62, t63, t64, t65, g15, g16, k16, rfl, _, hrest⟩ K' hK
                  have nl : ¬ D 9 := fun h => hn (hc (9, 2) (by simp) h)
                  obtain ⟨LX, c0, c1, c2, c3, c4, c5, c6, c7, c8, cO⟩ := hrest nl
                  clear hrest
                  clear hd hc
                  go_simp
                  refine hK _ _ ⟨_, _, _, _, _, _, _, _, _, g15, g16, k16, by first | rfl | simp [Act.put], fun h => (nl (h.resolve_left (by decide))).elim, fun _ => ⟨LX, ?c0, ?c1, ?c2, ?c3, ?c4, ?c5, ?c6, ?c7, ?c8, ?cO⟩⟩
                  case c0 => exact fun h0 => c0 (h0.resolve_left (by decide))
                  case c1 => exact fun h1 => c1 (h1.resolve_left (by decide))
                  case c2 => exact fun h2 => rfl
                  case c3 => exact fun h3 => c3 (h3.resolve_left (by decide))
                  case c4 => exact fun h4 => c4 (h4.resolve_left (by decide))
                  case c5 => exact fun h5 => c5 (h5.resolve_left (by decide))
                  case c6 => exact fun h6 m7 => c6 (h6.resolve_left (by decide)) (fun q => m7 (.inr q))
                  case c7 => exact fun h7 => c7 (h7.resolve_left (by decide))
                  case c8 => exact fun h8 => c8 (h8.resolve_left (by decide))
                  case cO => exact fun m7 => cO (fun q => m7 (.inr q))
                · refine step_of _ [0] [(9, 1), (7, 1)] rfl (by kernel_rfl) (by kernel_rfl) ?_
                  rintro D a X hn hd hc ⟨t57, t58, t59, t60, t61, t62, t63, t64, t65, g15, g16, k16, rfl, _, hrest⟩ K' hK
                  have nl : ¬ D 9 := fun h => hn (hc (9, 1) (by simp) h)
                  obtain ⟨LX, c0, c1, c2, c3, c4, c5, c6, c7, c8, cO⟩ := hrest nl
                  clear hrest
                  have d0 := hd 0 (by simp)
                  have e7_1 := hc (7, 1) (by simp)
                  clear hd hc
                  obtain rfl := c0 d0
                  obtain ⟨⟨hbx, o0, o1⟩, ofz, _, _, _⟩ := cO (fun h => hn (e7_1 h))
                  go_simp
                  refine hK _ _ ⟨_, _, _, _, _, _, _, _, _, g15, g16, k16, by first | rfl | simp [Act.put], fun h => (nl (h.resolve_left (by decide))).elim, fun _ => ⟨LX, ?c0, ?c1, ?c2, ?c3, ?c4, ?c5, ?c6, ?c7, ?c8, ?cO⟩⟩
                  case c0 => exact fun h0 => c0 (h0.resolve_left (by decide))
                  case c1 => exact fun h1 => rfl
                  case c2 => exact fun h2 => c2 (h2.resolve_left (by decide))
                  case c3 => exact fun h3 => c3 (h3.resolve_left (by decide))
                  case c4 => exact fun h4 => c4 (h4.resolve_left (by decide))
                  case c5 => exact fun h5 => c5 (h5.resolve_left (by decide))
                  case c6 => exact fun h6 m7 => c6 (h6.resolve_left (by decide)) (fun q => m7 (.inr q))
                  case c7 => exact fun h7 => c7 (h7.resolve_left (by decide))
                  case c8 => exact fun h8 => c8 (h8.resolve_left (by decide))
                  case cO => exact fun m7 => cO (fun q => m7 (.inr q))
                · refine step_of _ [] [(9, 0)] rfl (by kernel_rfl) (by kernel_rfl) ?_
                  rintro D a X hn hd hc ⟨t57, t58, t59, t60, t61, t62, t63, t64, t65, g15, g16, k16, rfl, _, hrest⟩ K' hK
                  have nl : ¬ D 9 := fun h => hn (hc (9, 0) (by simp) h)
                  obtain ⟨LX, c0, c1, c2, c3, c4, c5, c6, c7, c8, cO⟩ := hrest nl
                  clear hrest
                  clear hd hc
                  go_simp
                  refine hK _ _ ⟨_, _, _, _, _, _, _, _, _, g15, g16, k16, by first | rfl | simp [Act.put], fun h => (nl (h.resolve_left (by decide))).elim, fun _ => ⟨LX, ?c0, ?c1, ?c2, ?c3, ?c4, ?c5, ?c6, ?c7, ?c8, ?cO⟩⟩
                  case c0 => exact fun h0 => rfl
                  case c1 => exact fun h1 => c1 (h1.resolve_left (by decide))
                  case c2 => exact fun h2 => c2 (h2.resolve_left (by decide))
                  case c3 => exact fun h3 => c3 (h3.resolve_left (by decide))
                  case c4 => exact fun h4 => c4 (h4.resolve_left (by decide))
                  case c5 => exact fun h5 => c5 (h5.resolve_left (by decide))
                  case c6 => exact fun h6 m7 => c6 (h6.resolve_left (by decide)) (fun q => m7 (.inr q))
                  case c7 => exact fun h7 => c7 (h7.resolve_left (by decide))
                  case c8 => exact fun h8 => c8 (h8.resolve_left (by decide))
                  case cO => exact fun m7 => cO (fun q => m7 (.inr q))
              · rintro D a X hall ⟨t57, t58, t59, t60, t61, t62, t63, t64, t65, g15, g16, k16, rfl, hfin, _⟩
                have HFIN := Lib.hid (hfin (hall 9 (by decide)))
                clear hfin hall
                obtain ⟨qq, cp, HF⟩ := HFIN.out
                clear HFIN
                obtain ⟨z0, hz0'⟩ : ∃ z, hungR S K (2 * q) = z := ⟨_, rfl⟩
                obtain ⟨z1, hz1'⟩ : ∃ z, hungR S K (2 * q + 1) = z := ⟨_, rfl⟩
                rw [hz0', hz1'] at HY1
                have n0 := NH.out.at_ 0 (by omega)
                have n1 := NH.out.at_ 1 (by omega)
                simp only [Nat.add_zero] at n0 n1
                rw [hz0'] at n0
                rw [hz1'] at n1
                have k0 : X.cell? ⟨bh, 0, none⟩ = some (.int .i64 z0) := (World.cell?_of_block HF.out.2.2.1).trans n0
                have k1 : X.cell? ⟨bh, 1, none⟩ = some (.int .i64 z1) := (World.cell?_of_block HF.out.2.2.1).trans n1
                have hO := Lib.hid (HF.out.1.lo (al X (.cells #[.int .i64 z0, .int .i64 z1] 134)))
                obtain ⟨⟨hbx, o0, o1⟩, ofz, _, _, _⟩ := HF.out.1
                have hOr := hO.out.r2
                rw [HL2.out] at hOr
                have LX5 := Lib.hid (HF.out.2.1)
                have hbhX := HF.out.2.2.2
                clear n0 n1 hz0' hz1' HF NH
                go_wp2_with (at_builtin; refine wpList_append_lies _ rfl _ _ 57 rfl (bM + 1) 134 i0 (.agg #[.int .i64 0, .int .i64 0]) 2 16 Try.underlying57 hi hz0 hz1 hz2 rfl (by decide) vb k (cellsF Y1) rfl hOr ⟨X.heap.size, 0, none⟩ 1 1 (cellsF [(z0, z1)]) rfl rfl (two_new _ _ _ _) (cellsF_one _) (by omega) (by unfold maxLen; omega) (by omega) (by simp; omega) (X.heap.size + 1) (by simp) ?_; intro g5 cap5 w5 hown5 hgrow5 hat5 hlt5; obtain ⟨⟨a0, a1⟩, a2⟩ := hO.out.app2 HL2.out hown5 hgrow5 (hat5.imp id (fun h => by rw [h]; simp)))
                have HON := Lib.hid a2
                have HWN := Lib.hid (show Below bM W3 (w5.setCell ⟨bM, 1, none⟩ (.slice (some ⟨g5, 0, none⟩) (k + 1) cap5)) from
                  ((LX5.out.alloc (by omega) (.cells #[.int .i64 z0, .int .i64 z1] 134)).grown hgrow5 (by simp; omega) (fun q hq => by have := (hOr.lt q hq).1; omega)).setCell (p := ⟨bM, 1, none⟩) (Nat.le_refl _) _)
                clear hown5 hgrow5 hat5 hlt5 hOr hO a2 k0 k1 o0 o1 ofz
                go_wp2
                go_roundw
                case rel => exact ⟨k + 1, _, _, by omega, by go_num, by rw [HX1.out, HY1.out]; exact HON, HWN⟩
                case measure => simp [intOf]; omega
        · obtain rfl : k = K.length := by omega
          have hge : ¬ (K.length : Int) < (K.length : Int) := by omega
          have LQ' := Lib.hid (show Below wq.heap.size wq wr0 by rw [HBM.out]; exact LM.out.trans HW.out)
          have T1 : (madeAm S K).take K.length = madeAm S K := List.take_of_length_le (by simp [madeAm])
          have T2 : (madeHu S K).take K.length = madeHu S K := List.take_of_length_le (by simp [madeHu])
          rw [T1, T2] at HO
          obtain ⟨aa, ac, ba, bc, hva, hvb⟩ := HO.out.form
          generalize hlA : (madeAm S K).length = lA at hva
          generalize hlB : (madeHu S K).length = lB at hvb
          subst hva hvb
          clear hlA hlB
          have EM : (⟨madeAm S K, madeHu S K⟩ : MobV) = madeR n S := by unfold madeR; rw [HKK.out]
          have D := Lib.hid (isMobile_any (.agg #[.slice aa lA ac, .slice ba lB bc]) (madeR n S) wr0 (by rw [← EM]; exact ⟨_, _, rfl, loadRow_a2 HO.out.r1, loadRow_a2 HO.out.r2⟩) (madeR_small h6) (madeR_bnd hB h6))
          have LA := Lib.hid (show Below B w wr0 from HSq.out.lo.trans (LQ'.out.mono (by have := HSq.out.lo.size; omega)))
          have BQ := Lib.hid (HSq.out.box.lo LQ'.out)
          have FQ := Lib.hid (show ∀ j, wr0.frozen? ⟨w.heap.size, j, none⟩ = false from fun j => (LQ'.out.frozen (p := ⟨w.heap.size, j, none⟩) HSq.out.box.1).trans (HSq.out.fz j))
          have hwb : w.heap.size < bM := by have := HSq.out.box.1; have := HBM.out; omega
          obtain ⟨r, hr⟩ : ∃ r, goodB (madeR n S) = r := ⟨_, rfl⟩
          have HKm := Lib.hid (show keptM (madeR n S) = if r = true then ⟨madeAm S K, madeHu S K⟩ else nilM by unfold keptM; rw [hr, EM])
          have HR0 := Lib.hid hr
          rw [hr] at D
          clear hr EM
          obtain ⟨⟨_, o0, o1⟩, _, _, _, _⟩ := HO.out
          clear T1 T2 LQ' HSq HW LM HKK
          go_wp2_with fail
          refine D.out.mono ?_
          rintro e' w1 ⟨rfl, l1⟩
          have HO2 := Lib.hid (HO.out.lo l1)
          obtain ⟨by0, y0, y1⟩ := BQ.out.lo l1
          have fy0 : w1.frozen? ⟨w.heap.size, 0, none⟩ = false := (l1.frozen (p := ⟨w.heap.size, 0, none⟩) BQ.out.1).trans (FQ.out 0)
          have fy1 : w1.frozen? ⟨w.heap.size, 1, none⟩ = false := (l1.frozen (p := ⟨w.heap.size, 1, none⟩) BQ.out.1).trans (FQ.out 1)
          have TSn := Lib.hid (two_set w1 w.heap.size 0 (.slice none 0 0) (.slice none 0 0) y0 y1)
          have TSy := Lib.hid (two_set w1 w.heap.size 0 (.slice aa lA ac) (.slice ba lB bc) y0 y1)
          have LF := Lib.hid (fun (x y : Value) => (LA.out.trans (l1.mono (by have := LA.out.size; omega))).setCell (p := ⟨w.heap.size, 0, none⟩) hBw x |>.setCell (p := ⟨w.heap.size, 1, none⟩) hBw y)
          have MN := Lib.hid (show MineMb ((w1.setCell ⟨w.heap.size, 0, none⟩ (.slice aa lA ac)).setCell ⟨w.heap.size, 1, none⟩ (.slice ba lB bc)) w.heap.size ((w1.setCell ⟨w.heap.size, 0, none⟩ (.slice aa lA ac)).setCell ⟨w.heap.size, 1, none⟩ (.slice ba lB bc)).heap.size (.agg #[.slice aa lA ac, .slice ba lB bc]) ⟨madeAm S K, madeHu S K⟩ from by
            have n1 : (Value.slice aa lA ac).ownBlock ≠ some w.heap.size := fun e => by have := (HO2.out.r1.lt _ e).1; omega
            have n2 : (Value.slice ba lB bc).ownBlock ≠ some w.heap.size := fun e => by have := (HO2.out.r2.lt _ e).1; omega
            exact ((HO2.out.far (g := w.heap.size) (o := 0) (x := .slice aa lA ac) (by omega) n1 n2).far (g := w.heap.size) (o := 1) (x := .slice ba lB bc) (by omega) n1 n2).mine (by omega))
          have hs2 : w.heap.size ≤ w1.heap.size := by omega
          obtain ⟨_, o0, o1⟩ := HO2.out.box
          clear l1 D HO HO2 LA BQ FQ
          cases r with
          | false =>
            go_wp2
            obtain ⟨q0, q1, _⟩ := TSn.out
            exact bodyPost_ret (v := .tuple #[.agg #[.slice none 0 0, .slice none 0 0], .bool false]) (by simp [results, Try.results143, go_sem, q0, q1]) rfl ⟨_, by rw [HR0.out], by rw [HKm.out, if_neg (by simp)]; exact minePl_nilM _ _ _ (by simpa using hs2), LF.out _ _⟩
          | true =>
            go_wp2
            obtain ⟨q0, q1, _⟩ := TSy.out
            exact bodyPost_ret (v := .tuple #[.agg #[.slice aa lA ac, .slice ba lB bc], .bool true]) (by simp [results, Try.results143, go_sem, q0, q1]) rfl ⟨_, by rw [HR0.out], by rw [HKm.out, if_pos trivial]; exact MN.out, LF.out _ _⟩
end
section
open Go.RowKit
theorem preR_be {S S' : RodF} (h : S.be = S'.be) : ∀ k i, preR S k i = preR S' k i := by
  intro k
  induction k with
  | zero => intro i; rfl
  | succ k ih => intro i; rw [preR, preR, h, ih, ih]
theorem range_getD (n j : Nat) (h : j < n) : (List.range n).getD j 0 = j := by simp [List.getD, h]
theorem range_idx (n j : Nat) (h : j < n) : (List.range n).idxOf j = j := by
  have := pos_at (List.pairwise_lt_range (n := n)) (k := j) (by simpa using h)
  rwa [range_getD n j h] at this
theorem range_map_list {α : Type} (xs : List α) (d : α) (n : Nat) (hn : xs.length = n) (f : Nat → α) (hf : ∀ j, j < n → f j = xs.getD j d) : (List.range n).map f = xs := by
  refine List.ext_getElem (by simp [hn]) (fun j h1 h2 => ?_)
  have hj : j < n := by simpa using h1
  rw [List.getElem_map, List.getElem_range, hf j hj, List.getD, List.getElem?_eq_getElem h2]
  rfl
/-- Rods that hold a mobile, whose rods hang as those of a good one: mobileOf makes that mobile. -/
theorem madeR_rodF {m q : MobV} (hf : MobF m) (hh : ∀ t, (rodF q).be t = (rodF m).be t) (hl : q.am.length = m.am.length) (hl2 : q.hu.length = m.am.length)
    (he : ∀ t, t < 2 * m.am.length → 0 < hvM q t ∨ hvM q t < 0) : madeR m.am.length (rodF q) = q := by
  have hk : keptR m.am.length (rodF q) = List.range m.am.length := by
    rw [← keptR_full hf]
    unfold keptR
    congr 1
    funext j
    rw [preR_be (S := rodF q) (S' := rodF m) (funext hh)]
  obtain ⟨am, hu⟩ := q
  unfold madeR
  rw [hk]
  have hlt : ∀ t, t < 2 * m.am.length → (rodF ⟨am, hu⟩).be t < m.am.length := fun t ht => by
    rw [hh]
    by_cases h0 : (rodF m).be t = 0
    · rw [h0]; have := hf.one; omega
    · exact ((wtR_rodF hf).down t ht h0).2
  have hR : ∀ t, t < 2 * m.am.length → hungR (rodF ⟨am, hu⟩) (List.range m.am.length) t = hvM ⟨am, hu⟩ t := fun t ht => by
    unfold hungR
    have h1 := he t ht
    have h2 := hlt t ht
    rw [range_idx _ _ h2]
    have hbe : (rodF ⟨am, hu⟩).be t = (-hvM ⟨am, hu⟩ t).toNat := rfl
    have hle : (rodF ⟨am, hu⟩).le t = if 0 < hvM ⟨am, hu⟩ t then hvM ⟨am, hu⟩ t else 0 := rfl
    by_cases h0 : (rodF ⟨am, hu⟩).be t = 0
    · rw [if_pos h0, hle, if_pos (by omega)]
    · rw [if_neg h0, hbe]; omega
  congr 1
  · unfold madeAm
    refine range_map_list am (0, 0) _ hl _ (fun j hj => ?_)
    show (avM ⟨am, hu⟩ (2 * j), avM ⟨am, hu⟩ (2 * j + 1)) = _
    simp only [avM]
    rw [if_pos (by omega), if_neg (by omega), show 2 * j / 2 = j by omega, show (2 * j + 1) / 2 = j by omega]
  · unfold madeHu
    refine range_map_list hu (0, 0) _ hl2 _ (fun j hj => ?_)
    rw [hR _ (by omega), hR _ (by omega)]
    simp only [hvM]
    rw [if_pos (by omega), if_neg (by omega), show 2 * j / 2 = j by omega, show (2 * j + 1) / 2 = j by omega]
theorem RodsIn.same {w : World} {B n : Nat} {b : Nat → Nat} {nu : Nat → Int} {S S' : RodF} (h : RodsIn w B 0 n b nu S) (ha : ∀ t, t < 2 * n → S.ar t = S'.ar t) (hl : ∀ t, t < 2 * n → S.le t = S'.le t) (hb : ∀ t, t < 2 * n → S.be t = S'.be t) : RodsIn w B 0 n b nu S' :=
  ⟨fun i h1 h2 => (h.rod i h1 h2).congr (fun e he => ha _ (by omega)) (fun e he => hl _ (by omega)) (fun e he => by rw [hb _ (by omega)]), h.far, h.apart⟩
def flipT (t : Nat) : Nat := 2 * (t / 2) + (1 - t % 2)
theorem flipT_div (t : Nat) : flipT t / 2 = t / 2 := by unfold flipT; omega
theorem flipT_mod (t : Nat) : flipT t % 2 = 1 - t % 2 := by unfold flipT; omega
theorem flipT_at (i e : Nat) (he : e < 2) : flipT (2 * i + e) = 2 * i + (1 - e) := by unfold flipT; omega
def swapM (m : MobV) : MobV := ⟨swapL m.am, swapL m.hu⟩
theorem swap_getD (xs : List (Int × Int)) (k : Nat) : (swapL xs).getD k (0, 0) = ((xs.getD k (0, 0)).2, (xs.getD k (0, 0)).1) := by
  unfold swapL
  by_cases h : k < xs.length
  · simp [List.getD, h]
  · simp [List.getD, h]
theorem hvM_swap (m : MobV) (t : Nat) : hvM (swapM m) t = hvM m (flipT t) := by
  unfold hvM
  rw [flipT_div, flipT_mod]
  simp only [swapM, swap_getD]
  rcases Nat.mod_two_eq_zero_or_one t with h | h <;> rw [h] <;> simp
theorem avM_swap (m : MobV) (t : Nat) : avM (swapM m) t = avM m (flipT t) := by
  unfold avM
  rw [flipT_div, flipT_mod]
  simp only [swapM, swap_getD]
  rcases Nat.mod_two_eq_zero_or_one t with h | h <;> rw [h] <;> simp
theorem cntM_swap (m : MobV) (j : Nat) : ∀ k, cntM (swapM m) (2 * k) j = cntM m (2 * k) j := by
  intro k
  induction k with
  | zero => rfl
  | succ k ih =>
    show cntM (swapM m) (2 * k + 1 + 1) j = cntM m (2 * k + 1 + 1) j
    rw [cntM, cntM, cntM, cntM, ih, hvM_swap, hvM_swap, show flipT (2 * k) = 2 * k + 1 by unfold flipT; omega, show flipT (2 * k + 1) = 2 * k by unfold flipT; omega]
    omega
theorem mobF_swap {m : MobV} (hf : MobF m) : MobF (swapM m) where
  one := by rw [show (swapM m).am.length = m.am.length from swap_len _]; exact hf.one
  short := by rw [show (swapM m).am.length = m.am.length from swap_len _]; exact hf.short
  same := by rw [show (swapM m).am.length = m.am.length from swap_len _, show (swapM m).hu.length = m.hu.length from swap_len _]; exact hf.same
  ends := fun t ht => by
    rw [show (swapM m).am.length = m.am.length from swap_len _] at ht
    have := hf.ends (flipT t) (by unfold flipT; omega)
    unfold EndF at this ⊢
    rw [hvM_swap, avM_swap, show (swapM m).am.length = m.am.length from swap_len _]
    rw [flipT_div] at this
    exact this
  once := fun j h1 h2 => by
    rw [show (swapM m).am.length = m.am.length from swap_len _] at h2 ⊢
    rw [cntM_swap]
    exact hf.once j h1 h2
/-- The first k rods have been turned. -/
def mirR (S : RodF) (k : Nat) : RodF := ⟨fun t => if t / 2 < k then S.ar (flipT t) else S.ar t, fun t => if t / 2 < k then S.le (flipT t) else S.le t, fun t => if t / 2 < k then S.be (flipT t) else S.be t⟩
theorem mirR_at (S : RodF) (k i e : Nat) (he : e < 2) : (mirR S k).ar (2 * i + e) = (if i < k then S.ar (2 * i + (1 - e)) else S.ar (2 * i + e)) ∧ (mirR S k).le (2 * i + e) = (if i < k then S.le (2 * i + (1 - e)) else S.le (2 * i + e)) ∧ (mirR S k).be (2 * i + e) = (if i < k then S.be (2 * i + (1 - e)) else S.be (2 * i + e)) := by
  refine ⟨?_, ?_, ?_⟩ <;> simp only [mirR, flipT_at _ _ he, show (2 * i + e) / 2 = i by omega]
theorem RodsIn.turned {w : World} {B : Nat} {b : Nat → Nat} {nu : Nat → Int} {m : MobV} (h : RodsIn w B 0 m.am.length b nu (mirR (rodF m) m.am.length)) : RodsIn w B 0 m.am.length b nu (rodF (swapM m)) := by
  refine h.same (fun t ht => ?_) (fun t ht => ?_) (fun t ht => ?_)
  · simp only [mirR, rodF]; rw [if_pos (by omega), avM_swap]
  · simp only [mirR, rodF]; rw [if_pos (by omega), hvM_swap]
  · simp only [mirR, rodF]; rw [if_pos (by omega), hvM_swap]
end
section
open Go.RowKit
/-- Rods of a call's own, in a row of pointers. -/
structure RodSt (w0 w : World) (B g n : Nat) (b : Nat → Nat) (S : RodF) : Prop where
  rods : RodsIn w B 0 n b (fun i => (i : Int)) S
  row : ∀ j, j < n → w.cell? ⟨g, j, none⟩ = some (.pointer (some ⟨b j, 0, none⟩))
  gl : g < w.heap.size
  ap : ∀ i, i < n → b i ≠ g
  lo : Below B w0 w
theorem RodSt.of {w w' : World} {g n : Nat} {b : Nat → Nat} {S : RodF} (h : RodsTo w' w.heap.size g 0 n b S) (l : Below w.heap.size w w') : RodSt w w' w.heap.size g n b S :=
  ⟨h.rods, fun j hj => by have := h.row j hj; rwa [if_neg (by omega)] at this, h.lt, fun i hi => h.apart i (by omega) hi, l⟩
theorem bndR_rodF {q : MobV} {n : Nat} (ha : ∀ t, t < 2 * n → -9223372036854775808 ≤ avM q t ∧ avM q t ≤ 9223372036854775807) (hh : ∀ t, t < 2 * n → -9223372036854775808 ≤ hvM q t ∧ hvM q t ≤ 9223372036854775807) : BndR n (rodF q) := by
  refine ⟨ha, fun t ht => ?_⟩
  have := hh t ht
  simp only [rodF]
  split <;> omega
theorem bndR_good {q : MobV} (hf : MobF q) : BndR q.am.length (rodF q) := by
  have h6 := hf.short
  refine bndR_rodF (fun t ht => ?_) (fun t ht => ?_)
  · have := (hf.ends t ht).1; omega
  · have := (hf.ends t ht).2; omega
theorem part_set (w : World) (g j : Nat) (x : Value) : Part g (g + 1) w (w.setCell ⟨g, j, none⟩ x) := by
  have b := only_set w g j x
  exact ⟨b.os, b.tape, b.output, b.size, fun k hk ho => b.block k (by omega) hk⟩
/-- Rods of which one has turned alone. -/
theorem RodsIn.one {w w' : World} {B n q : Nat} {b : Nat → Nat} {nu : Nat → Int} {S S' : RodF} (h : RodsIn w B 0 n b nu S) (hq : q < n) (ho : Only (b q) w w')
    (hr : RodAt w' b (b q) (nu q) (fun e => S'.ar (2 * q + e)) (fun e => S'.le (2 * q + e)) (fun e => S'.be (2 * q + e)))
    (hs : ∀ i e, i < n → e < 2 → i ≠ q → S.ar (2 * i + e) = S'.ar (2 * i + e) ∧ S.le (2 * i + e) = S'.le (2 * i + e) ∧ S.be (2 * i + e) = S'.be (2 * i + e)) : RodsIn w' B 0 n b nu S' where
  rod := fun i h1 h2 => by
    by_cases e : i = q
    · subst e; exact hr
    · refine (((h.rod i h1 h2).keep ho.size (ho.block _ (fun e2 => e (h.apart i q h1 h2 (by omega) hq e2)) (h.rod i h1 h2).lt))).congr (fun e2 he => (hs i e2 h2 he e).1) (fun e2 he => (hs i e2 h2 he e).2.1) (fun e2 he => by rw [(hs i e2 h2 he e).2.2])
  far := h.far
  apart := h.apart
theorem RodSt.far {w0 w w' : World} {g n : Nat} {b : Nat → Nat} {S : RodF} (h : RodSt w0 w w0.heap.size g n b S) (l : Below w.heap.size w w') : RodSt w0 w' w0.heap.size g n b S :=
  ⟨h.rods.lo l, fun j hj => (l.cell (p := ⟨g, j, none⟩) h.gl).trans (h.row j hj), Nat.lt_of_lt_of_le h.gl l.size, h.ap, lo_on h.lo l⟩
end
end Go.Proofs.Ythncgcdnljoakaa
