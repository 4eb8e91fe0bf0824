/- A pile handed on if it is valid, and piles made from others: the program's. -/
import Derived.Test.YthihamjgfemacaaPile9
namespace Go.Proofs.Ythihamjgfemacaa
open Go.RowKit
/-- What is handed on. -/
noncomputable def keptV (v : Value) (p : PileV) : Value := if pileB p = true then v else .agg #[.int .i64 0, .slice none 0 0, .slice none 0 0]
theorem kept_row {w : World} {v : Value} {p : PileV} (h : PileRow w v p) : PileRow w (keptV v p) (keptP true p) := by
  unfold keptV keptP
  cases hq : pileB p with
  | true => simpa using h
  | false => simpa using pileRow_nil w
theorem kept_mine {w : World} {B E : Nat} {v : Value} {p : PileV} (h : MinePl w B E v p) (hE : B ≤ E) : MinePl w B E (keptV v p) (keptP true p) := by
  unfold keptV keptP
  cases hq : pileB p with
  | true => simpa using h
  | false => simpa using minePl_nil w B E hE
theorem cap_nil : PileCap (.agg #[.int .i64 0, .slice none 0 0, .slice none 0 0]) := ⟨_, _, _, _, _, _, _, rfl, Nat.le_refl _, Nat.le_refl _⟩
theorem kept_cap {v : Value} {p : PileV} (h : PileCap v) : PileCap (keptV v p) := by
  unfold keptV
  split
  · exact h
  · exact cap_nil
theorem kept_no (b : Bool) (p : PileV) (h : b = false) : keptP b p = nilP := by unfold keptP; rw [h]; rfl
set_option maxRecDepth 100000 in
set_option maxHeartbeats 1600000 in
theorem validPile_any (v : Value) (p : PileV) (w : World) (hv : PileRow w v p) (hs : SmallP p) :
    Calls Try.prog 136 #[v] w fun e w' => e = .returned (.tuple #[keptV v p, .bool (pileB p)]) ∧ Below w.heap.size w w' := by
  obtain ⟨a, b, c, d, rfl⟩ := hv.form
  obtain ⟨W, hW⟩ : ∃ W, (w.alloc (.cells #[.int .i64 p.wd, .slice a p.ls.length c, .slice b p.ws.length d] 63)).alloc (.cells #[.int .i64 0, .slice none 0 0, .slice none 0 0] 63) = W := ⟨_, rfl⟩
  have LW := Lib.hid (show Below w.heap.size w W by rw [← hW]; exact ((Below.refl _ _).alloc (Nat.le_refl _) _).alloc (by simp) _)
  have BX := Lib.hid (show Box3 W w.heap.size (.int .i64 p.wd) (.slice a p.ls.length c) (.slice b p.ws.length d) by rw [← hW]; exact (box3_new _ _ _ _ _).lo ((Below.refl _ _).alloc (Nat.le_refl _) _))
  have BY := Lib.hid (show Box3 W (w.heap.size + 1) (.int .i64 0) (.slice none 0 0) (.slice none 0 0) by rw [← hW]; have := box3_new (w.alloc (.cells #[.int .i64 p.wd, .slice a p.ls.length c, .slice b p.ws.length d] 63)) (.int .i64 0) (.slice none 0 0) (.slice none 0 0) 63; simpa using this)
  have FY := Lib.hid (show ∀ j, W.frozen? ⟨w.heap.size + 1, j, none⟩ = false by rw [← hW]; exact fun j => World.frozen?_alloc_at _ _ _ _ (by simp))
  have D := Lib.hid (isPile_any _ p W (hv.lo LW.out) hs)
  have HK := Lib.hid (show keptV (.agg #[.int .i64 p.wd, .slice a p.ls.length c, .slice b p.ws.length d]) p = if pileB p = true then .agg #[.int .i64 p.wd, .slice a p.ls.length c, .slice b p.ws.length d] else .agg #[.int .i64 0, .slice none 0 0, .slice none 0 0] from rfl)
  obtain ⟨k, hk⟩ : ∃ k, keptV (.agg #[.int .i64 p.wd, .slice a p.ls.length c, .slice b p.ws.length d]) p = k := ⟨_, rfl⟩
  rw [hk] at HK ⊢
  generalize pileB p = q at *
  clear hv hs hk
  obtain ⟨_, u0, u1, u2⟩ := BX.out
  go_enter Try.func136, Try.ntmps136
  go_wp2_with fail
  clear hW u0 u1 u2
  refine D.out.mono ?_
  rintro e w1 ⟨rfl, l1⟩
  obtain ⟨_, x0, x1, x2⟩ := BX.out.lo l1
  have BY1 := Lib.hid (BY.out.lo l1)
  obtain ⟨by0, y0, y1, y2⟩ := BY1.out
  have fz : ∀ j, w1.frozen? ⟨w.heap.size + 1, j, none⟩ = false := fun j => by rw [l1.frozen (p := ⟨w.heap.size + 1, j, none⟩) BY.out.1]; exact FY.out j
  have f0 := fz 0
  have f1 := fz 1
  have f2 := fz 2
  have L1 := Lib.hid (lo_on LW.out l1)
  clear l1 D fz BX BY FY LW
  cases q with
  | true =>
    have HK2 := Lib.hid (show k = .agg #[.int .i64 p.wd, .slice a p.ls.length c, .slice b p.ws.length d] from HK.out)
    have TS := Lib.hid (three_set w1 _ BY1.out (.int .i64 p.wd) (.slice a p.ls.length c) (.slice b p.ws.length d))
    clear HK
    go_wp2
    obtain ⟨_, q0, q1, q2⟩ := TS.out
    refine bodyPost_ret (v := .tuple #[.agg #[.int .i64 p.wd, .slice a p.ls.length c, .slice b p.ws.length d], .bool true]) (by simp [results, Try.results136, go_sem, q0, q1, q2]) rfl ⟨by rw [HK2.out], ?_⟩
    exact ((L1.out.setCell (p := ⟨w.heap.size + 1, 0, none⟩) (by simp only; omega) _).setCell (p := ⟨w.heap.size + 1, 1, none⟩) (by simp only; omega) _).setCell (p := ⟨w.heap.size + 1, 2, none⟩) (by simp only; omega) _
  | false =>
    have HK2 := Lib.hid (show k = .agg #[.int .i64 0, .slice none 0 0, .slice none 0 0] from HK.out)
    have TS := Lib.hid (three_set w1 _ BY1.out (.int .i64 0) (.slice none 0 0) (.slice none 0 0))
    clear HK
    go_wp2
    obtain ⟨_, q0, q1, q2⟩ := TS.out
    refine bodyPost_ret (v := .tuple #[.agg #[.int .i64 0, .slice none 0 0, .slice none 0 0], .bool false]) (by simp [results, Try.results136, go_sem, q0, q1, q2]) rfl ⟨by rw [HK2.out], ?_⟩
    exact ((L1.out.setCell (p := ⟨w.heap.size + 1, 0, none⟩) (by simp only; omega) _).setCell (p := ⟨w.heap.size + 1, 1, none⟩) (by simp only; omega) _).setCell (p := ⟨w.heap.size + 1, 2, none⟩) (by simp only; omega) _
theorem FreshP.same {w : World} {B g1 g2 m : Nat} {f h f' h' : Nat → Int} (k : FreshP w B g1 g2 m f h) (e1 : ∀ j, j < m → f' j = f j) (e2 : ∀ j, j < m → h' j = h j) : FreshP w B g1 g2 m f' h' :=
  ⟨k.lo, k.ne, k.hi, fun j hj => by rw [e1 j hj]; exact k.c1 j hj, fun j hj => by rw [e2 j hj]; exact k.c2 j hj, k.z1, k.z2⟩
theorem FreshP.set1 {w : World} {B g1 g2 m : Nat} {f h : Nat → Int} (k : FreshP w B g1 g2 m f h) (i : Nat) (hi : i < m) (x : Int) : FreshP (w.setCell ⟨g1, i, none⟩ (.int .i64 x)) B g1 g2 m (fun j => if j = i then x else f j) h := by
  have o := one_set w g1 i (.int .i64 x) (k.c1 i hi)
  refine ⟨k.lo, k.ne, by simpa using k.hi, fun j hj => ?_, fun j hj => ?_, fun j => by rw [World.frozen?_setCell]; exact k.z1 j, fun j => by rw [World.frozen?_setCell]; exact k.z2 j⟩
  · by_cases e : j = i
    · subst e; rw [if_pos rfl]; exact o.1
    · rw [if_neg e, o.2 j e]; exact k.c1 j hj
  · rw [World.cell?_setCell_other _ _ _ _ (fun hh => k.ne (congrArg Addr.block hh))]; exact k.c2 j hj
theorem FreshP.set2 {w : World} {B g1 g2 m : Nat} {f h : Nat → Int} (k : FreshP w B g1 g2 m f h) (i : Nat) (hi : i < m) (x : Int) : FreshP (w.setCell ⟨g2, i, none⟩ (.int .i64 x)) B g1 g2 m f (fun j => if j = i then x else h j) := by
  have o := one_set w g2 i (.int .i64 x) (k.c2 i hi)
  refine ⟨k.lo, k.ne, by simpa using k.hi, fun j hj => ?_, fun j hj => ?_, fun j => by rw [World.frozen?_setCell]; exact k.z1 j, fun j => by rw [World.frozen?_setCell]; exact k.z2 j⟩
  · rw [World.cell?_setCell_other _ _ _ _ (fun hh => k.ne (congrArg Addr.block hh).symm)]; exact k.c1 j hj
  · by_cases e : j = i
    · subst e; rw [if_pos rfl]; exact o.1
    · rw [if_neg e, o.2 j e]; exact k.c2 j hj
theorem list_eq (xs : List Int) (n : Nat) (f : Nat → Int) (hn : xs.length = n) (h : ∀ j, j < n → f j = xs.getD j 0) : (List.range n).map f = xs := by
  apply List.ext_getElem
  · simp [hn]
  · intro i h1 h2
    rw [List.getElem_map, List.getElem_range, h i (by simpa using h1)]
    simp [List.getD, h2]
/-- What a function that makes a pile answers. -/
def MadeP (w : World) (ok : Bool) (q : PileV) (e : Ending) (w' : World) : Prop := ∃ u, e = .returned (.tuple #[u, .bool (ok && pileB q)]) ∧ MinePl w' w.heap.size w'.heap.size u (keptP ok q) ∧ PileCap u ∧ Below w.heap.size w w'
def shiftB (x : Int) : Bool := decide (-99 ≤ x) && decide (x ≤ 99)
theorem getD_map (xs : List Int) (f : Int → Int) (j : Nat) (h : j < xs.length) : (xs.map f).getD j 0 = f (xs.getD j 0) := by simp [List.getD, h]
theorem pad_lt (xs : List Int) (n j : Nat) (h : j < n) : padF xs n j = xs.getD j 0 := by unfold padF; rw [if_pos h]
set_option maxRecDepth 100000 in
set_option maxHeartbeats 3200000 in
theorem shift_yes (v : Value) (p : PileV) (y : Int) (w : World) (hv : PileRow w v p) (hf : PileF p) (y0 : -99 ≤ y) (y1 : y ≤ 99) :
    Calls Try.prog 117 #[v, .int .i64 y] w (MadeP w true (movedP p y)) := by
  have hb : pileB p = true := (pileB_iff p).2 hf
  obtain ⟨g, off, c, g', off', c', rfl, PC⟩ := pile_open hv hf
  have hn8 := hf.short
  have hsame := hf.same
  obtain ⟨W, hW⟩ : ∃ W, (w.alloc (.cells #[.int .i64 p.wd, .slice (some ⟨g, off, none⟩) p.ls.length c, .slice (some ⟨g', off', none⟩) p.ls.length c'] 63)).alloc (.cells #[.int .i64 0, .slice none 0 0, .slice none 0 0] 63) = W := ⟨_, rfl⟩
  have LW := Lib.hid (show Below w.heap.size w W by rw [← hW]; exact ((Below.refl _ _).alloc (Nat.le_refl _) _).alloc (by simp) _)
  have BX := Lib.hid (show Box3 W w.heap.size (.int .i64 p.wd) (.slice (some ⟨g, off, none⟩) p.ls.length c) (.slice (some ⟨g', off', none⟩) p.ls.length c') by rw [← hW]; exact (box3_new _ _ _ _ _).lo ((Below.refl _ _).alloc (Nat.le_refl _) _))
  have BY := Lib.hid (show Box3 W (w.heap.size + 1) (.int .i64 0) (.slice none 0 0) (.slice none 0 0) by rw [← hW]; have := box3_new (w.alloc (.cells #[.int .i64 p.wd, .slice (some ⟨g, off, none⟩) p.ls.length c, .slice (some ⟨g', off', none⟩) p.ls.length c'] 63)) (.int .i64 0) (.slice none 0 0) (.slice none 0 0) 63; simpa using this)
  have FY := Lib.hid (show ∀ j, W.frozen? ⟨w.heap.size + 1, j, none⟩ = false by rw [← hW]; exact fun j => World.frozen?_alloc_at _ _ _ _ (by simp))
  have hsz : W.heap.size = w.heap.size + 2 := by rw [← hW]; simp
  have D := Lib.hid (isPile_any _ p W (hv.lo LW.out) hf.small)
  rw [hb] at D
  have PW := Lib.hid (PC.lo LW.out)
  have CO := Lib.hid (fun w1 (l : Below W.heap.size W w1) => copyOf_any g off c g' off' c' p p.ls.length w1 (PW.out.lo l) hf (by omega))
  have SH := Lib.hid (fun w => isShift_is y true (by rw [decide_eq_true y0, decide_eq_true y1]; rfl) w)
  have HF := Lib.hid hf
  obtain ⟨n, hn⟩ : ∃ n, p.ls.length = n := ⟨_, rfl⟩
  have HN := Lib.hid hn
  rw [hn] at hn8 hsame hW BX D CO ⊢
  have HSAME := Lib.hid hsame
  have HQ := Lib.hid (fun (f h : Nat → Int) (e1 : ∀ j, j < n → f j = p.ls.getD j 0 + y) (e2 : ∀ j, j < n → h j = p.ws.getD j 0) => show (⟨p.wd, (List.range n).map f, (List.range n).map h⟩ : PileV) = movedP p y from by
    unfold movedP
    rw [list_eq (p.ls.map (· + y)) n f (by rw [List.length_map, hn]) (fun j hj => by rw [e1 j hj, getD_map _ _ _ (by omega)]), list_eq p.ws n h hsame e2])
  clear hv hf PC hn hb hsame
  obtain ⟨_, u0, u1, u2⟩ := BX.out
  go_enter Try.func117, Try.ntmps117
  go_wp2_with fail
  clear hW u0 u1 u2
  refine D.out.mono ?_
  rintro e w1 ⟨rfl, l1⟩
  have L1 := Lib.hid l1
  obtain ⟨_, x0, x1, x2⟩ := BX.out.lo l1
  clear l1 D
  go_wp2_with fail
  refine (SH.out _).mono ?_
  rintro e w' ⟨rfl, rfl⟩
  go_wp2_with fail
  refine (CO.out _ L1.out).mono ?_
  rintro e w2 ⟨g1, g2, rfl, FR, l2⟩
  have L2 := Lib.hid (lo_on L1.out l2)
  have F2 := Lib.hid FR
  obtain ⟨W3, hW3⟩ : ∃ W, w2.alloc (.cells #[.int .i64 p.wd, .slice (some ⟨g1, 0, none⟩) n n, .slice (some ⟨g2, 0, none⟩) n n] 63) = W := ⟨_, rfl⟩
  have l3 : Below w2.heap.size w2 W3 := by rw [← hW3]; exact (Below.refl _ _).alloc (Nat.le_refl _) _
  have L3 := Lib.hid (lo_on L2.out l3)
  have F3 := Lib.hid (FR.below l3)
  have BZ := Lib.hid (show Box3 W3 w2.heap.size (.int .i64 p.wd) (.slice (some ⟨g1, 0, none⟩) n n) (.slice (some ⟨g2, 0, none⟩) n n) by rw [← hW3]; exact box3_new _ _ _ _ _)
  have BY3 := Lib.hid (BY.out.lo L3.out)
  have FY3 := Lib.hid (fun j => show W3.frozen? ⟨w.heap.size + 1, j, none⟩ = false by rw [L3.out.frozen (p := ⟨w.heap.size + 1, j, none⟩) BY.out.1]; exact FY.out j)
  have hw1 := L1.out.size
  have hg1 := FR.lo
  have hg2 := FR.hi
  clear l2 l3 x0 x1 x2 FR F2 L2 CO SH
  obtain ⟨_, u0, u1, u2⟩ := BZ.out
  go_wp2
  clear hW3 u0 u1 u2
  go_loopw [25] (fun x wr => ∃ k : Nat, k ≤ n ∧ x = .int .i64 k ∧ Hid (FreshP wr w1.heap.size g1 g2 n (fun j => if j < k then p.ls.getD j 0 + y else p.ls.getD j 0) (padF p.ws n)) ∧ Hid (Only g1 W3 wr)) (fun x _ => n - (intOf x).toNat)
  case atStart => exact ⟨0, Nat.zero_le _, rfl, Lib.hid (F3.out.same (fun j hj => by rw [if_neg (Nat.not_lt_zero _), pad_lt _ _ _ hj]) (fun _ _ => rfl)), Lib.hid (Only.refl _ _)⟩
  case round =>
    obtain ⟨k, hk, rfl, HFR, HO⟩ := hrel
    clear F3
    have Q := Lib.hid (HO.out.part (B := g1) (E := g1 + 1) (Nat.le_refl _) (Nat.lt_succ_self _))
    have hbz : w2.heap.size < g1 ∨ g1 + 1 ≤ w2.heap.size := by omega
    obtain ⟨_, x0, x1, x2⟩ := BZ.out.part Q.out hbz
    by_cases hlt : k < n
    · have hlt' : (k : Int) < (n : Int) := by omega
      have c1 := HFR.out.c1 k hlt
      rw [if_neg (Nat.lt_irrefl k)] at c1
      have z1 := HFR.out.z1 k
      have hx := (HF.out.each k (by rw [HN.out]; exact hlt)).1
      have HS := Lib.hid (fun x => HFR.out.set1 k hlt x)
      obtain ⟨x, hxe⟩ : ∃ x, p.ls.getD k 0 = x := ⟨_, rfl⟩
      rw [hxe] at c1 hx
      have HX := Lib.hid hxe
      obtain ⟨hx0, hx1⟩ := hx
      clear hxe
      go_wp2
      go_roundw
      case rel =>
        refine ⟨k + 1, by omega, by go_num, Lib.hid ((HS.out (x + y)).same (fun j hj => ?_) (fun _ _ => rfl)), Lib.hid (HO.out.trans (only_set _ _ _ _))⟩
        by_cases e : j = k
        · subst e; rw [if_pos (by omega), if_pos rfl, HX.out]
        · rw [if_neg e]
          by_cases h : j < k
          · rw [if_pos h, if_pos (by omega)]
          · rw [if_neg h, if_neg (by omega)]
      case measure => simp [intOf]; omega
    · obtain rfl : k = n := by omega
      have hge : ¬ (k : Int) < (k : Int) := by omega
      have HQ1 := Lib.hid (HQ.out (fun j => if j < k then p.ls.getD j 0 + y else p.ls.getD j 0) (padF p.ws k) (fun j hj => if_pos hj) (fun j hj => pad_lt _ _ _ hj))
      have M0 := HFR.out.mine p.wd
      rw [HQ1.out] at M0
      have M1 := Lib.hid M0
      have hsm : SmallP (movedP p y) := ⟨by show (p.ls.map _).length ≤ _; rw [List.length_map, HN.out]; omega, by show p.ws.length ≤ _; rw [HSAME.out]; omega⟩
      have VP := Lib.hid (validPile_any _ _ wr M0.row hsm)
      have BY4 := Lib.hid (BY3.out.part Q.out (by omega))
      have FY4 := Lib.hid (fun j => show wr.frozen? ⟨w.heap.size + 1, j, none⟩ = false by rw [Q.out.frozen (p := ⟨w.heap.size + 1, j, none⟩) BY3.out.1 (by simp only; omega)]; exact FY3.out j)
      have L4 := Lib.hid (LW.out.trans ((L3.out.trans ((Q.out.below (by omega)).mono (by omega))).mono LW.out.size))
      have hq := Q.out.size
      clear M0 hsm HQ1 HQ BY3 FY3 HFR HO BZ
      go_wp2_with fail
      refine VP.out.mono ?_
      rintro e w5 ⟨rfl, l5⟩
      have BY5 := Lib.hid (BY4.out.lo l5)
      obtain ⟨by0, r0, r1, r2⟩ := BY5.out
      have fz : ∀ j, w5.frozen? ⟨w.heap.size + 1, j, none⟩ = false := fun j => by rw [l5.frozen (p := ⟨w.heap.size + 1, j, none⟩) BY4.out.1]; exact FY4.out j
      have f0 := fz 0
      have f1 := fz 1
      have f2 := fz 2
      have K5 := Lib.hid (kept_mine (M1.out.lo l5) (by omega))
      have C5 := Lib.hid (kept_cap (p := movedP p y) (show PileCap (.agg #[.int .i64 p.wd, .slice (some ⟨g1, 0, none⟩) k k, .slice (some ⟨g2, 0, none⟩) k k]) from ⟨_, _, _, _, _, _, _, rfl, Nat.le_refl _, Nat.le_refl _⟩))
      have L5 := Lib.hid (lo_on L4.out l5)
      have h5 := l5.size
      obtain ⟨ka, kb, kc, kd, hkv⟩ := K5.out.row.form
      have HKV := Lib.hid hkv
      rw [hkv] at K5 C5 ⊢
      have TS := Lib.hid (three_set w5 _ BY5.out (.int .i64 (keptP true (movedP p y)).wd) (.slice ka (keptP true (movedP p y)).ls.length kc) (.slice kb (keptP true (movedP p y)).ws.length kd))
      have PA := Lib.hid (((((only_set w5 (w.heap.size + 1) 0 (.int .i64 (keptP true (movedP p y)).wd)).part (B := w.heap.size + 1) (E := w.heap.size + 2) (by omega) (by omega))).trans ((only_set _ (w.heap.size + 1) 1 (.slice ka (keptP true (movedP p y)).ls.length kc)).part (by omega) (by omega))).trans ((only_set _ (w.heap.size + 1) 2 (.slice kb (keptP true (movedP p y)).ws.length kd)).part (by omega) (by omega)))
      clear l5 VP fz hkv
      generalize (keptP true (movedP p y)).wd = rw at *
      generalize (keptP true (movedP p y)).ls.length = rl at *
      generalize (keptP true (movedP p y)).ws.length = rs at *
      go_wp2
      obtain ⟨_, q0, q1, q2⟩ := TS.out
      have hpz := PA.out.size
      refine bodyPost_ret (v := .tuple #[.agg #[.int .i64 rw, .slice ka rl kc, .slice kb rs kd], .bool (pileB (movedP p y))]) (by simp [results, Try.results117, go_sem, q0, q1, q2]) rfl ⟨_, rfl, ?_, C5.out, ?_⟩
      · exact (K5.out.part PA.out (by omega)).mono (by omega) (by omega)
      · exact L5.out.trans ((PA.out.below (by omega)).mono (by omega))
set_option maxRecDepth 100000 in
set_option maxHeartbeats 1600000 in
theorem shift_no (v : Value) (p : PileV) (y : Int) (w : World) (hv : PileRow w v p) (hs : SmallP p) (h : (pileB p && shiftB y) = false) :
    Calls Try.prog 117 #[v, .int .i64 y] w (MadeP w false (movedP p y)) := by
  obtain ⟨a, b, c, d, rfl⟩ := hv.form
  obtain ⟨W, hW⟩ : ∃ W, (w.alloc (.cells #[.int .i64 p.wd, .slice a p.ls.length c, .slice b p.ws.length d] 63)).alloc (.cells #[.int .i64 0, .slice none 0 0, .slice none 0 0] 63) = W := ⟨_, rfl⟩
  have LW := Lib.hid (show Below w.heap.size w W by rw [← hW]; exact ((Below.refl _ _).alloc (Nat.le_refl _) _).alloc (by simp) _)
  have BX := Lib.hid (show Box3 W w.heap.size (.int .i64 p.wd) (.slice a p.ls.length c) (.slice b p.ws.length d) by rw [← hW]; exact (box3_new _ _ _ _ _).lo ((Below.refl _ _).alloc (Nat.le_refl _) _))
  have BY := Lib.hid (show Box3 W (w.heap.size + 1) (.int .i64 0) (.slice none 0 0) (.slice none 0 0) by rw [← hW]; have := box3_new (w.alloc (.cells #[.int .i64 p.wd, .slice a p.ls.length c, .slice b p.ws.length d] 63)) (.int .i64 0) (.slice none 0 0) (.slice none 0 0) 63; simpa using this)
  have FY := Lib.hid (show ∀ j, W.frozen? ⟨w.heap.size + 1, j, none⟩ = false by rw [← hW]; exact fun j => World.frozen?_alloc_at _ _ _ _ (by simp))
  have hsz : W.heap.size = w.heap.size + 2 := by rw [← hW]; simp
  have D := Lib.hid (isPile_any _ p W (hv.lo LW.out) hs)
  have SH := Lib.hid (fun w => isShift_is y (shiftB y) rfl w)
  generalize pileB p = q at *
  generalize shiftB y = r at *
  have HNIL := Lib.hid (kept_no false (movedP p y) rfl)
  have HMP := Lib.hid (fun w' (l : Below w.heap.size w w') (h : w.heap.size + 2 ≤ w'.heap.size) => show MadeP w false (movedP p y) (.returned (.tuple #[.agg #[.int .i64 0, .slice none 0 0, .slice none 0 0], .bool false])) w' from
    ⟨_, rfl, by rw [HNIL.out]; exact minePl_nil w' _ _ (by omega), cap_nil, l⟩)
  have HQR := Lib.hid h
  clear hv hs h
  obtain ⟨_, u0, u1, u2⟩ := BX.out
  cases q with
  | false =>
    go_enter Try.func117, Try.ntmps117
    go_wp2_with fail
    clear hW u0 u1 u2
    refine D.out.mono ?_
    rintro e w1 ⟨rfl, l1⟩
    have BY1 := Lib.hid (BY.out.lo l1)
    obtain ⟨by0, y0, y1, y2⟩ := BY1.out
    have fz : ∀ j, w1.frozen? ⟨w.heap.size + 1, j, none⟩ = false := fun j => by rw [l1.frozen (p := ⟨w.heap.size + 1, j, none⟩) BY.out.1]; exact FY.out j
    have f0 := fz 0
    have f1 := fz 1
    have f2 := fz 2
    have L1 := Lib.hid (lo_on LW.out l1)
    have h1 := l1.size
    have TS := Lib.hid (three_set w1 _ BY1.out (.int .i64 0) (.slice none 0 0) (.slice none 0 0))
    clear l1 D fz BX BY FY LW SH
    go_wp2
    obtain ⟨_, q0, q1, q2⟩ := TS.out
    exact bodyPost_ret (v := .tuple #[.agg #[.int .i64 0, .slice none 0 0, .slice none 0 0], .bool false]) (by simp [results, Try.results117, go_sem, q0, q1, q2]) rfl (HMP.out _ (((L1.out.setCell (p := ⟨w.heap.size + 1, 0, none⟩) (by simp only; omega) _).setCell (p := ⟨w.heap.size + 1, 1, none⟩) (by simp only; omega) _).setCell (p := ⟨w.heap.size + 1, 2, none⟩) (by simp only; omega) _) (by simp; omega))
  | true =>
    obtain rfl : r = false := HQR.out
    go_enter Try.func117, Try.ntmps117
    go_wp2_with fail
    clear hW u0 u1 u2
    refine D.out.mono ?_
    rintro e w1 ⟨rfl, l1⟩
    have BY1 := Lib.hid (BY.out.lo l1)
    obtain ⟨by0, y0, y1, y2⟩ := BY1.out
    have fz : ∀ j, w1.frozen? ⟨w.heap.size + 1, j, none⟩ = false := fun j => by rw [l1.frozen (p := ⟨w.heap.size + 1, j, none⟩) BY.out.1]; exact FY.out j
    have f0 := fz 0
    have f1 := fz 1
    have f2 := fz 2
    have L1 := Lib.hid (lo_on LW.out l1)
    have h1 := l1.size
    have TS := Lib.hid (three_set w1 _ BY1.out (.int .i64 0) (.slice none 0 0) (.slice none 0 0))
    clear l1 D fz BX BY FY LW
    go_wp2_with fail
    refine (SH.out _).mono ?_
    rintro e w' ⟨rfl, rfl⟩
    go_wp2
    obtain ⟨_, q0, q1, q2⟩ := TS.out
    exact bodyPost_ret (v := .tuple #[.agg #[.int .i64 0, .slice none 0 0, .slice none 0 0], .bool false]) (by simp [results, Try.results117, go_sem, q0, q1, q2]) rfl (HMP.out _ (((L1.out.setCell (p := ⟨w.heap.size + 1, 0, none⟩) (by simp only; omega) _).setCell (p := ⟨w.heap.size + 1, 1, none⟩) (by simp only; omega) _).setCell (p := ⟨w.heap.size + 1, 2, none⟩) (by simp only; omega) _) (by simp; omega))
theorem shift_any (v : Value) (p : PileV) (y : Int) (w : World) (hv : PileRow w v p) (hs : SmallP p) :
    Calls Try.prog 117 #[v, .int .i64 y] w (MadeP w (pileB p && shiftB y) (movedP p y)) := by
  cases h : pileB p && shiftB y with
  | true =>
    rw [Bool.and_eq_true] at h
    have h2 := h.2
    unfold shiftB at h2
    rw [Bool.and_eq_true, decide_eq_true_eq, decide_eq_true_eq] at h2
    exact shift_yes v p y w hv ((pileB_iff p).1 h.1) h2.1 h2.2
  | false => exact shift_no v p y w hv hs h
end Go.Proofs.Ythihamjgfemacaa
