/- A pile without its highest brick: the model's. -/
import Derived.Test.YtgdgiecajflmaaaOwn5
import Derived.Test.YtgdgiecajflmaaaPile13
namespace Go.Proofs.Ytgdgiecajflmaaa
open Go.RowKit
set_option maxRecDepth 100000 in
set_option maxHeartbeats 3200000 in
theorem specDrop_yes (v : Value) (p : PileV) (w : World) (hv : PileRow w v p) (hc : PileCap v) (hf : PileF p) (h2 : 2 ≤ p.ls.length) :
    Calls Try.prog 52 #[v] w fun e w' => ∃ u, e = .returned (.tuple #[u, .bool true]) ∧ PileRow w' u (dropP p) ∧ Below w.heap.size w w' := by
  have hb : pileB p = true := (pileB_iff p).2 hf
  obtain ⟨g, off, c, g', off', c', rfl, PC⟩ := pile_open hv hf
  obtain ⟨k1, k2⟩ := cap_of hc
  have hn8 := hf.short
  have hsame := hf.same
  obtain ⟨W, hW⟩ : ∃ W, (w.alloc (.cells #[.int .i64 p.wd, .slice (some ⟨g, off, none⟩) p.ls.length c, .slice (some ⟨g', off', none⟩) p.ls.length c'] 27)).alloc (.cells #[.int .i64 0, .slice none 0 0, .slice none 0 0] 27) = W := ⟨_, rfl⟩
  have LW := Lib.hid (show Below w.heap.size w W by rw [← hW]; exact ((Below.refl _ _).alloc (Nat.le_refl _) _).alloc (by simp) _)
  have BX := Lib.hid (show Box3 W w.heap.size (.int .i64 p.wd) (.slice (some ⟨g, off, none⟩) p.ls.length c) (.slice (some ⟨g', off', none⟩) p.ls.length c') by rw [← hW]; exact (box3_new _ _ _ _ _).lo ((Below.refl _ _).alloc (Nat.le_refl _) _))
  have BY := Lib.hid (show Box3 W (w.heap.size + 1) (.int .i64 0) (.slice none 0 0) (.slice none 0 0) by rw [← hW]; have := box3_new (w.alloc (.cells #[.int .i64 p.wd, .slice (some ⟨g, off, none⟩) p.ls.length c, .slice (some ⟨g', off', none⟩) p.ls.length c'] 27)) (.int .i64 0) (.slice none 0 0) (.slice none 0 0) 27; simpa using this)
  have FY := Lib.hid (show ∀ j, W.frozen? ⟨w.heap.size + 1, j, none⟩ = false by rw [← hW]; exact fun j => World.frozen?_alloc_at _ _ _ _ (by simp))
  have HSZ := Lib.hid (show W.heap.size = w.heap.size + 2 by rw [← hW]; simp)
  have D := Lib.hid (l4Pile_any _ p W (hv.lo LW.out) hf.small)
  rw [hb] at D
  have PW := Lib.hid (PC.lo LW.out)
  obtain ⟨n, hn⟩ : ∃ n, p.ls.length = n + 1 := ⟨p.ls.length - 1, by omega⟩
  rw [hn] at hn8 hsame hW BX D k1 k2 ⊢
  have O1 := Lib.hid (fun w1 (l : Below W.heap.size W w1) => l1Own_any (.slice (some ⟨g, off, none⟩) n c) p.ls.dropLast w1 ⟨g, off, c, by rw [List.length_dropLast, hn]; rfl, (PW.out.lo l).b1, fun j hj => by
    rw [List.length_dropLast] at hj
    rw [getD_dropLast _ _ hj]; exact (PW.out.lo l).c1 j (by omega)⟩ (by rw [List.length_dropLast]; omega))
  have O2 := Lib.hid (fun w1 (l : Below W.heap.size W w1) => l1Own_any (.slice (some ⟨g', off', none⟩) n c') p.ws.dropLast w1 ⟨g', off', c', by rw [List.length_dropLast, hsame]; rfl, (PW.out.lo l).b2, fun j hj => by
    rw [List.length_dropLast] at hj
    rw [getD_dropLast _ _ hj]; exact (PW.out.lo l).c2 j (by omega)⟩ (by rw [List.length_dropLast]; omega))
  have hl1 : p.ls.dropLast.length = n := by rw [List.length_dropLast, hn]; rfl
  have hl2 : p.ws.dropLast.length = n := by rw [List.length_dropLast, hsame]; rfl
  have HL1 := Lib.hid hl1
  have HL2 := Lib.hid hl2
  have he1 : (((n : Int) + 1) == 1) = false := by simp; omega
  have hn0 : (0 : Int) ≤ (n : Int) := by omega
  have hnc : (n : Int) ≤ (c : Int) := by omega
  have hnc' : (n : Int) ≤ (c' : Int) := by omega
  clear hv hf PC hn hb hsame hc h2 hl1 hl2
  obtain ⟨_, u0, u1, u2⟩ := BX.out
  go_enter Try.func52, Try.ntmps52
  go_wp2_with fail
  clear hW u0 u1 u2
  refine D.out.mono ?_
  rintro e w1 ⟨rfl, l1⟩
  obtain ⟨bx, x0, x1, x2⟩ := BX.out.lo l1
  have L1 := Lib.hid l1
  have BY1 := Lib.hid (BY.out.lo l1)
  obtain ⟨by0, y0, y1, y2⟩ := BY1.out
  have fz : ∀ j, w1.frozen? ⟨w.heap.size + 1, j, none⟩ = false := fun j => by rw [l1.frozen (p := ⟨w.heap.size + 1, j, none⟩) BY.out.1]; exact FY.out j
  have f0 := fz 0
  have f1 := fz 1
  have f2 := fz 2
  clear l1 D fz
  go_wp2
  go_region_held3 (fun w' => w'.cell? ⟨w.heap.size, 0, none⟩ = some (.int .i64 p.wd) ∧ w'.cell? ⟨w.heap.size, 1, none⟩ = some (.slice (some ⟨g, off, none⟩) (n + 1) c) ∧ w'.cell? ⟨w.heap.size, 2, none⟩ = some (.slice (some ⟨g', off', none⟩) (n + 1) c'))
    (first
      | exact ⟨(hl.cell (p := ⟨w.heap.size, 0, none⟩) bx).trans x0, (hl.cell (p := ⟨w.heap.size, 1, none⟩) bx).trans x1, (hl.cell (p := ⟨w.heap.size, 2, none⟩) bx).trans x2⟩
      | exact ⟨(hl6.cell (p := ⟨w.heap.size, 0, none⟩) (Nat.lt_of_lt_of_le bx hl.size)).trans ((hl.cell (p := ⟨w.heap.size, 0, none⟩) bx).trans x0), (hl6.cell (p := ⟨w.heap.size, 1, none⟩) (Nat.lt_of_lt_of_le bx hl.size)).trans ((hl.cell (p := ⟨w.heap.size, 1, none⟩) bx).trans x1), (hl6.cell (p := ⟨w.heap.size, 2, none⟩) (Nat.lt_of_lt_of_le bx hl.size)).trans ((hl.cell (p := ⟨w.heap.size, 2, none⟩) bx).trans x2)⟩
      | go_keep)
    (first
      | (go_at_call 102; refine (O1.out _ (lo_on L1.out (drew_below w1))).mono ?_; rintro e v5 ⟨t5, rfl, o5, hl⟩; obtain ⟨sa, sc, rfl⟩ := own_form_n o5 HL1.out)
      | (go_at_call 102; refine (O2.out _ (lo_on L1.out (lo_on (drew_below w1) hl))).mono ?_; rintro e v6 ⟨t6, rfl, o6, hl6⟩; obtain ⟨sb, sd, rfl⟩ := own_form_n o6 HL2.out; have m0 := (hl6.cell (p := ⟨w.heap.size + 1, 0, none⟩) (Nat.lt_of_lt_of_le by0 hl.size)).trans ((hl.cell (p := ⟨w.heap.size + 1, 0, none⟩) by0).trans y0); have m1 := (hl6.cell (p := ⟨w.heap.size + 1, 1, none⟩) (Nat.lt_of_lt_of_le by0 hl.size)).trans ((hl.cell (p := ⟨w.heap.size + 1, 1, none⟩) by0).trans y1); have m2 := (hl6.cell (p := ⟨w.heap.size + 1, 2, none⟩) (Nat.lt_of_lt_of_le by0 hl.size)).trans ((hl.cell (p := ⟨w.heap.size + 1, 2, none⟩) by0).trans y2); have mf0 := (hl6.frozen (p := ⟨w.heap.size + 1, 0, none⟩) (Nat.lt_of_lt_of_le by0 hl.size)).trans ((hl.frozen (p := ⟨w.heap.size + 1, 0, none⟩) by0).trans f0); have mf1 := (hl6.frozen (p := ⟨w.heap.size + 1, 1, none⟩) (Nat.lt_of_lt_of_le by0 hl.size)).trans ((hl.frozen (p := ⟨w.heap.size + 1, 1, none⟩) by0).trans f1); have mf2 := (hl6.frozen (p := ⟨w.heap.size + 1, 2, none⟩) (Nat.lt_of_lt_of_le by0 hl.size)).trans ((hl.frozen (p := ⟨w.heap.size + 1, 2, none⟩) by0).trans f2)))
  have BY6 := (show Box3 v6 (w.heap.size + 1) _ _ _ from ⟨Nat.lt_of_lt_of_le (Nat.lt_of_lt_of_le by0 hl.size) hl6.size, m0, m1, m2⟩)
  have TS := Lib.hid (three_set v6 _ BY6 (.int .i64 p.wd) (.slice sa n sc) (.slice sb n sd))
  have PA := Lib.hid (((((only_set v6 (w.heap.size + 1) 0 (.int .i64 p.wd)).part (B := w.heap.size + 1) (E := w.heap.size + 2) (by omega) (by omega))).trans ((only_set _ (w.heap.size + 1) 1 (.slice sa n sc)).part (by omega) (by omega))).trans ((only_set _ (w.heap.size + 1) 2 (.slice sb n sd)).part (by omega) (by omega)))
  have M5 := Lib.hid (o5.mine.lo hl6)
  have M6 := Lib.hid o6.mine
  have L6 := Lib.hid (lo_on LW.out (lo_on L1.out (lo_on (lo_on (drew_below w1) hl) hl6)))
  have s1 := L1.out.size
  have s5 := hl.size
  have s6 := hl6.size
  clear BY6 o5 o6 hl hl6 m0 m1 m2 mf0 mf1 mf2 x0 x1 x2 y0 y1 y2 f0 f1 f2
  go_wp2
  have hszz := HSZ.out
  simp only [World.size_drew] at s5
  obtain ⟨_, q0, q1, q2⟩ := TS.out
  refine bodyPost_ret (v := .tuple #[.agg #[.int .i64 p.wd, .slice sa n sc, .slice sb n sd], .bool true]) (by simp [results, Try.results52, go_sem, q0, q1, q2]) rfl ⟨_, rfl, ⟨_, _, rfl, ?_, ?_⟩, ?_⟩
  · exact (M5.out.part PA.out (.inr (by show w.heap.size + 2 ≤ w1.heap.size; omega))).row
  · exact (M6.out.part PA.out (by omega)).row
  · exact L6.out.trans ((PA.out.below (by omega)).mono (by omega))
theorem specDrop_no (v : Value) (p : PileV) (w : World) (hv : PileRow w v p) (hs : SmallP p) (h : pileB p = false ∨ p.ls.length = 1) :
    Calls Try.prog 52 #[v] w fun e w' => ∃ u, e = .returned (.tuple #[u, .bool false]) ∧ PileRow w' u nilP ∧ Below w.heap.size w w' := by
  obtain ⟨a, b, c, d, rfl⟩ := hv.form
  obtain ⟨W, hW⟩ : ∃ W, (w.alloc (.cells #[.int .i64 p.wd, .slice a p.ls.length c, .slice b p.ws.length d] 27)).alloc (.cells #[.int .i64 0, .slice none 0 0, .slice none 0 0] 27) = W := ⟨_, rfl⟩
  have LW := Lib.hid (show Below w.heap.size w W by rw [← hW]; exact ((Below.refl _ _).alloc (Nat.le_refl _) _).alloc (by simp) _)
  have BX := Lib.hid (show Box3 W w.heap.size (.int .i64 p.wd) (.slice a p.ls.length c) (.slice b p.ws.length d) by rw [← hW]; exact (box3_new _ _ _ _ _).lo ((Below.refl _ _).alloc (Nat.le_refl _) _))
  have BY := Lib.hid (show Box3 W (w.heap.size + 1) (.int .i64 0) (.slice none 0 0) (.slice none 0 0) by rw [← hW]; have := box3_new (w.alloc (.cells #[.int .i64 p.wd, .slice a p.ls.length c, .slice b p.ws.length d] 27)) (.int .i64 0) (.slice none 0 0) (.slice none 0 0) 27; simpa using this)
  have FY := Lib.hid (show ∀ j, W.frozen? ⟨w.heap.size + 1, j, none⟩ = false by rw [← hW]; exact fun j => World.frozen?_alloc_at _ _ _ _ (by simp))
  have D := Lib.hid (l4Pile_any _ p W (hv.lo LW.out) hs)
  have HQ := Lib.hid h
  have HE := Lib.hid (fun w' (l : Below w.heap.size w w') => show ∃ u, Ending.returned (.tuple #[.agg #[.int .i64 0, .slice none 0 0, .slice none 0 0], .bool false]) = .returned (.tuple #[u, .bool false]) ∧ PileRow w' u nilP ∧ Below w.heap.size w w' from ⟨_, rfl, pileRow_nil w', l⟩)
  obtain ⟨n, hn⟩ : ∃ n, p.ls.length = n := ⟨_, rfl⟩
  have hnb := hs.1
  rw [hn] at D BX HQ hW hnb ⊢
  generalize pileB p = q at D HQ
  clear hv hs h hn
  obtain ⟨_, u0, u1, u2⟩ := BX.out
  cases q with
  | false =>
    go_enter Try.func52, Try.ntmps52
    go_wp2_with fail
    clear hW u0 u1 u2
    refine D.out.mono ?_
    rintro e w1 ⟨rfl, l1⟩
    have BY1 := Lib.hid (BY.out.lo l1)
    obtain ⟨by0, y0, y1, y2⟩ := BY1.out
    have fz : ∀ j, w1.frozen? ⟨w.heap.size + 1, j, none⟩ = false := fun j => by rw [l1.frozen (p := ⟨w.heap.size + 1, j, none⟩) BY.out.1]; exact FY.out j
    have f0 := fz 0
    have f1 := fz 1
    have f2 := fz 2
    have L1 := Lib.hid (lo_on LW.out l1)
    have TS := Lib.hid (three_set w1 _ BY1.out (.int .i64 0) (.slice none 0 0) (.slice none 0 0))
    clear l1 D fz BX BY FY LW
    go_wp2
    obtain ⟨_, q0, q1, q2⟩ := TS.out
    exact bodyPost_ret (v := .tuple #[.agg #[.int .i64 0, .slice none 0 0, .slice none 0 0], .bool false]) (by simp [results, Try.results52, go_sem, q0, q1, q2]) rfl (HE.out _ (((L1.out.setCell (p := ⟨w.heap.size + 1, 0, none⟩) (by simp only; omega) _).setCell (p := ⟨w.heap.size + 1, 1, none⟩) (by simp only; omega) _).setCell (p := ⟨w.heap.size + 1, 2, none⟩) (by simp only; omega) _))
  | true =>
    have hn1 : n = 1 := by rcases HQ.out with h | h; exact absurd h (by simp); exact h
    subst hn1
    go_enter Try.func52, Try.ntmps52
    go_wp2_with fail
    clear hW u0 u1 u2
    refine D.out.mono ?_
    rintro e w1 ⟨rfl, l1⟩
    obtain ⟨_, x0, x1, x2⟩ := BX.out.lo l1
    have BY1 := Lib.hid (BY.out.lo l1)
    obtain ⟨by0, y0, y1, y2⟩ := BY1.out
    have fz : ∀ j, w1.frozen? ⟨w.heap.size + 1, j, none⟩ = false := fun j => by rw [l1.frozen (p := ⟨w.heap.size + 1, j, none⟩) BY.out.1]; exact FY.out j
    have f0 := fz 0
    have f1 := fz 1
    have f2 := fz 2
    have L1 := Lib.hid (lo_on LW.out l1)
    have TS := Lib.hid (three_set w1 _ BY1.out (.int .i64 0) (.slice none 0 0) (.slice none 0 0))
    clear l1 D fz BX BY FY LW
    go_wp2
    obtain ⟨_, q0, q1, q2⟩ := TS.out
    exact bodyPost_ret (v := .tuple #[.agg #[.int .i64 0, .slice none 0 0, .slice none 0 0], .bool false]) (by simp [results, Try.results52, go_sem, q0, q1, q2]) rfl (HE.out _ (((L1.out.setCell (p := ⟨w.heap.size + 1, 0, none⟩) (by simp only; omega) _).setCell (p := ⟨w.heap.size + 1, 1, none⟩) (by simp only; omega) _).setCell (p := ⟨w.heap.size + 1, 2, none⟩) (by simp only; omega) _))
/-- What a function of the model that makes a pile answers. -/
def MadeS (w : World) (ok : Bool) (q : PileV) (e : Ending) (w' : World) : Prop := ∃ u, e = .returned (.tuple #[u, .bool (ok && pileB q)]) ∧ PileRow w' u (keptP ok q) ∧ Below w.heap.size w w'
theorem specDrop_any (v : Value) (p : PileV) (w : World) (hv : PileRow w v p) (hc : PileCap v) (hs : SmallP p) :
    Calls Try.prog 52 #[v] w (MadeS w (pileB p) (dropP p)) := by
  unfold MadeS
  by_cases hp : pileB p = true
  · have hf := (pileB_iff p).1 hp
    have h1 := hf.one
    by_cases h2 : 2 ≤ p.ls.length
    · have hk : keptP (pileB p) (dropP p) = dropP p := by unfold keptP; rw [hp, drop_ok hf h2]; rfl
      rw [hk, hp, drop_ok hf h2]
      exact specDrop_yes v p w hv hc hf h2
    · have hk : keptP (pileB p) (dropP p) = nilP := by unfold keptP; rw [drop_one (by omega)]; simp
      rw [hk, drop_one (by omega), Bool.and_false]
      exact specDrop_no v p w hv hs (.inr (by omega))
  · have hp0 : pileB p = false := by simpa using hp
    rw [hp0, Bool.false_and, kept_no false _ rfl]
    exact specDrop_no v p w hv hs (.inl hp0)
end Go.Proofs.Ytgdgiecajflmaaa
