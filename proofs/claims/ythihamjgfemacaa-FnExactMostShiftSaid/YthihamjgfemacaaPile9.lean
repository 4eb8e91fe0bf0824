/- A pile that is copied, and one that is handed on if it is valid: the program's. -/
import Derived.Test.YthihamjgfemacaaPile8
import Derived.RegionTactic
import Derived.ChangeAlike
import Derived.Laws.CopyOwn
import Derived.Deep.Cut
namespace Go.Proofs.Ythihamjgfemacaa
open Go.RowKit
theorem heap_cell {w : World} {g : Nat} {L : Array Value} {t : TypeId} (h : w.heap[g]? = some (.cells L t (0, 0))) (j : Nat) : w.cell? ⟨g, j, none⟩ = L[j]? := by
  simp [World.cell?, h]
theorem heap_free {w : World} {g : Nat} {L : Array Value} {t : TypeId} (h : w.heap[g]? = some (.cells L t (0, 0))) (j : Nat) : w.frozen? ⟨g, j, none⟩ = false := by
  simp [World.frozen?, h]
theorem heap_lt {w : World} {g : Nat} {o : Obj} (h : w.heap[g]? = some o) : g < w.heap.size := (Array.getElem?_eq_some_iff.1 h).1
theorem three_heap (w : World) (o1 o2 o3 : Obj) : (((w.alloc o1).alloc o2).alloc o3).drew.heap[w.heap.size]? = some o1 ∧ (((w.alloc o1).alloc o2).alloc o3).drew.heap[w.heap.size + 1]? = some o2 ∧ (((w.alloc o1).alloc o2).alloc o3).drew.heap[w.heap.size + 1 + 1]? = some o3 ∧ Below w.heap.size w (((w.alloc o1).alloc o2).alloc o3).drew := by
  have h1 := heap_alloc_new w o1
  have h2 := heap_alloc_new (w.alloc o1) o2
  have h3 := heap_alloc_new ((w.alloc o1).alloc o2) o3
  simp only [World.size_alloc] at h2 h3
  refine ⟨?_, ?_, h3, ((((Below.refl _ _).alloc (Nat.le_refl _) _).alloc (by simp) _).alloc (by simp; omega) _).drew⟩
  · show (((w.alloc o1).alloc o2).alloc o3).heap[w.heap.size]? = _
    rw [heap_alloc_old _ _ (by simp; omega), heap_alloc_old _ _ (by simp)]; exact h1
  · show (((w.alloc o1).alloc o2).alloc o3).heap[w.heap.size + 1]? = _
    rw [heap_alloc_old _ _ (by simp)]; exact h2
/-- A struct and the two rows that it names, just made, in whatever order. -/
def MadeC (w0 : World) (wd : Int) (m : Nat) (u : Value) (w' : World) : Prop := ∃ b g1 g2, u = .pointer (some ⟨b, 0, none⟩) ∧ Hid ((w0.heap.size ≤ b ∧ w0.heap.size ≤ g1 ∧ w0.heap.size ≤ g2) ∧ (b ≠ g1 ∧ b ≠ g2 ∧ g1 ≠ g2) ∧
  w'.heap[b]? = some (.cells #[.int .i64 wd, .slice (some ⟨g1, 0, none⟩) m m, .slice (some ⟨g2, 0, none⟩) m m] 63 (0, 0)) ∧ w'.heap[g1]? = some (.cells (madeCells #[.int .i64 0] m) 3 (0, 0)) ∧ w'.heap[g2]? = some (.cells (madeCells #[.int .i64 0] m) 3 (0, 0)) ∧ Below w0.heap.size w0 w')
theorem madeC_012 (w0 : World) (wd : Int) (m : Nat) : MadeC w0 wd m (.pointer (some ⟨w0.heap.size, 0, none⟩)) (((w0.alloc (.cells #[.int .i64 wd, .slice (some ⟨w0.heap.size + 1, 0, none⟩) m m, .slice (some ⟨w0.heap.size + 1 + 1, 0, none⟩) m m] 63)).alloc (.cells (madeCells #[.int .i64 0] m) 3)).alloc (.cells (madeCells #[.int .i64 0] m) 3)).drew := by
  obtain ⟨h0, h1, h2, l⟩ := three_heap w0 (.cells #[.int .i64 wd, .slice (some ⟨w0.heap.size + 1, 0, none⟩) m m, .slice (some ⟨w0.heap.size + 1 + 1, 0, none⟩) m m] 63) (.cells (madeCells #[.int .i64 0] m) 3) (.cells (madeCells #[.int .i64 0] m) 3)
  exact ⟨_, _, _, rfl, Lib.hid ⟨⟨by omega, by omega, by omega⟩, ⟨by omega, by omega, by omega⟩, h0, h1, h2, l⟩⟩
theorem madeC_021 (w0 : World) (wd : Int) (m : Nat) : MadeC w0 wd m (.pointer (some ⟨w0.heap.size, 0, none⟩)) (((w0.alloc (.cells #[.int .i64 wd, .slice (some ⟨w0.heap.size + 1 + 1, 0, none⟩) m m, .slice (some ⟨w0.heap.size + 1, 0, none⟩) m m] 63)).alloc (.cells (madeCells #[.int .i64 0] m) 3)).alloc (.cells (madeCells #[.int .i64 0] m) 3)).drew := by
  obtain ⟨h0, h1, h2, l⟩ := three_heap w0 (.cells #[.int .i64 wd, .slice (some ⟨w0.heap.size + 1 + 1, 0, none⟩) m m, .slice (some ⟨w0.heap.size + 1, 0, none⟩) m m] 63) (.cells (madeCells #[.int .i64 0] m) 3) (.cells (madeCells #[.int .i64 0] m) 3)
  exact ⟨_, _, _, rfl, Lib.hid ⟨⟨by omega, by omega, by omega⟩, ⟨by omega, by omega, by omega⟩, h0, h2, h1, l⟩⟩
theorem madeC_102 (w0 : World) (wd : Int) (m : Nat) : MadeC w0 wd m (.pointer (some ⟨w0.heap.size + 1, 0, none⟩)) (((w0.alloc (.cells (madeCells #[.int .i64 0] m) 3)).alloc (.cells #[.int .i64 wd, .slice (some ⟨w0.heap.size, 0, none⟩) m m, .slice (some ⟨w0.heap.size + 1 + 1, 0, none⟩) m m] 63)).alloc (.cells (madeCells #[.int .i64 0] m) 3)).drew := by
  obtain ⟨h0, h1, h2, l⟩ := three_heap w0 (.cells (madeCells #[.int .i64 0] m) 3) (.cells #[.int .i64 wd, .slice (some ⟨w0.heap.size, 0, none⟩) m m, .slice (some ⟨w0.heap.size + 1 + 1, 0, none⟩) m m] 63) (.cells (madeCells #[.int .i64 0] m) 3)
  exact ⟨_, _, _, rfl, Lib.hid ⟨⟨by omega, by omega, by omega⟩, ⟨by omega, by omega, by omega⟩, h1, h0, h2, l⟩⟩
theorem madeC_120 (w0 : World) (wd : Int) (m : Nat) : MadeC w0 wd m (.pointer (some ⟨w0.heap.size + 1, 0, none⟩)) (((w0.alloc (.cells (madeCells #[.int .i64 0] m) 3)).alloc (.cells #[.int .i64 wd, .slice (some ⟨w0.heap.size + 1 + 1, 0, none⟩) m m, .slice (some ⟨w0.heap.size, 0, none⟩) m m] 63)).alloc (.cells (madeCells #[.int .i64 0] m) 3)).drew := by
  obtain ⟨h0, h1, h2, l⟩ := three_heap w0 (.cells (madeCells #[.int .i64 0] m) 3) (.cells #[.int .i64 wd, .slice (some ⟨w0.heap.size + 1 + 1, 0, none⟩) m m, .slice (some ⟨w0.heap.size, 0, none⟩) m m] 63) (.cells (madeCells #[.int .i64 0] m) 3)
  exact ⟨_, _, _, rfl, Lib.hid ⟨⟨by omega, by omega, by omega⟩, ⟨by omega, by omega, by omega⟩, h1, h2, h0, l⟩⟩
theorem madeC_201 (w0 : World) (wd : Int) (m : Nat) : MadeC w0 wd m (.pointer (some ⟨w0.heap.size + 1 + 1, 0, none⟩)) (((w0.alloc (.cells (madeCells #[.int .i64 0] m) 3)).alloc (.cells (madeCells #[.int .i64 0] m) 3)).alloc (.cells #[.int .i64 wd, .slice (some ⟨w0.heap.size, 0, none⟩) m m, .slice (some ⟨w0.heap.size + 1, 0, none⟩) m m] 63)).drew := by
  obtain ⟨h0, h1, h2, l⟩ := three_heap w0 (.cells (madeCells #[.int .i64 0] m) 3) (.cells (madeCells #[.int .i64 0] m) 3) (.cells #[.int .i64 wd, .slice (some ⟨w0.heap.size, 0, none⟩) m m, .slice (some ⟨w0.heap.size + 1, 0, none⟩) m m] 63)
  exact ⟨_, _, _, rfl, Lib.hid ⟨⟨by omega, by omega, by omega⟩, ⟨by omega, by omega, by omega⟩, h2, h0, h1, l⟩⟩
theorem madeC_210 (w0 : World) (wd : Int) (m : Nat) : MadeC w0 wd m (.pointer (some ⟨w0.heap.size + 1 + 1, 0, none⟩)) (((w0.alloc (.cells (madeCells #[.int .i64 0] m) 3)).alloc (.cells (madeCells #[.int .i64 0] m) 3)).alloc (.cells #[.int .i64 wd, .slice (some ⟨w0.heap.size + 1, 0, none⟩) m m, .slice (some ⟨w0.heap.size, 0, none⟩) m m] 63)).drew := by
  obtain ⟨h0, h1, h2, l⟩ := three_heap w0 (.cells (madeCells #[.int .i64 0] m) 3) (.cells (madeCells #[.int .i64 0] m) 3) (.cells #[.int .i64 wd, .slice (some ⟨w0.heap.size + 1, 0, none⟩) m m, .slice (some ⟨w0.heap.size, 0, none⟩) m m] 63)
  exact ⟨_, _, _, rfl, Lib.hid ⟨⟨by omega, by omega, by omega⟩, ⟨by omega, by omega, by omega⟩, h2, h1, h0, l⟩⟩
/-- copy into a row that the call made: nothing else turns. -/
theorem wpList_copy_only {P : Program} {w : World} {ops : Array Oper} {rest : List Oper} {o : Oper} {a : Act} {Q : Exit → Act → World → Prop} (hgd : o.guard = none) (d s : Operand) (dT sT : TypeId)
    (ho : o.op = .call { callee := .builtin .copy, args := #[d, s], argTypes := #[dT, sT] }) (elem : TypeId) (hu : P.underlying dT = some (.slice elem)) (hsz : (P.info? elem).map (·.size) = some 1)
    (g dLen dCap : Nat) (ad : Addr) (sLen sCap : Nat) (hd : a.eval d = .slice (some ⟨g, 0, none⟩) dLen dCap) (hs : a.eval s = .slice (some ad) sLen sCap)
    (cur : List Value) (t : TypeId) (hg : w.heap[g]? = some (.cells cur.toArray t (0, 0))) (cs : List Value) (hn : cs.length = Nat.min sLen dLen)
    (hsrc : ∀ j v, cs[j]? = some v → w.cell? (ad.add j) = some v) (hfit : cs.length ≤ cur.length) (h1 : ∀ v ∈ cs, v.oneCell' = true)
    (h : ∀ w', Hid (w'.heap[g]? = some (.cells (cs ++ cur.drop cs.length).toArray t (0, 0))) → Hid (Only g w w') → wpList P ops Q rest (a.put o.dst (goInt cs.length)) w') :
    wpList P ops Q (o :: rest) a w := by
  by_cases h0 : cs.length = 0
  · obtain rfl : cs = [] := List.eq_nil_of_length_eq_zero h0
    refine wpList_copy_nothing hgd d s dT sT ho elem hu hsz _ _ dLen dCap sLen sCap hd hs (by simpa using hn.symm) ?_
    exact h w (show _ = _ by simpa using hg) (Only.refl _ _)
  · refine wpList_copy_own hgd d s dT sT ho elem hu hsz g 0 dLen dCap ad sLen sCap hd hs cur.toArray t hg cs hn hsrc (by simpa using hfit) h1 ?_
    exact h _ (show _ = _ by simpa using setRow_heap w g _ (cur.toArray.toList.take 0 ++ (cs ++ cur.toArray.toList.drop (0 + cs.length))).toArray t _ hg) ⟨rfl, rfl, rfl, by simp [World.setRow], fun k hk _ => setRow_other w g k _ hk⟩
/-- The values of a copy: those of the list, and zeros behind them. -/
def padF (xs : List Int) (n j : Nat) : Int := if j < n then xs.getD j 0 else 0
theorem made_list (m : Nat) : madeCells #[.int .i64 0] m = (List.replicate m (Value.int .i64 0)).toArray := by
  apply Array.ext'
  rw [toList_madeCells_one]
theorem pad_at (xs : List Int) (m : Nat) (j : Nat) (hj : j < m) : (icells (xs.take m) ++ (List.replicate m (Value.int .i64 0)).drop (icells (xs.take m)).length).toArray[j]? = some (.int .i64 (padF xs xs.length j)) := by
  have hl : (icells (xs.take m)).length = min m xs.length := by simp [icells, List.length_take]
  rw [List.getElem?_toArray]
  unfold padF
  by_cases h : j < xs.length
  · rw [List.getElem?_append_left (by omega), icells_at _ _ (by rw [List.length_take]; omega), if_pos h]
    simp [List.getD, hj]
  · rw [List.getElem?_append_right (by omega), if_neg h, List.getElem?_drop, List.getElem?_replicate, if_pos (by omega)]
structure FreshP (w : World) (B g1 g2 m : Nat) (f h : Nat → Int) : Prop where
  lo : B ≤ g1 ∧ B ≤ g2
  ne : g1 ≠ g2
  hi : g1 < w.heap.size ∧ g2 < w.heap.size
  c1 : ∀ j, j < m → w.cell? ⟨g1, j, none⟩ = some (.int .i64 (f j))
  c2 : ∀ j, j < m → w.cell? ⟨g2, j, none⟩ = some (.int .i64 (h j))
  z1 : ∀ j, w.frozen? ⟨g1, j, none⟩ = false
  z2 : ∀ j, w.frozen? ⟨g2, j, none⟩ = false
theorem FreshP.part {w w' : World} {B g1 g2 m B' E' : Nat} {f h : Nat → Int} (k : FreshP w B g1 g2 m f h) (q : Part B' E' w w') (h1 : g1 < B' ∨ E' ≤ g1) (h2 : g2 < B' ∨ E' ≤ g2) : FreshP w' B g1 g2 m f h :=
  ⟨k.lo, k.ne, ⟨Nat.lt_of_lt_of_le k.hi.1 q.size, Nat.lt_of_lt_of_le k.hi.2 q.size⟩, fun j hj => (q.cell (p := ⟨g1, j, none⟩) k.hi.1 h1).trans (k.c1 j hj), fun j hj => (q.cell (p := ⟨g2, j, none⟩) k.hi.2 h2).trans (k.c2 j hj),
    fun j => (q.frozen (p := ⟨g1, j, none⟩) k.hi.1 h1).trans (k.z1 j), fun j => (q.frozen (p := ⟨g2, j, none⟩) k.hi.2 h2).trans (k.z2 j)⟩
theorem FreshP.below {w w' : World} {B g1 g2 m : Nat} {f h : Nat → Int} (k : FreshP w B g1 g2 m f h) (q : Below w.heap.size w w') : FreshP w' B g1 g2 m f h :=
  k.part (Part.of_lo (B := w.heap.size) (E := w.heap.size) q) (.inl k.hi.1) (.inl k.hi.2)
theorem FreshP.mine {w : World} {B g1 g2 m : Nat} {f h : Nat → Int} (k : FreshP w B g1 g2 m f h) (wd : Int) : MinePl w B w.heap.size (.agg #[.int .i64 wd, .slice (some ⟨g1, 0, none⟩) m m, .slice (some ⟨g2, 0, none⟩) m m]) ⟨wd, (List.range m).map f, (List.range m).map h⟩ := by
  have l1 := k.lo
  have l2 := k.hi
  have l3 := k.ne
  refine ⟨_, _, g1, g1 + 1, g2, g2 + 1, rfl, ⟨by omega, by omega, by omega, by omega, by omega⟩, .inr ⟨g1, m, by simp, Nat.le_refl _, Nat.lt_succ_self _, l2.1, fun j hj => ?_, k.z1⟩, .inr ⟨g2, m, by simp, Nat.le_refl _, Nat.lt_succ_self _, l2.2, fun j hj => ?_, k.z2⟩⟩
  · rw [List.length_map, List.length_range] at hj
    rw [k.c1 j hj]; simp [List.getD, hj]
  · rw [List.length_map, List.length_range] at hj
    rw [k.c2 j hj]; simp [List.getD, hj]
theorem PileC.keep {w w' : World} {g off g' off' B E : Nat} {p : PileV} (h : PileC w g off g' off' p) (q : Part B E w w') (h1 : g < B ∨ E ≤ g) (h2 : g' < B ∨ E ≤ g') : PileC w' g off g' off' p :=
  ⟨Nat.lt_of_lt_of_le h.b1 q.size, Nat.lt_of_lt_of_le h.b2 q.size, fun j hj => by rw [q.cell (p := ⟨g, off + j, none⟩) h.b1 h1]; exact h.c1 j hj, fun j hj => by rw [q.cell (p := ⟨g', off' + j, none⟩) h.b2 h2]; exact h.c2 j hj⟩
theorem src_of {w : World} {g off m : Nat} {xs : List Int} (h : ∀ j, j < xs.length → w.cell? ⟨g, off + j, none⟩ = some (.int .i64 (xs.getD j 0))) : ∀ j v, (icells (xs.take m))[j]? = some v → w.cell? ((⟨g, off, none⟩ : Addr).add j) = some v := by
  intro j v hv
  have hj : j < (xs.take m).length := by
    have := (List.getElem?_eq_some_iff.1 hv).1
    simpa [icells] using this
  rw [icells_at _ _ hj] at hv
  rw [Go.WideShapes.add_plain]
  rw [List.length_take] at hj
  rw [h j (by omega), ← hv]
  simp [List.getD, show j < m by omega]
theorem infoOne : (Try.prog.info? 3).map (·.size) = some 1 := by kernel_rfl
set_option maxRecDepth 100000 in
set_option maxHeartbeats 3200000 in
theorem copyOf_any (g off c g' off' c' : Nat) (p : PileV) (m : Nat) (w : World) (PC : PileC w g off g' off' p) (hf : PileF p) (hm : m ≤ 9) :
    Calls Try.prog 135 #[.agg #[.int .i64 p.wd, .slice (some ⟨g, off, none⟩) p.ls.length c, .slice (some ⟨g', off', none⟩) p.ls.length c'], .int .i64 (m : Int)] w fun e w' =>
      ∃ g1 g2, e = .returned (.agg #[.int .i64 p.wd, .slice (some ⟨g1, 0, none⟩) m m, .slice (some ⟨g2, 0, none⟩) m m]) ∧ FreshP w' w.heap.size g1 g2 m (padF p.ls p.ls.length) (padF p.ws p.ls.length) ∧ Below w.heap.size w w' := by
  have HM := make_ints m (by omega)
  have hn8 := hf.short
  have hsame := hf.same
  obtain ⟨n, hn⟩ : ∃ n, p.ls.length = n := ⟨_, rfl⟩
  have HN := Lib.hid hn
  rw [hn] at hn8 hsame ⊢
  obtain ⟨w0, hw0⟩ : ∃ W, (w.alloc (.cells #[.int .i64 p.wd, .slice (some ⟨g, off, none⟩) n c, .slice (some ⟨g', off', none⟩) n c'] 63)).alloc (.cells #[.int .i64 0, .slice none 0 0, .slice none 0 0] 63) = W := ⟨_, rfl⟩
  have LW := Lib.hid (show Below w.heap.size w w0 by rw [← hw0]; exact ((Below.refl _ _).alloc (Nat.le_refl _) _).alloc (by simp) _)
  have BX := Lib.hid (show Box3 w0 w.heap.size (.int .i64 p.wd) (.slice (some ⟨g, off, none⟩) n c) (.slice (some ⟨g', off', none⟩) n c') by rw [← hw0]; exact (box3_new _ _ _ _ _).lo ((Below.refl _ _).alloc (Nat.le_refl _) _))
  have BY := Lib.hid (show Box3 w0 (w.heap.size + 1) (.int .i64 0) (.slice none 0 0) (.slice none 0 0) by rw [← hw0]; have := box3_new (w.alloc (.cells #[.int .i64 p.wd, .slice (some ⟨g, off, none⟩) n c, .slice (some ⟨g', off', none⟩) n c'] 63)) (.int .i64 0) (.slice none 0 0) (.slice none 0 0) 63; simpa using this)
  have FY := Lib.hid (show ∀ j, w0.frozen? ⟨w.heap.size + 1, j, none⟩ = false by rw [← hw0]; exact fun j => World.frozen?_alloc_at _ _ _ _ (by simp))
  have PW := Lib.hid (PC.lo LW.out)
  have hsz : w0.heap.size = w.heap.size + 2 := by rw [← hw0]; simp
  have HF := Lib.hid hf
  have HSZ := Lib.hid hsz
  have HSAME := Lib.hid hsame
  clear PC hf hn hsz hsame
  obtain ⟨_, u0, u1, u2⟩ := BX.out
  go_enter Try.func135, Try.ntmps135
  go_wp2
  clear hw0
  go_cut [5] from 6 (fun t5 w' => MadeC w0 p.wd m t5 w')
  case first =>
    have old : ∀ (v : World) o, w.heap.size < v.heap.size → (v.alloc o).cell? ⟨w.heap.size, 0, none⟩ = v.cell? ⟨w.heap.size, 0, none⟩ := fun v o h => World.cell?_of_block (Below.heap_alloc _ _ _ h)
    have e1 : ∀ o, (w0.alloc o).cell? ⟨w.heap.size, 0, none⟩ = some (.int .i64 p.wd) := fun o => (old _ _ BX.out.1).trans u0
    have e2 : ∀ o o', ((w0.alloc o).alloc o').cell? ⟨w.heap.size, 0, none⟩ = some (.int .i64 p.wd) := fun o o' => (old _ _ (by have := BX.out.1; simp; omega)).trans (e1 o)
    have e3 : ∀ o o' o'', (((w0.alloc o).alloc o').alloc o'').cell? ⟨w.heap.size, 0, none⟩ = some (.int .i64 p.wd) := fun o o' o'' => (old _ _ (by have := BX.out.1; simp; omega)).trans (e2 o o')
    clear u1 u2 BX BY FY PW LW HF old
    go_region
    all_goals go_wp2
    all_goals go_meet
    all_goals first | exact madeC_012 _ _ _ | exact madeC_021 _ _ _ | exact madeC_102 _ _ _ | exact madeC_120 _ _ _ | exact madeC_201 _ _ _ | exact madeC_210 _ _ _
  case rest =>
    clear u0 u1 u2 HM
    obtain ⟨b, g1, g2, rfl, HC⟩ := hcut
    obtain ⟨⟨k1, k2, k3⟩, ⟨k4, k5, k6⟩, hb, hg1, hg2, hl⟩ := HC.out
    have hszz := HSZ.out
    have P1 := PW.out.lo hl
    have c0 := (show wc.cell? ⟨b, 0, none⟩ = some (.int .i64 p.wd) from (heap_cell hb 0).trans rfl)
    have c1 := (show wc.cell? ⟨b, 1, none⟩ = some (.slice (some ⟨g1, 0, none⟩) m m) from (heap_cell hb 1).trans rfl)
    have c2 := (show wc.cell? ⟨b, 2, none⟩ = some (.slice (some ⟨g2, 0, none⟩) m m) from (heap_cell hb 2).trans rfl)
    obtain ⟨_, x0, x1, x2⟩ := BX.out.lo hl
    have bx := BX.out.1
    have L1 := Lib.hid (LW.out.trans (hl.mono LW.out.size))
    have BY1 := Lib.hid (BY.out.lo hl)
    have FY1 := Lib.hid (fun j => show wc.frozen? ⟨w.heap.size + 1, j, none⟩ = false by rw [hl.frozen (p := ⟨w.heap.size + 1, j, none⟩) BY.out.1]; exact FY.out j)
    have HG1 := Lib.hid hg1
    have HG2 := Lib.hid hg2
    have HBX := Lib.hid (show Box3 wc b _ _ _ from ⟨heap_lt hb, c0, c1, c2⟩)
    have HAX := Lib.hid (show Box3 wc w.heap.size _ _ _ from ⟨Nat.lt_of_lt_of_le bx hl.size, x0, x1, x2⟩)
    have N1 := Lib.hid (show (icells (p.ls.take m)).length = Nat.min n m by simp only [icells, List.length_map, List.length_take]; rw [HN.out]; exact Nat.min_comm _ _)
    have N2 := Lib.hid (show (icells (p.ws.take m)).length = Nat.min n m by simp only [icells, List.length_map, List.length_take]; rw [HSAME.out]; exact Nat.min_comm _ _)
    have S1 := Lib.hid (src_of (m := m) P1.c1)
    have PP := Lib.hid P1
    have hbg := P1.b1
    have B0 := PW.out.b1
    have B1 := PW.out.b2
    have FT1 := Lib.hid (show (icells (p.ls.take m)).length ≤ (List.replicate m (Value.int .i64 0)).length by rw [N1.out, List.length_replicate]; exact Nat.min_le_right _ _)
    have FT2 := Lib.hid (show (icells (p.ws.take m)).length ≤ (List.replicate m (Value.int .i64 0)).length by rw [N2.out, List.length_replicate]; exact Nat.min_le_right _ _)
    rw [made_list] at hg1 hg2
    have HG1 := Lib.hid hg1
    have HG2 := Lib.hid hg2
    clear hb hg1 hg2 hl P1 BX LW BY FY PW HC hbg
    go_wp2_with (first
      | (refine wpList_copy_only rfl _ _ 58 58 rfl 3 Try.underlying58 infoOne g1 m m ⟨g, off, none⟩ n c rfl rfl (List.replicate m (.int .i64 0)) 3 HG1.out (icells (p.ls.take m)) N1.out S1.out FT1.out (icells_one _) ?_; intro w2 HA1 HO1
         have Q1 := Lib.hid (HO1.out.part (B := g1) (E := g1 + 1) (Nat.le_refl _) (Nat.lt_succ_self _))
         have PP2 := Lib.hid (PP.out.keep Q1.out (by omega) (by omega))
         have S2 := Lib.hid (src_of (m := m) (g := g') (off := off') (xs := p.ws) (fun j hj => PP2.out.c2 j (by rw [HN.out, ← HSAME.out]; exact hj)))
         have HB2 := Lib.hid (show w2.heap[g2]? = _ from (HO1.out.block g2 (Ne.symm k6) (heap_lt HG2.out)).trans HG2.out)
         obtain ⟨_, y0, y1, y2⟩ := HAX.out.part Q1.out (by omega)
         obtain ⟨_, d0, d1, d2⟩ := HBX.out.part Q1.out (by omega)
         clear c0 c1 c2 x0 x1 x2)
      | (refine wpList_copy_only rfl _ _ 58 58 rfl 3 Try.underlying58 infoOne g2 m m ⟨g', off', none⟩ n c' rfl rfl (List.replicate m (.int .i64 0)) 3 HB2.out (icells (p.ws.take m)) N2.out S2.out FT2.out (icells_one _) ?_; intro w3 HA2 HO2
         have Q2 := Lib.hid (HO2.out.part (B := g2) (E := g2 + 1) (Nat.le_refl _) (Nat.lt_succ_self _))
         have HA3 := Lib.hid (show w3.heap[g1]? = _ from (HO2.out.block g1 k6 (heap_lt HA1.out)).trans HA1.out)
         obtain ⟨_, z0, z1, z2⟩ := (HBX.out.part Q1.out (by omega)).part Q2.out (by omega)
         have BY3 := Lib.hid ((BY1.out.part Q1.out (by omega)).part Q2.out (by omega))
         obtain ⟨by0, r0, r1, r2⟩ := BY3.out
         have fz : ∀ j, w3.frozen? ⟨w.heap.size + 1, j, none⟩ = false := fun j => by
           rw [Q2.out.frozen (p := ⟨w.heap.size + 1, j, none⟩) (Nat.lt_of_lt_of_le BY1.out.1 Q1.out.size) (by simp only; omega), Q1.out.frozen (p := ⟨w.heap.size + 1, j, none⟩) BY1.out.1 (by simp only; omega)]
           exact FY1.out j
         have f0 := fz 0
         have f1 := fz 1
         have f2 := fz 2
         have FR := Lib.hid (show FreshP w3 w.heap.size g1 g2 m (padF p.ls n) (padF p.ws n) from
           ⟨⟨by omega, by omega⟩, k6, ⟨heap_lt HA3.out, heap_lt HA2.out⟩, fun j hj => by
             have := (heap_cell HA3.out j).trans (pad_at _ _ _ hj)
             rw [HN.out] at this; exact this, fun j hj => by
             have := (heap_cell HA2.out j).trans (pad_at _ _ _ hj)
             rw [HSAME.out] at this; exact this, heap_free HA3.out, heap_free HA2.out⟩)
         have L3 := Lib.hid ((L1.out.trans ((Q1.out.below (by have := heap_lt HG1.out; omega)).mono (by omega))).trans ((Q2.out.below (by have := heap_lt HB2.out; omega)).mono (by omega)))
         have TS := Lib.hid (three_set w3 _ BY3.out (.int .i64 p.wd) (.slice (some ⟨g1, 0, none⟩) m m) (.slice (some ⟨g2, 0, none⟩) m m))
         clear y0 y1 y2 d0 d1 d2 HG1 HG2 HB2 HA1 HA2 HA3 S1 S2 PP PP2 HAX HBX BY1 FY1 fz FT1 FT2))
    go_wp2
    obtain ⟨_, q0, q1, q2⟩ := TS.out
    have PA := Lib.hid (((((only_set w3 (w.heap.size + 1) 0 (.int .i64 p.wd)).part (B := w.heap.size + 1) (E := w.heap.size + 2) (by omega) (by omega))).trans ((only_set _ (w.heap.size + 1) 1 (.slice (some ⟨g1, 0, none⟩) m m)).part (by omega) (by omega))).trans ((only_set _ (w.heap.size + 1) 2 (.slice (some ⟨g2, 0, none⟩) m m)).part (by omega) (by omega)))
    refine bodyPost_ret (v := .agg #[.int .i64 p.wd, .slice (some ⟨g1, 0, none⟩) m m, .slice (some ⟨g2, 0, none⟩) m m]) (by simp [results, Try.results135, go_sem, q0, q1, q2]) rfl ⟨g1, g2, rfl, ?_, ?_⟩
    · exact FR.out.part PA.out (by omega) (by omega)
    · exact L3.out.trans ((PA.out.below (by omega)).mono (by omega))
end Go.Proofs.Ythihamjgfemacaa
