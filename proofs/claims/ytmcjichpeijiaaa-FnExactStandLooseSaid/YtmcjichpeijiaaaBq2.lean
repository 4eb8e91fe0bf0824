/- Each cell turned into another one: the program's eachCell with its closures. -/
import Derived.Test.YtmcjichpeijiaaaBp2
import Derived.Test.YtmcjichpeijiaaaBo8
namespace Go.Proofs.Ytmcjichpeijiaaa
open Go.RowKit Go.Maps
theorem cellsF_set1 (zs : List (Int × Int)) : ∀ (j : Nat) (y : Int), j < zs.length → (cellsF zs).set (j * 2) (.int .i64 y) = cellsF (zs.set j (y, (zs.getD j (0, 0)).2)) := by
  induction zs with
  | nil => intro j y h; simp at h
  | cons x l ih =>
    intro j y h
    cases j with
    | zero => rfl
    | succ j =>
      have := ih j y (by simpa using h)
      rw [show (j + 1) * 2 = j * 2 + 1 + 1 by omega]
      simp only [cellsF, List.set_cons_succ, List.getD_cons_succ, this]
theorem cellsF_set2 (zs : List (Int × Int)) : ∀ (j : Nat) (y : Int), j < zs.length → (cellsF zs).set (j * 2 + 1) (.int .i64 y) = cellsF (zs.set j ((zs.getD j (0, 0)).1, y)) := by
  induction zs with
  | nil => intro j y h; simp at h
  | cons x l ih =>
    intro j y h
    cases j with
    | zero => rfl
    | succ j =>
      have := ih j y (by simpa using h)
      rw [show (j + 1) * 2 + 1 = (j * 2 + 1) + 1 + 1 by omega]
      simp only [cellsF, List.set_cons_succ, List.getD_cons_succ, this]
/-- A cell of a row of its own is stored. -/
theorem OwnC.put {w : World} {B g c : Nat} {zs : List (Int × Int)} (h : OwnC w B (.slice (some ⟨g, 0, none⟩) zs.length c) zs) (j : Nat) (hj : j < zs.length) (x y : Int) :
    OwnC ((w.setCell ⟨g, j * 2, none⟩ (.int .i64 x)).setCell ⟨g, j * 2 + 1, none⟩ (.int .i64 y)) B (.slice (some ⟨g, 0, none⟩) zs.length c) (zs.set j (x, y)) := by
  unfold OwnC at h ⊢
  have h1 := (h.stored (j * 2) (.int .i64 x)).1
  rw [cellsF_set1 zs j x hj] at h1
  have h2 := (h1.stored (j * 2 + 1) (.int .i64 y)).1
  have hl : j < (zs.set j (x, (zs.getD j (0, 0)).2)).length := by rw [List.length_set]; exact hj
  rw [cellsF_set2 _ j y hl] at h2
  rw [List.set_set] at h2
  rw [List.length_set]
  have e : ((zs.set j (x, (zs.getD j (0, 0)).2)).getD j (0, 0)).1 = x := by simp [List.getD, hj]
  rw [e] at h2
  exact h2
/-- The first k cells have been turned, the others are zeros. -/
def eachL (F : Int × Int → Int × Int) (xs : List (Int × Int)) (k : Nat) : List (Int × Int) := (xs.take k).map F ++ List.replicate (xs.length - k) (0, 0)
theorem eachL_len (F : Int × Int → Int × Int) (xs : List (Int × Int)) (k : Nat) (h : k ≤ xs.length) : (eachL F xs k).length = xs.length := by
  unfold eachL; rw [List.length_append, List.length_map, List.length_take, List.length_replicate]; omega
theorem eachL_put (F : Int × Int → Int × Int) (xs : List (Int × Int)) (k : Nat) (h : k < xs.length) : (eachL F xs k).set k (F (xs.getD k (0, 0))) = eachL F xs (k + 1) := by
  unfold eachL
  have hl : ((xs.take k).map F).length = k := by rw [List.length_map, List.length_take]; omega
  rw [List.set_append_right _ _ (by omega), hl, Nat.sub_self, take_snocC xs k h, List.map_append, show xs.length - k = (xs.length - (k + 1)) + 1 by omega, List.replicate_succ, List.set_cons_zero, List.append_assoc]
  rfl
theorem eachL_all (F : Int × Int → Int × Int) (xs : List (Int × Int)) : eachL F xs xs.length = xs.map F := by
  unfold eachL; rw [List.take_length, Nat.sub_self]; simp
theorem zeros_cells (n : Nat) : (madeCells #[.int .i64 0, .int .i64 0] (n * 2)).toList = cellsF (List.replicate n (0, 0)) := by
  refine List.ext_getElem? fun j => ?_
  rcases Nat.lt_or_ge j (n * 2) with h | h
  · have h1 := made_zero (n * 2) j h
    rw [Array.getElem?_toList, h1]
    rcases (show j % 2 = 0 ∨ j % 2 = 1 by omega) with e | e
    · have := (cellsF_at (List.replicate n (0, 0)) (j / 2) (by rw [List.length_replicate]; omega)).1
      rw [show j / 2 * 2 = j by omega] at this
      rw [this]
      simp [List.getD, show j / 2 < n by omega]
    · have := (cellsF_at (List.replicate n (0, 0)) (j / 2) (by rw [List.length_replicate]; omega)).2
      rw [show j / 2 * 2 + 1 = j by omega] at this
      rw [this]
      simp [List.getD, show j / 2 < n by omega]
  · rw [List.getElem?_eq_none (by rw [Array.length_toList, size_madeCells]; simpa using h), List.getElem?_eq_none (by rw [cellsF_len, List.length_replicate]; exact h)]
theorem ownC_zeros (w : World) (n : Nat) (hn : n ≤ 2000000) : OwnC (w.alloc (.cells (madeCells #[.int .i64 0, .int .i64 0] (n * 2)) 29)) w.heap.size (.slice (some ⟨w.heap.size, 0, none⟩) n n) (List.replicate n (0, 0)) := by
  have h := World.ownsRow_lit (e := 29) (size := 2) w (madeCells #[.int .i64 0, .int .i64 0] (n * 2)) n (Nat.le_refl _) (by unfold maxLen; omega) (by rw [size_madeCells])
  unfold OwnC
  rw [← zeros_cells, List.length_replicate]
  exact h
set_option maxRecDepth 100000 in
set_option maxHeartbeats 3200000 in
theorem each_mv (b1 b2 : Nat) (F : Int × Int → Int × Int) (v : Value) (xs : List (Int × Int)) (w : World) (hr : LoadRow w v xs) (h0 : 0 < xs.length) (hn : xs.length ≤ 2000)
    (CL : ∀ c ∈ xs, ∀ w1 : World, Below w.heap.size w w1 → Calls Try.prog 142 #[.agg #[.int .i64 c.1, .int .i64 c.2], .pointer (some ⟨b1, 0, none⟩), .pointer (some ⟨b2, 0, none⟩)] w1 fun e w' => e = .returned (.agg #[.int .i64 (F c).1, .int .i64 (F c).2]) ∧ Below w1.heap.size w1 w') :
    Calls Try.prog 141 #[v, .func (.func 142) #[] #[.pointer (some ⟨b1, 0, none⟩), .pointer (some ⟨b2, 0, none⟩)]] w fun e w' => ∃ gg, e = .returned (.slice (some ⟨gg, 0, none⟩) xs.length xs.length) ∧ OwnC w' w.heap.size (.slice (some ⟨gg, 0, none⟩) xs.length xs.length) (xs.map F) ∧ gg < w'.heap.size ∧ Below w.heap.size w w' := by
  have HCL := Lib.hid CL
  have HM := make_pairs xs.length (by omega)
  have OZ := Lib.hid (show OwnC (w.alloc (.cells (madeCells #[.int .i64 0, .int .i64 0] (xs.length * 2)) 29)) w.heap.size (.slice (some ⟨w.heap.size, 0, none⟩) xs.length xs.length) (eachL F xs 0) by
    have := ownC_zeros w xs.length (by omega)
    unfold eachL
    simpa using this)
  obtain ⟨a, c, rfl, hr⟩ := hr
  rcases hr with h | ⟨g, off, rfl, hg, hc⟩
  · subst h; simp at h0
  have HC := Lib.hid hc
  have BW := Lib.hid (below_new w (.cells (madeCells #[.int .i64 0, .int .i64 0] (xs.length * 2)) 29))
  clear hc CL
  go_enter Try.func141, Try.ntmps141
  go_wp2
  go_loopw [13] (fun i wr => ∃ k : Nat, k ≤ xs.length ∧ i = .int .i64 k ∧ Hid (OwnC wr w.heap.size (.slice (some ⟨w.heap.size, 0, none⟩) xs.length xs.length) (eachL F xs k)) ∧ Hid (w.heap.size < wr.heap.size) ∧ Hid (Below w.heap.size w wr)) (fun i _ => xs.length - (intOf i).toNat)
  case atStart => exact ⟨0, Nat.zero_le _, rfl, OZ, Lib.hid (by simp), BW⟩
  case round =>
    obtain ⟨k, hk, rfl, HO, HZ, HL⟩ := hrel
    clear HM OZ BW
    by_cases hlt : k < xs.length
    · have hlt' : (k : Int) < (xs.length : Int) := by omega
      obtain ⟨c1, c2⟩ := HC.out k hlt
      have hgr : g < wr.heap.size := Nat.lt_of_lt_of_le hg HL.out.size
      rw [← HL.out.cell (p := ⟨g, off + k * 2, none⟩) hg] at c1
      rw [← HL.out.cell (p := ⟨g, off + k * 2 + 1, none⟩) hg] at c2
      have CC := Lib.hid (HCL.out _ (mem_getD hlt))
      have HP := Lib.hid (eachL_put F xs k hlt)
      have HEL := Lib.hid (eachL_len F xs k hk)
      generalize xs.getD k (0, 0) = x at c1 c2 CC HP
      obtain ⟨x1, x2⟩ := x
      simp only at c1 c2
      obtain ⟨y, hy⟩ : ∃ y, F (x1, x2) = y := ⟨_, rfl⟩
      rw [hy] at CC HP
      obtain ⟨y1, y2⟩ := y
      simp only at CC
      clear hy
      obtain ⟨WB, hWB⟩ : ∃ X, wr.alloc (.cells #[.int .i64 x1, .int .i64 x2] 29) = X := ⟨_, rfl⟩
      have LB := Lib.hid (show Below w.heap.size w WB by rw [← hWB]; exact HL.out.alloc HL.out.size _)
      have OB := Lib.hid (show OwnC WB w.heap.size (.slice (some ⟨w.heap.size, 0, none⟩) xs.length xs.length) (eachL F xs k) by rw [← hWB]; exact ownsRow_below HO.out (below_new _ _))
      obtain ⟨_, b1, b2, _, _⟩ := (show Cel2 WB wr.heap.size (x1, x2) by rw [← hWB]; exact cel2_new _ _ _ _)
      simp only at b1 b2
      have hzb : w.heap.size < WB.heap.size := by have := HZ.out; rw [← hWB]; simp; omega
      have CC2 := Lib.hid (CC.out WB LB.out)
      clear HO HZ HL CC
      go_wp2_with fail
      clear hWB
      refine CC2.out.mono ?_
      rintro e w1 ⟨rfl, l1⟩
      have hO1 := ownsRow_below OB.out l1
      have O1 := hO1
      rw [HEL.out] at O1
      have L1 := Lib.hid (lo_on LB.out l1)
      have hz1 : w.heap.size < w1.heap.size := Nat.lt_of_lt_of_le hzb l1.size
      have hlen := HEL.out
      have hcc := cellsF_at (eachL F xs k) k (by omega)
      have z1 := O1.cellAt (k * 2) (by omega)
      rw [hcc.1] at z1
      have z2 := O1.cellAt (k * 2 + 1) (by omega)
      rw [hcc.2] at z2
      have f1 := O1.frozenAt (k * 2)
      have f2 := O1.frozenAt (k * 2 + 1)
      have ON := Lib.hid (show OwnC ((w1.setCell ⟨w.heap.size, k * 2, none⟩ (.int .i64 y1)).setCell ⟨w.heap.size, k * 2 + 1, none⟩ (.int .i64 y2)) w.heap.size (.slice (some ⟨w.heap.size, 0, none⟩) xs.length xs.length) (eachL F xs (k + 1)) by
        have h := OwnC.put (w := w1) (B := w.heap.size) (g := w.heap.size) (c := xs.length) (zs := eachL F xs k) (by rw [hlen]; exact hO1) k (by omega) y1 y2
        rw [hlen, HP.out] at h
        exact h)
      have LN := Lib.hid ((L1.out.setCell (p := ⟨w.heap.size, k * 2, none⟩) (Nat.le_refl _) (.int .i64 y1)).setCell (p := ⟨w.heap.size, k * 2 + 1, none⟩) (Nat.le_refl _) (.int .i64 y2))
      have HZN := Lib.hid (show w.heap.size < ((w1.setCell ⟨w.heap.size, k * 2, none⟩ (.int .i64 y1)).setCell ⟨w.heap.size, k * 2 + 1, none⟩ (.int .i64 y2)).heap.size by simpa using hz1)
      generalize ((eachL F xs k).getD k (0, 0)).1 = o1 at z1
      generalize ((eachL F xs k).getD k (0, 0)).2 = o2 at z2
      clear O1 hO1 l1 hcc hlen HEL HP OB LB L1 CC2 hzb b1 b2 c1 c2
      go_wp2
      go_roundw
      case rel => exact ⟨k + 1, by omega, by go_num, ON, HZN, LN⟩
      case measure => simp [intOf]; omega
    · obtain rfl : k = xs.length := by omega
      have hge : ¬ (xs.length : Int) < (xs.length : Int) := by omega
      rw [eachL_all] at HO
      go_wp2
      go_ret
      exact ⟨_, rfl, HO.out, HZ.out, HL.out⟩
set_option maxRecDepth 100000 in
set_option maxHeartbeats 3200000 in
theorem each_tu (b1 : Nat) (F : Int × Int → Int × Int) (v : Value) (xs : List (Int × Int)) (w : World) (hr : LoadRow w v xs) (h0 : 0 < xs.length) (hn : xs.length ≤ 2000)
    (CL : ∀ c ∈ xs, ∀ w1 : World, Below w.heap.size w w1 → Calls Try.prog 101 #[.agg #[.int .i64 c.1, .int .i64 c.2], .pointer (some ⟨b1, 0, none⟩)] w1 fun e w' => e = .returned (.agg #[.int .i64 (F c).1, .int .i64 (F c).2]) ∧ Below w1.heap.size w1 w') :
    Calls Try.prog 141 #[v, .func (.func 101) #[] #[.pointer (some ⟨b1, 0, none⟩)]] w fun e w' => ∃ gg, e = .returned (.slice (some ⟨gg, 0, none⟩) xs.length xs.length) ∧ OwnC w' w.heap.size (.slice (some ⟨gg, 0, none⟩) xs.length xs.length) (xs.map F) ∧ gg < w'.heap.size ∧ Below w.heap.size w w' := by
  have HCL := Lib.hid CL
  have HM := make_pairs xs.length (by omega)
  have OZ := Lib.hid (show OwnC (w.alloc (.cells (madeCells #[.int .i64 0, .int .i64 0] (xs.length * 2)) 29)) w.heap.size (.slice (some ⟨w.heap.size, 0, none⟩) xs.length xs.length) (eachL F xs 0) by
    have := ownC_zeros w xs.length (by omega)
    unfold eachL
    simpa using this)
  obtain ⟨a, c, rfl, hr⟩ := hr
  rcases hr with h | ⟨g, off, rfl, hg, hc⟩
  · subst h; simp at h0
  have HC := Lib.hid hc
  have BW := Lib.hid (below_new w (.cells (madeCells #[.int .i64 0, .int .i64 0] (xs.length * 2)) 29))
  clear hc CL
  go_enter Try.func141, Try.ntmps141
  go_wp2
  go_loopw [13] (fun i wr => ∃ k : Nat, k ≤ xs.length ∧ i = .int .i64 k ∧ Hid (OwnC wr w.heap.size (.slice (some ⟨w.heap.size, 0, none⟩) xs.length xs.length) (eachL F xs k)) ∧ Hid (w.heap.size < wr.heap.size) ∧ Hid (Below w.heap.size w wr)) (fun i _ => xs.length - (intOf i).toNat)
  case atStart => exact ⟨0, Nat.zero_le _, rfl, OZ, Lib.hid (by simp), BW⟩
  case round =>
    obtain ⟨k, hk, rfl, HO, HZ, HL⟩ := hrel
    clear HM OZ BW
    by_cases hlt : k < xs.length
    · have hlt' : (k : Int) < (xs.length : Int) := by omega
      obtain ⟨c1, c2⟩ := HC.out k hlt
      have hgr : g < wr.heap.size := Nat.lt_of_lt_of_le hg HL.out.size
      rw [← HL.out.cell (p := ⟨g, off + k * 2, none⟩) hg] at c1
      rw [← HL.out.cell (p := ⟨g, off + k * 2 + 1, none⟩) hg] at c2
      have CC := Lib.hid (HCL.out _ (mem_getD hlt))
      have HP := Lib.hid (eachL_put F xs k hlt)
      have HEL := Lib.hid (eachL_len F xs k hk)
      generalize xs.getD k (0, 0) = x at c1 c2 CC HP
      obtain ⟨x1, x2⟩ := x
      simp only at c1 c2
      obtain ⟨y, hy⟩ : ∃ y, F (x1, x2) = y := ⟨_, rfl⟩
      rw [hy] at CC HP
      obtain ⟨y1, y2⟩ := y
      simp only at CC
      clear hy
      obtain ⟨WB, hWB⟩ : ∃ X, wr.alloc (.cells #[.int .i64 x1, .int .i64 x2] 29) = X := ⟨_, rfl⟩
      have LB := Lib.hid (show Below w.heap.size w WB by rw [← hWB]; exact HL.out.alloc HL.out.size _)
      have OB := Lib.hid (show OwnC WB w.heap.size (.slice (some ⟨w.heap.size, 0, none⟩) xs.length xs.length) (eachL F xs k) by rw [← hWB]; exact ownsRow_below HO.out (below_new _ _))
      obtain ⟨_, b1, b2, _, _⟩ := (show Cel2 WB wr.heap.size (x1, x2) by rw [← hWB]; exact cel2_new _ _ _ _)
      simp only at b1 b2
      have hzb : w.heap.size < WB.heap.size := by have := HZ.out; rw [← hWB]; simp; omega
      have CC2 := Lib.hid (CC.out WB LB.out)
      clear HO HZ HL CC
      go_wp2_with fail
      clear hWB
      refine CC2.out.mono ?_
      rintro e w1 ⟨rfl, l1⟩
      have hO1 := ownsRow_below OB.out l1
      have O1 := hO1
      rw [HEL.out] at O1
      have L1 := Lib.hid (lo_on LB.out l1)
      have hz1 : w.heap.size < w1.heap.size := Nat.lt_of_lt_of_le hzb l1.size
      have hlen := HEL.out
      have hcc := cellsF_at (eachL F xs k) k (by omega)
      have z1 := O1.cellAt (k * 2) (by omega)
      rw [hcc.1] at z1
      have z2 := O1.cellAt (k * 2 + 1) (by omega)
      rw [hcc.2] at z2
      have f1 := O1.frozenAt (k * 2)
      have f2 := O1.frozenAt (k * 2 + 1)
      have ON := Lib.hid (show OwnC ((w1.setCell ⟨w.heap.size, k * 2, none⟩ (.int .i64 y1)).setCell ⟨w.heap.size, k * 2 + 1, none⟩ (.int .i64 y2)) w.heap.size (.slice (some ⟨w.heap.size, 0, none⟩) xs.length xs.length) (eachL F xs (k + 1)) by
        have h := OwnC.put (w := w1) (B := w.heap.size) (g := w.heap.size) (c := xs.length) (zs := eachL F xs k) (by rw [hlen]; exact hO1) k (by omega) y1 y2
        rw [hlen, HP.out] at h
        exact h)
      have LN := Lib.hid ((L1.out.setCell (p := ⟨w.heap.size, k * 2, none⟩) (Nat.le_refl _) (.int .i64 y1)).setCell (p := ⟨w.heap.size, k * 2 + 1, none⟩) (Nat.le_refl _) (.int .i64 y2))
      have HZN := Lib.hid (show w.heap.size < ((w1.setCell ⟨w.heap.size, k * 2, none⟩ (.int .i64 y1)).setCell ⟨w.heap.size, k * 2 + 1, none⟩ (.int .i64 y2)).heap.size by simpa using hz1)
      generalize ((eachL F xs k).getD k (0, 0)).1 = o1 at z1
      generalize ((eachL F xs k).getD k (0, 0)).2 = o2 at z2
      clear O1 hO1 l1 hcc hlen HEL HP OB LB L1 CC2 hzb b1 b2 c1 c2
      go_wp2
      go_roundw
      case rel => exact ⟨k + 1, by omega, by go_num, ON, HZN, LN⟩
      case measure => simp [intOf]; omega
    · obtain rfl : k = xs.length := by omega
      have hge : ¬ (xs.length : Int) < (xs.length : Int) := by omega
      rw [eachL_all] at HO
      go_wp2
      go_ret
      exact ⟨_, rfl, HO.out, HZ.out, HL.out⟩
set_option maxRecDepth 100000 in
set_option maxHeartbeats 3200000 in
theorem each_mi (F : Int × Int → Int × Int) (v : Value) (xs : List (Int × Int)) (w : World) (hr : LoadRow w v xs) (h0 : 0 < xs.length) (hn : xs.length ≤ 2000)
    (CL : ∀ c ∈ xs, ∀ w1 : World, Below w.heap.size w w1 → Calls Try.prog 102 #[.agg #[.int .i64 c.1, .int .i64 c.2]] w1 fun e w' => e = .returned (.agg #[.int .i64 (F c).1, .int .i64 (F c).2]) ∧ Below w1.heap.size w1 w') :
    Calls Try.prog 141 #[v, .func (.func 102) #[] #[]] w fun e w' => ∃ gg, e = .returned (.slice (some ⟨gg, 0, none⟩) xs.length xs.length) ∧ OwnC w' w.heap.size (.slice (some ⟨gg, 0, none⟩) xs.length xs.length) (xs.map F) ∧ gg < w'.heap.size ∧ Below w.heap.size w w' := by
  have HCL := Lib.hid CL
  have HM := make_pairs xs.length (by omega)
  have OZ := Lib.hid (show OwnC (w.alloc (.cells (madeCells #[.int .i64 0, .int .i64 0] (xs.length * 2)) 29)) w.heap.size (.slice (some ⟨w.heap.size, 0, none⟩) xs.length xs.length) (eachL F xs 0) by
    have := ownC_zeros w xs.length (by omega)
    unfold eachL
    simpa using this)
  obtain ⟨a, c, rfl, hr⟩ := hr
  rcases hr with h | ⟨g, off, rfl, hg, hc⟩
  · subst h; simp at h0
  have HC := Lib.hid hc
  have BW := Lib.hid (below_new w (.cells (madeCells #[.int .i64 0, .int .i64 0] (xs.length * 2)) 29))
  clear hc CL
  go_enter Try.func141, Try.ntmps141
  go_wp2
  go_loopw [13] (fun i wr => ∃ k : Nat, k ≤ xs.length ∧ i = .int .i64 k ∧ Hid (OwnC wr w.heap.size (.slice (some ⟨w.heap.size, 0, none⟩) xs.length xs.length) (eachL F xs k)) ∧ Hid (w.heap.size < wr.heap.size) ∧ Hid (Below w.heap.size w wr)) (fun i _ => xs.length - (intOf i).toNat)
  case atStart => exact ⟨0, Nat.zero_le _, rfl, OZ, Lib.hid (by simp), BW⟩
  case round =>
    obtain ⟨k, hk, rfl, HO, HZ, HL⟩ := hrel
    clear HM OZ BW
    by_cases hlt : k < xs.length
    · have hlt' : (k : Int) < (xs.length : Int) := by omega
      obtain ⟨c1, c2⟩ := HC.out k hlt
      have hgr : g < wr.heap.size := Nat.lt_of_lt_of_le hg HL.out.size
      rw [← HL.out.cell (p := ⟨g, off + k * 2, none⟩) hg] at c1
      rw [← HL.out.cell (p := ⟨g, off + k * 2 + 1, none⟩) hg] at c2
      have CC := Lib.hid (HCL.out _ (mem_getD hlt))
      have HP := Lib.hid (eachL_put F xs k hlt)
      have HEL := Lib.hid (eachL_len F xs k hk)
      generalize xs.getD k (0, 0) = x at c1 c2 CC HP
      obtain ⟨x1, x2⟩ := x
      simp only at c1 c2
      obtain ⟨y, hy⟩ : ∃ y, F (x1, x2) = y := ⟨_, rfl⟩
      rw [hy] at CC HP
      obtain ⟨y1, y2⟩ := y
      simp only at CC
      clear hy
      obtain ⟨WB, hWB⟩ : ∃ X, wr.alloc (.cells #[.int .i64 x1, .int .i64 x2] 29) = X := ⟨_, rfl⟩
      have LB := Lib.hid (show Below w.heap.size w WB by rw [← hWB]; exact HL.out.alloc HL.out.size _)
      have OB := Lib.hid (show OwnC WB w.heap.size (.slice (some ⟨w.heap.size, 0, none⟩) xs.length xs.length) (eachL F xs k) by rw [← hWB]; exact ownsRow_below HO.out (below_new _ _))
      obtain ⟨_, b1, b2, _, _⟩ := (show Cel2 WB wr.heap.size (x1, x2) by rw [← hWB]; exact cel2_new _ _ _ _)
      simp only at b1 b2
      have hzb : w.heap.size < WB.heap.size := by have := HZ.out; rw [← hWB]; simp; omega
      have CC2 := Lib.hid (CC.out WB LB.out)
      clear HO HZ HL CC
      go_wp2_with fail
      clear hWB
      refine CC2.out.mono ?_
      rintro e w1 ⟨rfl, l1⟩
      have hO1 := ownsRow_below OB.out l1
      have O1 := hO1
      rw [HEL.out] at O1
      have L1 := Lib.hid (lo_on LB.out l1)
      have hz1 : w.heap.size < w1.heap.size := Nat.lt_of_lt_of_le hzb l1.size
      have hlen := HEL.out
      have hcc := cellsF_at (eachL F xs k) k (by omega)
      have z1 := O1.cellAt (k * 2) (by omega)
      rw [hcc.1] at z1
      have z2 := O1.cellAt (k * 2 + 1) (by omega)
      rw [hcc.2] at z2
      have f1 := O1.frozenAt (k * 2)
      have f2 := O1.frozenAt (k * 2 + 1)
      have ON := Lib.hid (show OwnC ((w1.setCell ⟨w.heap.size, k * 2, none⟩ (.int .i64 y1)).setCell ⟨w.heap.size, k * 2 + 1, none⟩ (.int .i64 y2)) w.heap.size (.slice (some ⟨w.heap.size, 0, none⟩) xs.length xs.length) (eachL F xs (k + 1)) by
        have h := OwnC.put (w := w1) (B := w.heap.size) (g := w.heap.size) (c := xs.length) (zs := eachL F xs k) (by rw [hlen]; exact hO1) k (by omega) y1 y2
        rw [hlen, HP.out] at h
        exact h)
      have LN := Lib.hid ((L1.out.setCell (p := ⟨w.heap.size, k * 2, none⟩) (Nat.le_refl _) (.int .i64 y1)).setCell (p := ⟨w.heap.size, k * 2 + 1, none⟩) (Nat.le_refl _) (.int .i64 y2))
      have HZN := Lib.hid (show w.heap.size < ((w1.setCell ⟨w.heap.size, k * 2, none⟩ (.int .i64 y1)).setCell ⟨w.heap.size, k * 2 + 1, none⟩ (.int .i64 y2)).heap.size by simpa using hz1)
      generalize ((eachL F xs k).getD k (0, 0)).1 = o1 at z1
      generalize ((eachL F xs k).getD k (0, 0)).2 = o2 at z2
      clear O1 hO1 l1 hcc hlen HEL HP OB LB L1 CC2 hzb b1 b2 c1 c2
      go_wp2
      go_roundw
      case rel => exact ⟨k + 1, by omega, by go_num, ON, HZN, LN⟩
      case measure => simp [intOf]; omega
    · obtain rfl : k = xs.length := by omega
      have hge : ¬ (xs.length : Int) < (xs.length : Int) := by omega
      rw [eachL_all] at HO
      go_wp2
      go_ret
      exact ⟨_, rfl, HO.out, HZ.out, HL.out⟩
set_option maxHeartbeats 800000 in
theorem mvClo_any (p q a b : Int) (b1 b2 : Nat) (w : World) (c1 : w.cell? ⟨b1, 0, none⟩ = some (.int .i64 a)) (c2 : w.cell? ⟨b2, 0, none⟩ = some (.int .i64 b)) (hp : -100000 ≤ p ∧ p ≤ 100000) (hq : -100000 ≤ q ∧ q ≤ 100000) (ha : -100000 ≤ a ∧ a ≤ 100000) (hb : -100000 ≤ b ∧ b ≤ 100000) :
    Calls Try.prog 142 #[.agg #[.int .i64 p, .int .i64 q], .pointer (some ⟨b1, 0, none⟩), .pointer (some ⟨b2, 0, none⟩)] w fun e w' => e = .returned (.agg #[.int .i64 (p + a), .int .i64 (q + b)]) ∧ Below w.heap.size w w' := by
  have d1 : ∀ o o', ((w.alloc o).alloc o').cell? ⟨b1, 0, none⟩ = some (.int .i64 a) := fun o o' => ((alloc_two w o o').cell (p := ⟨b1, 0, none⟩) (cell_lt c1)).trans c1
  have d2 : ∀ o o', ((w.alloc o).alloc o').cell? ⟨b2, 0, none⟩ = some (.int .i64 b) := fun o o' => ((alloc_two w o o').cell (p := ⟨b2, 0, none⟩) (cell_lt c2)).trans c2
  have hb1 := cell_lt c1
  have hb2 := cell_lt c2
  simp only at hb1 hb2
  obtain ⟨⟨p1, p2⟩, q1, q2⟩ := And.intro hp hq
  obtain ⟨⟨a1, a2⟩, e1, e2⟩ := And.intro ha hb
  go_enter Try.func142, Try.ntmps142
  go_wp2
  exact bodyPost_ret (v := .agg #[.int .i64 (p + a), .int .i64 (q + b)]) (by simp [results, Try.results142, go_sem]) rfl ⟨rfl, alloc_two _ _ _⟩
set_option maxHeartbeats 800000 in
theorem miClo_any (p q : Int) (w : World) (hp : -100000 ≤ p ∧ p ≤ 100000) :
    Calls Try.prog 102 #[.agg #[.int .i64 p, .int .i64 q]] w fun e w' => e = .returned (.agg #[.int .i64 (-p), .int .i64 q]) ∧ Below w.heap.size w w' := by
  obtain ⟨p1, p2⟩ := hp
  go_enter Try.func102, Try.ntmps102
  go_wp2
  exact bodyPost_ret (v := .agg #[.int .i64 (-p), .int .i64 q]) (by simp [results, Try.results102, go_sem]) rfl ⟨rfl, alloc_two _ _ _⟩
set_option maxHeartbeats 800000 in
theorem tuClo_any (p q s : Int) (b1 : Nat) (w : World) (c1 : w.cell? ⟨b1, 0, none⟩ = some (.int .i64 s)) (hs : s = 1 ∨ s = -1) (hp : -100000 ≤ p ∧ p ≤ 100000) (hq : -100000 ≤ q ∧ q ≤ 100000) :
    Calls Try.prog 101 #[.agg #[.int .i64 p, .int .i64 q], .pointer (some ⟨b1, 0, none⟩)] w fun e w' => e = .returned (.agg #[.int .i64 (s * q), .int .i64 (-s * p)]) ∧ Below w.heap.size w w' := by
  have d1 : ∀ o o', ((w.alloc o).alloc o').cell? ⟨b1, 0, none⟩ = some (.int .i64 s) := fun o o' => ((alloc_two w o o').cell (p := ⟨b1, 0, none⟩) (cell_lt c1)).trans c1
  have hb1 := cell_lt c1
  simp only at hb1
  obtain ⟨⟨p1, p2⟩, q1, q2⟩ := And.intro hp hq
  have w1 : -100000 ≤ s * q ∧ s * q ≤ 100000 := by rcases hs with rfl | rfl <;> omega
  have w2 : -100000 ≤ -s * p ∧ -s * p ≤ 100000 := by rcases hs with rfl | rfl <;> omega
  have w3 : -1 ≤ s ∧ s ≤ 1 := by omega
  obtain ⟨w11, w12⟩ := w1
  obtain ⟨w21, w22⟩ := w2
  obtain ⟨w31, w32⟩ := w3
  clear hs
  go_enter Try.func101, Try.ntmps101
  go_wp2
  exact bodyPost_ret (v := .agg #[.int .i64 (s * q), .int .i64 (-s * p)]) (by simp [results, Try.results101, go_sem]) rfl ⟨rfl, alloc_two _ _ _⟩
set_option maxHeartbeats 800000 in
theorem movedBy_any (v : Value) (xs : List (Int × Int)) (a b : Int) (w : World) (hr : LoadRow w v xs) (h0 : 0 < xs.length) (hn : xs.length ≤ 2000) (hs : SmL xs) (ha : -1000 ≤ a ∧ a ≤ 1000) (hb : -1000 ≤ b ∧ b ≤ 1000) :
    Calls Try.prog 87 #[v, .int .i64 a, .int .i64 b] w fun e w' => ∃ gg, e = .returned (.slice (some ⟨gg, 0, none⟩) xs.length xs.length) ∧ OwnC w' w.heap.size (.slice (some ⟨gg, 0, none⟩) xs.length xs.length) (xs.map (mvC a b)) ∧ gg < w'.heap.size ∧ Below w.heap.size w w' := by
  obtain ⟨W, hW⟩ : ∃ W, (w.alloc (.cells #[.int .i64 a] 3)).alloc (.cells #[.int .i64 b] 3) = W := ⟨_, rfl⟩
  have LW := Lib.hid (show Below w.heap.size w W by rw [← hW]; exact alloc_two _ _ _)
  have k1 : W.cell? ⟨w.heap.size, 0, none⟩ = some (.int .i64 a) := by
    rw [← hW, (below_new (w.alloc (.cells #[.int .i64 a] 3)) _).cell (p := ⟨w.heap.size, 0, none⟩) (by simp), World.cell?_alloc_at _ _ _ _ rfl]; rfl
  have k2 : W.cell? ⟨w.heap.size + 1, 0, none⟩ = some (.int .i64 b) := by
    rw [← hW, World.cell?_alloc_at _ _ _ _ (by simp)]; rfl
  have EA := Lib.hid (each_mv w.heap.size (w.heap.size + 1) (mvC a b) v xs W (hr.lo LW.out) h0 hn (fun c hc w1 l => by
    have := hs c hc
    have e1 := (l.cell (p := ⟨w.heap.size, 0, none⟩) (cell_lt k1)).trans k1
    have e2 := (l.cell (p := ⟨w.heap.size + 1, 0, none⟩) (cell_lt k2)).trans k2
    unfold SmC at this
    exact mvClo_any c.1 c.2 a b _ _ w1 e1 e2 (by omega) (by omega) (by omega) (by omega)))
  obtain ⟨av, cv, rfl, _⟩ := hr
  clear k1 k2
  go_enter Try.func87, Try.ntmps87
  go_wp2_with fail
  clear hW
  refine EA.out.mono ?_
  rintro e w1 ⟨gg, rfl, ho, hg, l1⟩
  go_wp2
  go_ret
  exact ⟨gg, rfl, ownC_base ho LW.out.size, hg, lo_on LW.out l1⟩
end Go.Proofs.Ytmcjichpeijiaaa
