/- The contract of the program's HangLeaves, at every mobile and list. -/
import Derived.Test.YtnadchgekfljkaaHang2
import Derived.Test.YtnadchgekfljkaaRod2
namespace Go.Proofs.Ytnadchgekfljkaa
open Go.RowKit
set_option maxRecDepth 100000 in
set_option maxHeartbeats 1600000 in
theorem hang_no (v : Value) (m : MobV) (ax : Option Addr) (cx X : Nat) (w : World) (hv : MobRow w v m) (hs : SmallM m) (hb : BndM m) (hr : goodB m = false) :
    Calls Try.prog 38 #[v, .slice ax X cx] w fun e w' => ∃ u, e = .returned (.tuple #[u, .bool false]) ∧ MineMb w' w.heap.size w'.heap.size u nilM ∧ Below w.heap.size w w' := by
  have D := Lib.hid (fun w1 (l : Below w.heap.size w w1) => rodsOf_no v m w1 (hv.lo l) hs hb hr)
  obtain ⟨a, b, c, d, rfl⟩ := hv.form
  obtain ⟨W, hW⟩ : ∃ W, (w.alloc (.cells #[.slice a m.am.length c, .slice b m.hu.length d] 27)).alloc (.cells #[.slice none 0 0, .slice none 0 0] 27) = W := ⟨_, rfl⟩
  have LW := Lib.hid (show Below w.heap.size w W by rw [← hW]; exact ((Below.refl _ _).alloc (Nat.le_refl _) _).alloc (by simp) _)
  have BX := Lib.hid (show Box2 W w.heap.size (.slice a m.am.length c) (.slice b m.hu.length d) by rw [← hW]; exact (box2_new _ _ _ _).lo ((Below.refl _ _).alloc (Nat.le_refl _) _))
  have BY := Lib.hid (show Box2 W (w.heap.size + 1) (.slice none 0 0) (.slice none 0 0) by rw [← hW]; have := box2_new (w.alloc (.cells #[.slice a m.am.length c, .slice b m.hu.length d] 27)) (.slice none 0 0) (.slice none 0 0) 27; simpa using this)
  have FY := Lib.hid (show ∀ j, W.frozen? ⟨w.heap.size + 1, j, none⟩ = false by rw [← hW]; exact fun j => World.frozen?_alloc_at _ _ _ _ (by simp))
  have D1 := Lib.hid (D.out W LW.out)
  generalize m.am.length = n at *
  generalize m.hu.length = n2 at *
  clear hv hs hb D hr
  obtain ⟨_, u0, u1⟩ := BX.out
  go_enter Try.func38, Try.ntmps38
  go_wp2_with fail
  clear hW u0 u1
  refine D1.out.mono ?_
  rintro e' w1 ⟨rfl, l1⟩
  go_wp2_with fail
  refine (leafEnds_nil w1).mono ?_
  rintro e' w2 ⟨rfl, rfl⟩
  have L1 := Lib.hid (lo_on LW.out l1)
  obtain ⟨by0, y0, y1⟩ := BY.out.lo l1
  have fy : ∀ j, w2.frozen? ⟨w.heap.size + 1, j, none⟩ = false := fun j => (l1.frozen (p := ⟨w.heap.size + 1, j, none⟩) BY.out.1).trans (FY.out j)
  have fy0 := fy 0
  have fy1 := fy 1
  have TS := Lib.hid (two_set w2 (w.heap.size + 1) 0 (.slice none 0 0) (.slice none 0 0) y0 y1)
  have LF := Lib.hid (L1.out.setCell (p := ⟨w.heap.size + 1, 0, none⟩) (Nat.le_succ _) (.slice none 0 0) |>.setCell (p := ⟨w.heap.size + 1, 1, none⟩) (Nat.le_succ _) (.slice none 0 0))
  clear l1 D1 fy
  go_wp2
  obtain ⟨q0, q1, _⟩ := TS.out
  exact bodyPost_ret (v := .tuple #[.agg #[.slice none 0 0, .slice none 0 0], .bool false]) (by simp [results, Try.results38, go_sem, q0, q1]) rfl ⟨_, rfl, minePl_nilM _ _ _ LF.out.size, LF.out⟩
set_option maxRecDepth 100000 in
set_option maxHeartbeats 1600000 in
theorem hang_len (v : Value) (m : MobV) (ax : Option Addr) (cx X : Nat) (w : World) (hv : MobRow w v m) (hb : BndM m) (hf : MobF m) (hX : X ≠ m.am.length + 1) :
    Calls Try.prog 38 #[v, .slice ax X cx] w fun e w' => ∃ u, e = .returned (.tuple #[u, .bool false]) ∧ MineMb w' w.heap.size w'.heap.size u nilM ∧ Below w.heap.size w w' := by
  have D := Lib.hid (fun w1 (l : Below w.heap.size w w1) => rodsOf_yes v m w1 (hv.lo l) hb hf)
  have h6 := hf.short
  have HTN := Lib.hid (show (endT (rodF m) (2 * m.am.length)).length = m.am.length + 1 by rw [ends_len hf _ (Nat.le_refl _), leaf_total hf])
  obtain ⟨a, b, c, d, rfl⟩ := hv.form
  obtain ⟨W, hW⟩ : ∃ W, (w.alloc (.cells #[.slice a m.am.length c, .slice b m.hu.length d] 27)).alloc (.cells #[.slice none 0 0, .slice none 0 0] 27) = W := ⟨_, rfl⟩
  have LW := Lib.hid (show Below w.heap.size w W by rw [← hW]; exact ((Below.refl _ _).alloc (Nat.le_refl _) _).alloc (by simp) _)
  have BX := Lib.hid (show Box2 W w.heap.size (.slice a m.am.length c) (.slice b m.hu.length d) by rw [← hW]; exact (box2_new _ _ _ _).lo ((Below.refl _ _).alloc (Nat.le_refl _) _))
  have BY := Lib.hid (show Box2 W (w.heap.size + 1) (.slice none 0 0) (.slice none 0 0) by rw [← hW]; have := box2_new (w.alloc (.cells #[.slice a m.am.length c, .slice b m.hu.length d] 27)) (.slice none 0 0) (.slice none 0 0) 27; simpa using this)
  have FY := Lib.hid (show ∀ j, W.frozen? ⟨w.heap.size + 1, j, none⟩ = false by rw [← hW]; exact fun j => World.frozen?_alloc_at _ _ _ _ (by simp))
  have D1 := Lib.hid (D.out W LW.out)
  generalize m.am.length = n at *
  generalize m.hu.length = n2 at *
  clear hv hb D hf
  obtain ⟨_, u0, u1⟩ := BX.out
  go_enter Try.func38, Try.ntmps38
  go_wp2_with fail
  clear hW u0 u1
  refine D1.out.mono ?_
  rintro e' w1 ⟨g, bb, rfl, hr, hg, l0⟩
  have LE := Lib.hid (leafEnds_any g _ n bb (rodF m) w1 h6 hr)
  clear hr
  go_wp2_with fail
  refine LE.out.mono ?_
  rintro e' w2 ⟨ue, rfl, oe, l2⟩
  have l1 := lo_on l0 l2
  obtain ⟨ae, ce, rfl, _⟩ := loadRow_ownE oe
  have hEN : ((endT (rodF m) (2 * n)).map endP2).length = n + 1 := by rw [List.length_map]; exact HTN.out
  rw [hEN]
  have hXN : ¬ (X : Int) = ((n + 1 : Nat) : Int) := by omega
  obtain ⟨N, hN⟩ : ∃ N, n + 1 = N := ⟨_, rfl⟩
  rw [hN] at hXN ⊢
  clear LE oe hEN l0 l2
  have L1 := Lib.hid (lo_on LW.out l1)
  obtain ⟨by0, y0, y1⟩ := BY.out.lo l1
  have fy : ∀ j, w2.frozen? ⟨w.heap.size + 1, j, none⟩ = false := fun j => (l1.frozen (p := ⟨w.heap.size + 1, j, none⟩) BY.out.1).trans (FY.out j)
  have fy0 := fy 0
  have fy1 := fy 1
  have TS := Lib.hid (two_set w2 (w.heap.size + 1) 0 (.slice none 0 0) (.slice none 0 0) y0 y1)
  have LF := Lib.hid (L1.out.setCell (p := ⟨w.heap.size + 1, 0, none⟩) (Nat.le_succ _) (.slice none 0 0) |>.setCell (p := ⟨w.heap.size + 1, 1, none⟩) (Nat.le_succ _) (.slice none 0 0))
  clear l1 D1 fy
  go_wp2
  obtain ⟨q0, q1, _⟩ := TS.out
  exact bodyPost_ret (v := .tuple #[.agg #[.slice none 0 0, .slice none 0 0], .bool false]) (by simp [results, Try.results38, go_sem, q0, q1]) rfl ⟨_, rfl, minePl_nilM _ _ _ LF.out.size, LF.out⟩
theorem hang_any (v vx : Value) (m : MobV) (xs : List Int) (w : World) (hv : MobRow w v m) (hs : SmallM m) (hb : BndM m) (hx : IntRow w vx xs) (hxb : ∀ i, -9223372036854775808 ≤ xs.getD i 0 ∧ xs.getD i 0 ≤ 9223372036854775807) :
    Calls Try.prog 38 #[v, vx] w fun e w' => ∃ u, e = .returned (.tuple #[u, .bool (hangB m xs)]) ∧ MineMb w' w.heap.size w'.heap.size u (hungM m xs) ∧ Below w.heap.size w w' := by
  cases h : goodB m with
  | false =>
    have e : hangB m xs = false := by unfold hangB; rw [h]; rfl
    have e2 : hungM m xs = nilM := by unfold hungM; rw [e]; rfl
    rw [e, e2]
    obtain ⟨ax, cx, rfl, _⟩ := hx
    exact hang_no v m ax cx _ w hv hs hb h
  | true =>
    have hf := (goodB_iff m).1 h
    by_cases hl : xs.length = m.am.length + 1
    · have e : hangB m xs = goodB (hangM m xs) := by unfold hangB; rw [h, hang_good hf xs hl]; rfl
      have e2 : hungM m xs = keptM (hangM m xs) := by unfold hungM keptM; rw [e]
      rw [e, e2]
      exact hang_yes v vx m xs w hv hb hf hx hl hxb
    · have e : hangB m xs = false := by
        unfold hangB areB
        rw [show decide ((xs.length : Int) = (m.am.length : Int) + 1) = false from decide_eq_false (by omega)]
        simp
      have e2 : hungM m xs = nilM := by unfold hungM; rw [e]; rfl
      rw [e, e2]
      obtain ⟨ax, cx, rfl, _⟩ := hx
      exact hang_len v m ax cx _ w hv hb hf hl
theorem smallM_hung (m : MobV) (xs : List Int) : SmallM (hungM m xs) := by
  unfold hungM
  split
  · rename_i h
    unfold hangB at h
    simp only [Bool.and_eq_true] at h
    have hf := (goodB_iff m).1 h.1
    exact ⟨hf.small.1, by show (hungL m xs).length ≤ _; rw [hungL_len]; exact hf.small.1⟩
  · exact smallM_nil
theorem wf_bnd {xs : List Int} (h : ∀ n ∈ xs, (Lit.int .i64 n).wf = true) (i : Nat) : -9223372036854775808 ≤ xs.getD i 0 ∧ xs.getD i 0 ≤ 9223372036854775807 := by
  have := range_i64 h i
  rwa [← List.getD_eq_getElem?_getD] at this
end Go.Proofs.Ytnadchgekfljkaa
