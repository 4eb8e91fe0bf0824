/- The contracts of the program's eachRod, RodWeights, RodTurns and IsLevel. -/
import Derived.Test.YtnadchgekfljkaaRod2
import Derived.Test.YtnadchgekfljkaaMob4
import Derived.OwnWalk
namespace Go.Proofs.Ytnadchgekfljkaa
open Go.RowKit
theorem RodsTo.lo {w w' : World} {B g k n : Nat} {b : Nat → Nat} {S : RodF} (h : RodsTo w B g k n b S) (l : Below w.heap.size w w') : RodsTo w' B g k n b S where
  rods := h.rods.lo l
  row := fun j hj => by rw [l.cell (p := ⟨g, j, none⟩) h.lt]; exact h.row j hj
  fz := fun j => by rw [l.frozen (p := ⟨g, j, none⟩) h.lt]; exact h.fz j
  lt := Nat.lt_of_lt_of_le h.lt l.size
  apart := h.apart
/-- A row of integers with room, just made. -/
theorem ownI_room (w : World) (n B : Nat) (hB : B ≤ w.heap.size) (hn : n ≤ 2000000) : OwnI (w.alloc (.cells (madeCells #[.int .i64 0] n) 3)) B (.slice (some ⟨w.heap.size, 0, none⟩) 0 n) [] := by
  unfold OwnI
  refine ⟨rfl, .inr ⟨w.heap.size, n, madeCells #[.int .i64 0] n, rfl, hB, ?_, Nat.zero_le _, by unfold maxLen; omega, ?_, rfl⟩⟩
  · exact heap_alloc_new w _
  · rw [← Array.length_toList, toList_madeCells_one]; simp
theorem owns_drewN {w : World} {B k s : Nat} {e : TypeId} {v : Value} {xs : List Value} (h : w.ownsRow B e s v k xs) (q : Nat) (w2 : World) (hw : w2 = w.drewN q) : w2.ownsRow B e s v k xs := by subst hw; exact h
theorem make_room (n : Nat) (hn : n ≤ 2000000) (u : World) :
    (Instr.makeSlice 31 (.int .i64 0) (.int .i64 (n : Int))).run Try.prog u = .ok (.slice (some ⟨u.heap.size, 0, none⟩) 0 n) (u.alloc (.cells (madeCells #[.int .i64 0] n) 3)) := by
  obtain ⟨i0, hi, hz0, hz1, hz2⟩ := info_parts infoInt
  have h := run_make (P := Try.prog) u 31 3 i0 (.int .i64 0) Try.underlying31 hi hz0 .i64 .i64 0 (n : Int) (by omega) (by omega) (by rw [hz2]; omega) (by omega)
  simpa [hz1, Value.cells] using h
theorem map_snoc (f : Nat → Int) (k : Nat) : (List.range (k + 1)).map f = (List.range k).map f ++ [f k] := by rw [List.range_succ, List.map_append]; rfl
theorem ar_rodF {m : MobV} (hf : MobF m) (t : Nat) (ht : t < 2 * m.am.length) : 0 ≤ (rodF m).ar t ∧ (rodF m).ar t ≤ 24 := by
  have := (hf.ends t ht).1
  simp only [rodF]
  omega
theorem turnR_rodF {m : MobV} (hf : MobF m) (i : Nat) (hi : i < m.am.length) : turnR (rodF m) (wtM m) i = turnM m i := by
  unfold turnR turnM
  rw [atR_rodF hf _ (by omega), atR_rodF hf _ (by omega)]
  rfl
set_option maxRecDepth 100000 in
set_option maxHeartbeats 3200000 in
theorem eachRod_weight (v : Value) (m : MobV) (w : World) (hv : MobRow w v m) (hb : BndM m) (hf : MobF m) :
    Calls Try.prog 81 #[v, .func (.func 82) #[] #[]] w fun e w' => ∃ u, e = .returned (.tuple #[u, .bool true]) ∧ MineI w' w.heap.size w'.heap.size u ((List.range m.am.length).map (wtM m)) ∧ Below w.heap.size w w' := by
  obtain ⟨i0, hi, hz0, hz1, hz2⟩ := info_parts infoInt
  have h1 := hf.one
  have h6 := hf.short
  have RO := Lib.hid (fun w1 (l : Below w.heap.size w w1) => rodsOf_yes v m w1 (hv.lo l) hb hf)
  have C := Lib.hid (fun (B : Nat) (b : Nat → Nat) (i : Nat) (w1 : World) (hi : i < m.am.length) (H : RodsIn w1 B 0 m.am.length b (fun i => (i : Int)) (rodF m)) => show Calls Try.prog 82 #[.pointer (some ⟨b i, 0, none⟩)] w1 fun r w'' => r = .returned (.int .i64 (wtM m i)) ∧ ∃ d, w'' = w1.drewN d from weight_any (wtR_rodF hf) i w1 hi H)
  obtain ⟨a, c0, c, d, rfl⟩ := hv.form
  obtain ⟨n, hn⟩ : ∃ n, m.am.length = n := ⟨_, rfl⟩
  obtain ⟨W, hW⟩ : ∃ W, w.alloc (.cells #[.slice a m.am.length c, .slice c0 m.hu.length d] 27) = W := ⟨_, rfl⟩
  have LW := Lib.hid (show Below w.heap.size w W by rw [← hW]; exact (Below.refl _ _).alloc (Nat.le_refl _) _)
  have BX := Lib.hid (show Box2 W w.heap.size (.slice a m.am.length c) (.slice c0 m.hu.length d) by rw [← hW]; exact box2_new _ _ _ _)
  have RO1 := Lib.hid (RO.out W LW.out)
  rw [hn] at RO1 C h1 h6
  rw [hn] at BX hW
  rw [hn]
  have MR := make_room n (by omega)
  clear hv hb hf RO
  generalize wtM m = T at *
  obtain ⟨_, u0, u1⟩ := BX.out
  go_enter Try.func81, Try.ntmps81
  go_wp2_with fail
  clear hW u0 u1
  refine RO1.out.mono ?_
  rintro e w1 ⟨g, b, rfl, H, hg, l1⟩
  have HR := Lib.hid H
  have L1 := Lib.hid (lo_on LW.out l1)
  have hw1 := L1.out.size
  clear H l1 RO1
  obtain ⟨W2, hW2⟩ : ∃ W2, w1.alloc (.cells (madeCells #[.int .i64 0] n) 3) = W2 := ⟨_, rfl⟩
  have O2 := Lib.hid (show OwnI W2 w1.heap.size (.slice (some ⟨w1.heap.size, 0, none⟩) 0 n) ((List.range 0).map T) by rw [← hW2]; exact ownI_room w1 n _ (Nat.le_refl _) (by omega))
  have L2 := Lib.hid (show Below w1.heap.size w1 W2 by rw [← hW2]; exact (Below.refl _ _).alloc (Nat.le_refl _) _)
  go_wp2
  clear hW2
  go_loopw [8, 21] (fun v x wr => ∃ k : Nat, k ≤ n ∧ x = .int .i64 k ∧ Hid (OwnI wr w1.heap.size v ((List.range k).map T)) ∧ Hid (Below w1.heap.size w1 wr)) (fun _ x _ => n - (intOf x).toNat)
  case atStart => exact ⟨0, Nat.zero_le _, rfl, O2, L2⟩
  case round =>
    obtain ⟨k, hk, rfl, HO, HW⟩ := hrel
    obtain ⟨wq, rfl⟩ : ∃ wq : World, wq = wr := ⟨_, rfl⟩
    clear O2 L2
    by_cases hlt : k < n
    · have hlt' : (k : Int) < (n : Int) := by omega
      have HRq := Lib.hid (HR.out.lo HW.out)
      have cr := HRq.out.row k hlt
      rw [if_neg (by omega)] at cr
      have hgl := HRq.out.lt
      have CK := Lib.hid (C.out _ b k wq hlt HRq.out.rods)
      have HS := Lib.hid (map_snoc T k)
      have hlen : ((List.range k).map T).length = k := by simp
      have hown := HO.out
      unfold OwnI at hown
      rw [hlen] at hown
      obtain ⟨ys, hys⟩ : ∃ ys, (List.range k).map T = ys := ⟨_, rfl⟩
      rw [hys] at hown HS hlen
      obtain ⟨z, hz⟩ : ∃ z, T k = z := ⟨_, rfl⟩
      rw [hz] at HS CK
      have HL := Lib.hid hlen
      have hgw := HW.out.size
      clear hys hz hlen HRq HO
      go_wp2_with fail
      refine CK.out.mono ?_
      rintro e w2 ⟨rfl, q, hw2⟩
      have hown2 := owns_drewN hown q w2 hw2
      have HW2 := Lib.hid (show Below w1.heap.size w1 w2 by rw [hw2]; exact lo_drewN HW.out q)
      have hs2 := HW2.out.size
      clear hown hw2 CK HW cr hgl
      go_wp2_with (at_builtin; refine wpList_append_own _ rfl _ _ 31 rfl w1.heap.size 3 i0 (.int .i64 0) 1 8 Try.underlying31 hi hz0 hz1 hz2 rfl (by decide) _ _ _ rfl (hown2.alloc _) ⟨w2.heap.size, 0, none⟩ 1 1 [.int .i64 z] rfl rfl (cell_one_new _ _ _) (fun x hx => by simp at hx; subst hx; rfl) (by unfold maxLen; omega) (by omega) (by simp; omega) ?_; intro v' w3 hown' hgrow3 hnil3)
      have HNN := Lib.hid (show OwnI w3 w1.heap.size v' ((List.range (k + 1)).map T) by rw [HS.out]; exact ownI_snoc hown' HL.out)
      have HLN := Lib.hid (show Below w1.heap.size w1 w3 from (HW2.out.alloc hs2 _).grown hgrow3 (by simp; omega) (fun j hj => (hown2.lt j hj).1))
      clear hown' hgrow3 hnil3 hown2
      go_wp2
      go_roundw
      case rel => exact ⟨k + 1, by omega, by go_num, HNN, HLN⟩
      case measure => simp [intOf]; omega
    · obtain rfl : k = n := by omega
      have hge : ¬ (k : Int) < (k : Int) := by omega
      have LF := Lib.hid (L1.out.trans (HW.out.mono hw1))
      go_wp2
      go_ret2
      exact ⟨_, rfl, HO.out.mine.mono hw1 (Nat.le_refl _) (Nat.le_refl _), LF.out⟩
set_option maxRecDepth 100000 in
theorem eachRod_weight_no (v : Value) (m : MobV) (w : World) (hv : MobRow w v m) (hs : SmallM m) (hb : BndM m) (hf : goodB m = false) :
    Calls Try.prog 81 #[v, .func (.func 82) #[] #[]] w fun e w' => ∃ u, e = .returned (.tuple #[u, .bool false]) ∧ MineI w' w.heap.size w'.heap.size u [] ∧ Below w.heap.size w w' := by
  have RO := Lib.hid (fun w1 (l : Below w.heap.size w w1) => rodsOf_no v m w1 (hv.lo l) hs hb hf)
  obtain ⟨a, c0, c, d, rfl⟩ := hv.form
  generalize m.am.length = n at *
  generalize m.hu.length = n2 at *
  obtain ⟨W, hW⟩ : ∃ W, w.alloc (.cells #[.slice a n c, .slice c0 n2 d] 27) = W := ⟨_, rfl⟩
  have LW := Lib.hid (show Below w.heap.size w W by rw [← hW]; exact (Below.refl _ _).alloc (Nat.le_refl _) _)
  have BX := Lib.hid (show Box2 W w.heap.size (.slice a n c) (.slice c0 n2 d) by rw [← hW]; exact box2_new _ _ _ _)
  have RO1 := Lib.hid (RO.out W LW.out)
  have MR := make_room 0 (by omega)
  simp only [Int.natCast_zero] at MR
  clear hv hs hb hf RO
  obtain ⟨_, u0, u1⟩ := BX.out
  go_enter Try.func81, Try.ntmps81
  go_wp2_with fail
  clear hW u0 u1
  refine RO1.out.mono ?_
  rintro e w1 ⟨rfl, l1⟩
  have L1 := Lib.hid (lo_on LW.out l1)
  have hw1 := L1.out.size
  clear l1 RO1
  have LF := Lib.hid (L1.out.alloc hw1 (.cells (madeCells #[.int .i64 0] 0) 3))
  go_wp2
  refine wp_loop_rounds 1 ?_
  rw [rounds_succ]
  go_wp2
  go_ret2
  exact ⟨_, rfl, mineI_nil _ _ _ _ _, LF.out⟩
set_option maxRecDepth 100000 in
theorem weights_impl (v : Value) (m : MobV) (w : World) (hv : MobRow w v m) (hs : SmallM m) (hb : BndM m) :
    Calls Try.prog 25 #[v] w fun e w' => ∃ u, e = .returned (.tuple #[u, .bool (goodB m)]) ∧ MineI w' w.heap.size w'.heap.size u (rodsL m (weightsL m)) ∧ Below w.heap.size w w' := by
  have E := Lib.hid (fun w1 (l : Below w.heap.size w w1) => show Calls Try.prog 81 #[v, .func (.func 82) #[] #[]] w1 fun e w' => ∃ u, e = .returned (.tuple #[u, .bool (goodB m)]) ∧ MineI w' w1.heap.size w'.heap.size u (rodsL m (weightsL m)) ∧ Below w1.heap.size w1 w' by
    cases hg : goodB m with
    | true => rw [rodsL_yes hg]; exact eachRod_weight v m w1 (hv.lo l) hb ((goodB_iff m).1 hg)
    | false => rw [rodsL_no hg]; exact eachRod_weight_no v m w1 (hv.lo l) hs hb hg)
  obtain ⟨a, c0, c, d, rfl⟩ := hv.form
  generalize rodsL m (weightsL m) = ys at *
  generalize goodB m = r at *
  generalize m.am.length = n at *
  generalize m.hu.length = n2 at *
  obtain ⟨W, hW⟩ : ∃ W, w.alloc (.cells #[.slice a n c, .slice c0 n2 d] 27) = W := ⟨_, rfl⟩
  have LW := Lib.hid (show Below w.heap.size w W by rw [← hW]; exact (Below.refl _ _).alloc (Nat.le_refl _) _)
  have BX := Lib.hid (show Box2 W w.heap.size (.slice a n c) (.slice c0 n2 d) by rw [← hW]; exact box2_new _ _ _ _)
  have E1 := Lib.hid (E.out W LW.out)
  clear hv hs hb E
  obtain ⟨_, u0, u1⟩ := BX.out
  go_enter Try.func25, Try.ntmps25
  go_wp2_with fail
  clear hW u0 u1
  refine E1.out.mono ?_
  rintro e w1 ⟨u, rfl, mi, l1⟩
  have M := Lib.hid (mi.mono LW.out.size (Nat.le_refl _) (Nat.le_refl _))
  have L1 := Lib.hid (lo_on LW.out l1)
  clear l1 mi E1
  go_wp2
  go_ret2
  exact ⟨u, rfl, M.out, L1.out⟩
set_option maxRecDepth 100000 in
set_option maxHeartbeats 3200000 in
theorem eachRod_turn (v : Value) (m : MobV) (w : World) (hv : MobRow w v m) (hb : BndM m) (hf : MobF m) :
    Calls Try.prog 81 #[v, .func (.func 85) #[] #[]] w fun e w' => ∃ u, e = .returned (.tuple #[u, .bool true]) ∧ MineI w' w.heap.size w'.heap.size u ((List.range m.am.length).map (turnM m)) ∧ Below w.heap.size w w' := by
  obtain ⟨i0, hi, hz0, hz1, hz2⟩ := info_parts infoInt
  have h1 := hf.one
  have h6 := hf.short
  have RO := Lib.hid (fun w1 (l : Below w.heap.size w w1) => rodsOf_yes v m w1 (hv.lo l) hb hf)
  have C := Lib.hid (fun (B : Nat) (b : Nat → Nat) (i : Nat) (w1 : World) (hi : i < m.am.length) (H : RodsIn w1 B 0 m.am.length b (fun i => (i : Int)) (rodF m)) => show Calls Try.prog 85 #[.pointer (some ⟨b i, 0, none⟩)] w1 fun r w'' => r = .returned (.int .i64 (turnM m i)) ∧ ∃ d, w'' = w1.drewN d from by rw [← turnR_rodF hf i hi]; exact turn_any (wtR_rodF hf) i w1 hi (ar_rodF hf) H)
  obtain ⟨a, c0, c, d, rfl⟩ := hv.form
  obtain ⟨n, hn⟩ : ∃ n, m.am.length = n := ⟨_, rfl⟩
  obtain ⟨W, hW⟩ : ∃ W, w.alloc (.cells #[.slice a m.am.length c, .slice c0 m.hu.length d] 27) = W := ⟨_, rfl⟩
  have LW := Lib.hid (show Below w.heap.size w W by rw [← hW]; exact (Below.refl _ _).alloc (Nat.le_refl _) _)
  have BX := Lib.hid (show Box2 W w.heap.size (.slice a m.am.length c) (.slice c0 m.hu.length d) by rw [← hW]; exact box2_new _ _ _ _)
  have RO1 := Lib.hid (RO.out W LW.out)
  rw [hn] at RO1 C h1 h6
  rw [hn] at BX hW
  rw [hn]
  have MR := make_room n (by omega)
  clear hv hb hf RO
  generalize turnM m = T at *
  obtain ⟨_, u0, u1⟩ := BX.out
  go_enter Try.func81, Try.ntmps81
  go_wp2_with fail
  clear hW u0 u1
  refine RO1.out.mono ?_
  rintro e w1 ⟨g, b, rfl, H, hg, l1⟩
  have HR := Lib.hid H
  have L1 := Lib.hid (lo_on LW.out l1)
  have hw1 := L1.out.size
  clear H l1 RO1
  obtain ⟨W2, hW2⟩ : ∃ W2, w1.alloc (.cells (madeCells #[.int .i64 0] n) 3) = W2 := ⟨_, rfl⟩
  have O2 := Lib.hid (show OwnI W2 w1.heap.size (.slice (some ⟨w1.heap.size, 0, none⟩) 0 n) ((List.range 0).map T) by rw [← hW2]; exact ownI_room w1 n _ (Nat.le_refl _) (by omega))
  have L2 := Lib.hid (show Below w1.heap.size w1 W2 by rw [← hW2]; exact (Below.refl _ _).alloc (Nat.le_refl _) _)
  go_wp2
  clear hW2
  go_loopw [8, 21] (fun v x wr => ∃ k : Nat, k ≤ n ∧ x = .int .i64 k ∧ Hid (OwnI wr w1.heap.size v ((List.range k).map T)) ∧ Hid (Below w1.heap.size w1 wr)) (fun _ x _ => n - (intOf x).toNat)
  case atStart => exact ⟨0, Nat.zero_le _, rfl, O2, L2⟩
  case round =>
    obtain ⟨k, hk, rfl, HO, HW⟩ := hrel
    obtain ⟨wq, rfl⟩ : ∃ wq : World, wq = wr := ⟨_, rfl⟩
    clear O2 L2
    by_cases hlt : k < n
    · have hlt' : (k : Int) < (n : Int) := by omega
      have HRq := Lib.hid (HR.out.lo HW.out)
      have cr := HRq.out.row k hlt
      rw [if_neg (by omega)] at cr
      have hgl := HRq.out.lt
      have CK := Lib.hid (C.out _ b k wq hlt HRq.out.rods)
      have HS := Lib.hid (map_snoc T k)
      have hlen : ((List.range k).map T).length = k := by simp
      have hown := HO.out
      unfold OwnI at hown
      rw [hlen] at hown
      obtain ⟨ys, hys⟩ : ∃ ys, (List.range k).map T = ys := ⟨_, rfl⟩
      rw [hys] at hown HS hlen
      obtain ⟨z, hz⟩ : ∃ z, T k = z := ⟨_, rfl⟩
      rw [hz] at HS CK
      have HL := Lib.hid hlen
      have hgw := HW.out.size
      clear hys hz hlen HRq HO
      go_wp2_with fail
      refine CK.out.mono ?_
      rintro e w2 ⟨rfl, q, hw2⟩
      have hown2 := owns_drewN hown q w2 hw2
      have HW2 := Lib.hid (show Below w1.heap.size w1 w2 by rw [hw2]; exact lo_drewN HW.out q)
      have hs2 := HW2.out.size
      clear hown hw2 CK HW cr hgl
      go_wp2_with (at_builtin; refine wpList_append_own _ rfl _ _ 31 rfl w1.heap.size 3 i0 (.int .i64 0) 1 8 Try.underlying31 hi hz0 hz1 hz2 rfl (by decide) _ _ _ rfl (hown2.alloc _) ⟨w2.heap.size, 0, none⟩ 1 1 [.int .i64 z] rfl rfl (cell_one_new _ _ _) (fun x hx => by simp at hx; subst hx; rfl) (by unfold maxLen; omega) (by omega) (by simp; omega) ?_; intro v' w3 hown' hgrow3 hnil3)
      have HNN := Lib.hid (show OwnI w3 w1.heap.size v' ((List.range (k + 1)).map T) by rw [HS.out]; exact ownI_snoc hown' HL.out)
      have HLN := Lib.hid (show Below w1.heap.size w1 w3 from (HW2.out.alloc hs2 _).grown hgrow3 (by simp; omega) (fun j hj => (hown2.lt j hj).1))
      clear hown' hgrow3 hnil3 hown2
      go_wp2
      go_roundw
      case rel => exact ⟨k + 1, by omega, by go_num, HNN, HLN⟩
      case measure => simp [intOf]; omega
    · obtain rfl : k = n := by omega
      have hge : ¬ (k : Int) < (k : Int) := by omega
      have LF := Lib.hid (L1.out.trans (HW.out.mono hw1))
      go_wp2
      go_ret2
      exact ⟨_, rfl, HO.out.mine.mono hw1 (Nat.le_refl _) (Nat.le_refl _), LF.out⟩
set_option maxRecDepth 100000 in
theorem eachRod_turn_no (v : Value) (m : MobV) (w : World) (hv : MobRow w v m) (hs : SmallM m) (hb : BndM m) (hf : goodB m = false) :
    Calls Try.prog 81 #[v, .func (.func 85) #[] #[]] w fun e w' => ∃ u, e = .returned (.tuple #[u, .bool false]) ∧ MineI w' w.heap.size w'.heap.size u [] ∧ Below w.heap.size w w' := by
  have RO := Lib.hid (fun w1 (l : Below w.heap.size w w1) => rodsOf_no v m w1 (hv.lo l) hs hb hf)
  obtain ⟨a, c0, c, d, rfl⟩ := hv.form
  generalize m.am.length = n at *
  generalize m.hu.length = n2 at *
  obtain ⟨W, hW⟩ : ∃ W, w.alloc (.cells #[.slice a n c, .slice c0 n2 d] 27) = W := ⟨_, rfl⟩
  have LW := Lib.hid (show Below w.heap.size w W by rw [← hW]; exact (Below.refl _ _).alloc (Nat.le_refl _) _)
  have BX := Lib.hid (show Box2 W w.heap.size (.slice a n c) (.slice c0 n2 d) by rw [← hW]; exact box2_new _ _ _ _)
  have RO1 := Lib.hid (RO.out W LW.out)
  have MR := make_room 0 (by omega)
  simp only [Int.natCast_zero] at MR
  clear hv hs hb hf RO
  obtain ⟨_, u0, u1⟩ := BX.out
  go_enter Try.func81, Try.ntmps81
  go_wp2_with fail
  clear hW u0 u1
  refine RO1.out.mono ?_
  rintro e w1 ⟨rfl, l1⟩
  have L1 := Lib.hid (lo_on LW.out l1)
  have hw1 := L1.out.size
  clear l1 RO1
  have LF := Lib.hid (L1.out.alloc hw1 (.cells (madeCells #[.int .i64 0] 0) 3))
  go_wp2
  refine wp_loop_rounds 1 ?_
  rw [rounds_succ]
  go_wp2
  go_ret2
  exact ⟨_, rfl, mineI_nil _ _ _ _ _, LF.out⟩
set_option maxRecDepth 100000 in
theorem turns_impl (v : Value) (m : MobV) (w : World) (hv : MobRow w v m) (hs : SmallM m) (hb : BndM m) :
    Calls Try.prog 31 #[v] w fun e w' => ∃ u, e = .returned (.tuple #[u, .bool (goodB m)]) ∧ MineI w' w.heap.size w'.heap.size u (rodsL m (turnsL m)) ∧ Below w.heap.size w w' := by
  have E := Lib.hid (fun w1 (l : Below w.heap.size w w1) => show Calls Try.prog 81 #[v, .func (.func 85) #[] #[]] w1 fun e w' => ∃ u, e = .returned (.tuple #[u, .bool (goodB m)]) ∧ MineI w' w1.heap.size w'.heap.size u (rodsL m (turnsL m)) ∧ Below w1.heap.size w1 w' by
    cases hg : goodB m with
    | true => rw [rodsL_yes hg]; exact eachRod_turn v m w1 (hv.lo l) hb ((goodB_iff m).1 hg)
    | false => rw [rodsL_no hg]; exact eachRod_turn_no v m w1 (hv.lo l) hs hb hg)
  obtain ⟨a, c0, c, d, rfl⟩ := hv.form
  generalize rodsL m (turnsL m) = ys at *
  generalize goodB m = r at *
  generalize m.am.length = n at *
  generalize m.hu.length = n2 at *
  obtain ⟨W, hW⟩ : ∃ W, w.alloc (.cells #[.slice a n c, .slice c0 n2 d] 27) = W := ⟨_, rfl⟩
  have LW := Lib.hid (show Below w.heap.size w W by rw [← hW]; exact (Below.refl _ _).alloc (Nat.le_refl _) _)
  have BX := Lib.hid (show Box2 W w.heap.size (.slice a n c) (.slice c0 n2 d) by rw [← hW]; exact box2_new _ _ _ _)
  have E1 := Lib.hid (E.out W LW.out)
  clear hv hs hb E
  obtain ⟨_, u0, u1⟩ := BX.out
  go_enter Try.func31, Try.ntmps31
  go_wp2_with fail
  clear hW u0 u1
  refine E1.out.mono ?_
  rintro e w1 ⟨u, rfl, mi, l1⟩
  have M := Lib.hid (mi.mono LW.out.size (Nat.le_refl _) (Nat.le_refl _))
  have L1 := Lib.hid (lo_on LW.out l1)
  clear l1 mi E1
  go_wp2
  go_ret2
  exact ⟨u, rfl, M.out, L1.out⟩
/-- The first turn that is not 0, or -1. -/
def FirstTurn (xs : List Int) (w : World) (e : Ending) (w' : World) : Prop := ∃ z : Int, e = .returned (.int .i64 z) ∧ (0 ≤ z ↔ ¬ ∀ j, j < xs.length → xs.getD j 0 = 0) ∧ Below w.heap.size w w'
theorem isTurn_is (z : Int) (r : Bool) (h : (z != 0) = r) (w : World) : Calls Try.prog 88 #[.int .i64 z] w fun e w' => e = .returned (.bool r) ∧ w = w' := by
  subst h
  go_enter Try.func88, Try.ntmps88
  go_wp2
  go_ret
  exact ⟨rfl, rfl⟩
set_option maxHeartbeats 800000 in
theorem indexTurn_any (v : Value) (xs : List Int) (w : World) (hr : IntRow w v xs) (hn : xs.length ≤ 2000000) :
    Calls Try.prog 144 #[v, .func (.func 88) #[] #[]] w (FirstTurn xs w) := by
  obtain ⟨a, c, rfl, hr⟩ := hr
  go_enter Try.func144, Try.ntmps144
  go_wp2
  go_loopw [8] (fun i wr => ∃ k : Nat, k ≤ xs.length ∧ i = .int .i64 k ∧ Hid (∀ j, j < k → xs.getD j 0 = 0) ∧ Hid (Below w.heap.size w wr)) (fun i _ => xs.length - (intOf i).toNat)
  case atStart => exact ⟨0, Nat.zero_le _, rfl, Lib.hid (fun j h => by omega), Lib.hid (Below.refl _ _)⟩
  case round =>
    obtain ⟨k, hk, rfl, HS, HW⟩ := hrel
    by_cases hlt : k < xs.length
    · rcases hr with h | ⟨g, off, rfl, hg, hc⟩
      · subst h; simp at hlt
      have h1 := hc k hlt
      rw [← HW.out.cell (p := ⟨g, off + k, none⟩) hg] at h1
      have hlt' : (k : Int) < (xs.length : Int) := by omega
      by_cases hb : xs.getD k 0 = 0
      · have D := Lib.hid (fun w => isTurn_is (xs.getD k 0) false (by rw [hb]; rfl) w)
        have HX := Lib.hid hb
        generalize xs.getD k 0 = x at h1 D
        clear hc hb
        go_wp2_with fail
        refine (D.out _).mono ?_
        rintro e w' ⟨rfl, rfl⟩
        go_wp2
        go_roundw
        case rel =>
          refine ⟨k + 1, by omega, by go_num, Lib.hid (fun j hj => ?_), HW⟩
          by_cases e : j = k
          · rw [e]; exact HX.out
          · exact HS.out j (by omega)
        case measure => simp [intOf]; omega
      · have HF := Lib.hid (show ¬ ∀ j, j < xs.length → xs.getD j 0 = 0 from fun f => hb (f k hlt))
        have D := Lib.hid (fun w => isTurn_is (xs.getD k 0) true (by simpa using hb) w)
        generalize xs.getD k 0 = x at h1 D
        clear hc hb
        go_wp2_with fail
        refine (D.out _).mono ?_
        rintro e w' ⟨rfl, rfl⟩
        go_wp2
        go_ret
        exact ⟨_, rfl, ⟨fun _ => HF.out, fun _ => by omega⟩, HW.out⟩
    · obtain rfl : k = xs.length := by omega
      have hge : ¬ (xs.length : Int) < (xs.length : Int) := by omega
      go_wp2
      go_ret
      exact ⟨_, rfl, ⟨fun h => absurd h (by decide), fun h => absurd HS.out h⟩, HW.out⟩
theorem anyTurn_any (v : Value) (xs : List Int) (r : Bool) (w : World) (hr : IntRow w v xs) (hn : xs.length ≤ 2000000) (hx : r = true ↔ ∀ j, j < xs.length → xs.getD j 0 = 0) :
    Calls Try.prog 87 #[v, .func (.func 88) #[] #[]] w fun e w' => e = .returned (.bool (!r)) ∧ Below w.heap.size w w' := by
  have C := Lib.hid (indexTurn_any v xs w hr hn)
  clear hr
  go_enter Try.func87, Try.ntmps87
  go_wp2_with fail
  refine C.out.mono ?_
  rintro e w1 ⟨z, rfl, hz, l1⟩
  have L1 := Lib.hid l1
  rw [← hx] at hz
  have HZ := Lib.hid hz
  clear hz hx l1 C
  by_cases h : 0 ≤ z
  · have hr : r = false := by have := HZ.out.1 h; cases r <;> simp_all
    subst hr
    go_wp2
    go_ret
    exact ⟨rfl, L1.out⟩
  · have hr : r = true := by cases r with
      | true => rfl
      | false => exact absurd (HZ.out.2 (by simp)) h
    subst hr
    go_wp2
    go_ret
    exact ⟨congrArg (fun b => Ending.returned (.bool b)) (decide_eq_false (by omega)), L1.out⟩
end Go.Proofs.Ytnadchgekfljkaa
