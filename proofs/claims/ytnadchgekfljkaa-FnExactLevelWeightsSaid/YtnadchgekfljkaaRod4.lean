/- The contracts of the program's IsLevel and of the ends at which leaves hang. -/
import Derived.Test.YtnadchgekfljkaaRod3
import Derived.Deep.RegionHeld3
import Derived.Deep.AppendLies
import Derived.Lib.SmallJoins
namespace Go.Proofs.Ytnadchgekfljkaa
open Go.RowKit
theorem turnsL_zero (m : MobV) : levelB m = true ↔ ∀ j, j < (turnsL m).length → (turnsL m).getD j 0 = 0 := by
  unfold levelB
  rw [propB_iff, turnsL_len]
  constructor
  · intro h j hj; rw [turnsL_at m j hj]; exact h j hj
  · intro h j hj; rw [← turnsL_at m j hj]; exact h j hj
set_option maxRecDepth 100000 in
theorem level_impl (v : Value) (m : MobV) (w : World) (hv : MobRow w v m) (hs : SmallM m) (hb : BndM m) :
    Calls Try.prog 33 #[v] w fun e w' => e = .returned (.tuple #[.bool (goodB m && levelB m), .bool (goodB m)]) ∧ Below w.heap.size w w' := by
  have E := Lib.hid (fun w1 (l : Below w.heap.size w w1) => turns_impl v m w1 (hv.lo l) hs hb)
  have HZ := Lib.hid (turnsL_zero m)
  have hlen : goodB m = true → (turnsL m).length ≤ 2000000 := fun hg => by have := ((goodB_iff m).1 hg).short; rw [turnsL_len]; omega
  obtain ⟨a, c0, c, d, rfl⟩ := hv.form
  generalize m.am.length = n at *
  generalize m.hu.length = n2 at *
  generalize levelB m = lv at *
  obtain ⟨W, hW⟩ : ∃ W, w.alloc (.cells #[.slice a n c, .slice c0 n2 d] 27) = W := ⟨_, rfl⟩
  have LW := Lib.hid (show Below w.heap.size w W by rw [← hW]; exact (Below.refl _ _).alloc (Nat.le_refl _) _)
  have BX := Lib.hid (show Box2 W w.heap.size (.slice a n c) (.slice c0 n2 d) by rw [← hW]; exact box2_new _ _ _ _)
  have E1 := Lib.hid (E.out W LW.out)
  clear hv hs hb E
  obtain ⟨_, u0, u1⟩ := BX.out
  cases hg : goodB m with
  | true =>
    rw [hg, rodsL_yes hg] at E1
    have hlen := hlen hg
    clear hg
    generalize turnsL m = ys at *
    go_enter Try.func33, Try.ntmps33
    go_wp2_with fail
    clear hW u0 u1
    refine E1.out.mono ?_
    rintro e w1 ⟨u, rfl, mi, l1⟩
    have AT := Lib.hid (anyTurn_any u ys lv w1 mi.row hlen HZ.out)
    have L1 := Lib.hid (lo_on LW.out l1)
    clear l1 mi E1
    go_wp2_with fail
    refine AT.out.mono ?_
    rintro e w2 ⟨rfl, l2⟩
    have L2 := Lib.hid (lo_on L1.out l2)
    clear l2 AT
    cases lv
    all_goals go_wp2
    all_goals go_ret2
    all_goals exact ⟨rfl, L2.out⟩
  | false =>
    rw [hg] at E1
    clear hg hlen
    go_enter Try.func33, Try.ntmps33
    go_wp2_with fail
    clear hW u0 u1
    refine E1.out.mono ?_
    rintro e w1 ⟨u, rfl, mi, l1⟩
    have L1 := Lib.hid (lo_on LW.out l1)
    clear l1 mi E1
    go_wp2
    go_ret2
    exact ⟨rfl, L1.out⟩
/-- The ends without rods. -/
def endT (S : RodF) (T : Nat) : List Nat := (List.range T).filter (fun t => decide (S.be t = 0))
def endP2 (t : Nat) : Int × Int := (((t / 2 : Nat) : Int), ((t % 2 : Nat) : Int))
theorem endT_yes {S : RodF} {T : Nat} (h : S.be T = 0) : endT S (T + 1) = endT S T ++ [T] := by
  unfold endT; rw [List.range_succ, List.filter_append]; simp [h]
theorem endT_no {S : RodF} {T : Nat} (h : S.be T ≠ 0) : endT S (T + 1) = endT S T := by
  unfold endT; rw [List.range_succ, List.filter_append]; simp [h]
theorem endT_len (S : RodF) (T : Nat) : (endT S T).length ≤ T := by
  have := List.length_filter_le (fun t => decide (S.be t = 0)) (List.range T)
  unfold endT; simpa using this
theorem endT_mem {S : RodF} {T t : Nat} : t ∈ endT S T ↔ t < T ∧ S.be t = 0 := by unfold endT; simp
/-- A row of ends of its own. -/
def OwnE (w : World) (B : Nat) (v : Value) (xs : List (Int × Int)) : Prop := w.ownsRow B 90 2 v xs.length (cellsF xs)
theorem loadRow_ownE {w : World} {B : Nat} {v : Value} {xs : List (Int × Int)} (h : OwnE w B v xs) : LoadRow w v xs := by
  have h' := h
  unfold OwnE at h'
  rcases h'.2 with ⟨rfl, h0⟩ | ⟨g, cap, cur, rfl, _, hb, _⟩
  · have : xs = [] := List.length_eq_zero_iff.1 h0
    subst this
    exact ⟨none, 0, rfl, .inl rfl⟩
  · refine ⟨_, cap, rfl, .inr ⟨g, 0, rfl, (Array.getElem?_eq_some_iff.1 hb).1, fun j hj => ?_⟩⟩
    have hc := cellsF_at xs j hj
    rw [Nat.zero_add, h'.cellAt (j * 2) (by omega), h'.cellAt (j * 2 + 1) (by omega)]
    exact hc
theorem ownE_snoc {w : World} {B k : Nat} {v : Value} {ys : List (Int × Int)} {p q : Int} (h : w.ownsRow B 90 2 v (k + 1) (cellsF ys ++ [.int .i64 p, .int .i64 q])) (hk : ys.length = k) : OwnE w B v (ys ++ [(p, q)]) := by
  unfold OwnE
  rw [List.length_append, hk, cellsF_app]
  exact h
theorem infoEnd : (Try.prog.info? 90).map (fun i => (i.zero, i.size, i.bytes)) = some (some (.agg #[.int .i64 0, .int .i64 0]), 2, 16) := by kernel_rfl
theorem index_ptr (v0 v1 x : Value) (e : Nat) (he : e < 2) (hx : (if e = 0 then v0 else v1) = x) (w : World) : (Instr.index 91 (.agg #[v0, v1]) (.int .i64 (e : Int))).run Try.prog w = .ok x w := by
  subst hx
  rcases (show e = 0 ∨ e = 1 by omega) with rfl | rfl
  · kernel_rfl
  · kernel_rfl
set_option maxRecDepth 100000 in
set_option maxHeartbeats 3200000 in
theorem leafEnds_any (g B n : Nat) (b : Nat → Nat) (S : RodF) (w : World) (hn : n ≤ 6) (H : RodsTo w B g 0 n b S) :
    Calls Try.prog 91 #[.slice (some ⟨g, 0, none⟩) n n] w fun e w' => ∃ u, e = .returned u ∧ OwnE w' w.heap.size u ((endT S (2 * n)).map endP2) ∧ Below w.heap.size w w' := by
  obtain ⟨i0, hi, hz0, hz1, hz2⟩ := info_parts infoEnd
  have HR := Lib.hid H
  have O0 := Lib.hid (show OwnE w w.heap.size (.slice none 0 0) ((endT S (2 * 0)).map endP2) from World.ownsRow_nil _ _ _ _)
  clear H
  go_enter Try.func91, Try.ntmps91
  go_wp2
  go_loopw [3, 10] (fun v x wr => ∃ k : Nat, k ≤ n ∧ x = .int .i64 k ∧ Hid (OwnE wr w.heap.size v ((endT S (2 * k)).map endP2)) ∧ Hid (Below w.heap.size w wr)) (fun _ x _ => n - (intOf x).toNat)
  case atStart => exact ⟨0, Nat.zero_le _, rfl, O0, Lib.hid (Below.refl _ _)⟩
  case round =>
    obtain ⟨k, hk, rfl, HO, HW⟩ := hrel
    obtain ⟨wq, rfl⟩ : ∃ wq : World, wq = wr := ⟨_, rfl⟩
    clear O0
    by_cases hlt : k < n
    · have hlt' : (k : Int) < (n : Int) := by omega
      have HRq := Lib.hid (HR.out.lo HW.out)
      have cr := HRq.out.row k hlt
      rw [if_neg (by omega)] at cr
      have c5 := (HRq.out.rods.rod k (by omega) hlt).below 0 (by omega)
      have c6 := (HRq.out.rods.rod k (by omega) hlt).below 1 (by omega)
      simp only [Nat.add_zero, Nat.reduceAdd] at c5 c6
      have HIX := Lib.hid (fun e (he : e < 2) w => index_ptr (ptrR b (S.be (2 * k))) (ptrR b (S.be (2 * k + 1))) (ptrR b (S.be (2 * k + e))) e he (by
        rcases (show e = 0 ∨ e = 1 by omega) with rfl | rfl
        · rfl
        · rfl) w)
      generalize ptrR b (S.be (2 * k)) = p0 at *
      generalize ptrR b (S.be (2 * k + 1)) = p1 at *
      clear HRq
      go_wp2
      clear cr c5 c6
      go_loopw [3, 19] (fun v x wr => ∃ e : Nat, e ≤ 2 ∧ x = .int .i64 e ∧ Hid (OwnE wr w.heap.size v ((endT S (2 * k + e)).map endP2)) ∧ Hid (Below w.heap.size w wr)) (fun _ x _ => 2 - (intOf x).toNat)
      case atStart => exact ⟨0, Nat.zero_le _, rfl, HO, HW⟩
      case round =>
        obtain ⟨e, he, rfl, HO2, HW2⟩ := hrel
        obtain ⟨wx, rfl⟩ : ∃ wx : World, wx = wr := ⟨_, rfl⟩
        clear HO HW
        by_cases hel : e < 2
        · have hel' : (e : Int) < 2 := by omega
          have hix := HIX.out e hel wx
          have hlen := endT_len S (2 * k + e)
          have HEP := Lib.hid (show endP2 (2 * k + e) = ((k : Int), (e : Int)) by unfold endP2; rw [show (2 * k + e) / 2 = k by omega, show (2 * k + e) % 2 = e by omega])
          by_cases h0 : S.be (2 * k + e) = 0
          · have HY := Lib.hid (endT_yes h0)
            rw [h0, ptrR_none _ rfl] at hix
            have hown := HO2.out
            unfold OwnE at hown
            rw [List.length_map] at hown
            have HTT := Lib.hid (show (endT S (2 * k + (e + 1))).map endP2 = (endT S (2 * k + e)).map endP2 ++ [((k : Int), (e : Int))] by rw [show 2 * k + (e + 1) = 2 * k + e + 1 by omega, HY.out, List.map_append]; simp [HEP.out])
            obtain ⟨ys, hys⟩ : ∃ ys, (endT S (2 * k + e)).map endP2 = ys := ⟨_, rfl⟩
            have HL := Lib.hid (show ys.length = (endT S (2 * k + e)).length by rw [← hys, List.length_map])
            rw [hys] at hown HTT
            generalize (endT S (2 * k + e)).length = L at *
            have hgw := HW2.out.size
            clear hys h0 HY HO2
            go_wp2_with (at_builtin; refine wpList_append_own _ rfl _ _ 87 rfl w.heap.size 90 i0 (.agg #[.int .i64 0, .int .i64 0]) 2 16 Try.underlying87 hi hz0 hz1 hz2 rfl (by decide) _ _ _ rfl (hown.alloc _) ⟨wx.heap.size, 0, none⟩ 1 1 (cellsF [((k : Int), (e : Int))]) rfl rfl (two_new _ _ _ _) (cellsF_one _) (by unfold maxLen; omega) (by omega) (by simp; omega) ?_; intro v' w3 hown' hgrow3 hnil3)
            have HNN := Lib.hid (show OwnE w3 w.heap.size v' ((endT S (2 * k + (e + 1))).map endP2) by rw [HTT.out]; exact ownE_snoc hown' HL.out)
            have HLN := Lib.hid (show Below w.heap.size w w3 from (HW2.out.alloc hgw _).grown hgrow3 (by simp; omega) (fun j hj => (hown.lt j hj).1))
            clear hown' hgrow3 hnil3 hown hix
            go_wp2
            go_roundw
            case rel => exact ⟨e + 1, by omega, by go_num, HNN, HLN⟩
            case measure => simp [intOf]; omega
          · have HN := Lib.hid (show endT S (2 * k + (e + 1)) = endT S (2 * k + e) by rw [show 2 * k + (e + 1) = 2 * k + e + 1 by omega]; exact endT_no h0)
            rw [ptrR_some _ h0] at hix
            clear h0
            go_wp2
            go_roundw
            case rel => exact ⟨e + 1, by omega, by go_num, by rw [HN.out]; exact HO2, HW2⟩
            case measure => simp [intOf]; omega
        · obtain rfl : e = 2 := by omega
          go_wp2
          go_roundw
          case rel => exact ⟨k + 1, by omega, by go_num, by rw [show 2 * (k + 1) = 2 * k + 2 by omega]; exact HO2, HW2⟩
          case measure => simp [intOf]; omega
    · obtain rfl : k = n := by omega
      have hge : ¬ (k : Int) < (k : Int) := by omega
      go_wp2
      go_ret
      exact ⟨_, rfl, HO.out, HW.out⟩
theorem leafEnds_nil (w : World) :
    Calls Try.prog 91 #[.slice none 0 0] w fun e w' => e = .returned (.slice none 0 0) ∧ w' = w := by
  go_enter Try.func91, Try.ntmps91
  go_wp2
  refine wp_loop_rounds 1 ?_
  rw [rounds_succ]
  go_wp2
  go_ret
  exact ⟨rfl, rfl⟩
end Go.Proofs.Ytnadchgekfljkaa
