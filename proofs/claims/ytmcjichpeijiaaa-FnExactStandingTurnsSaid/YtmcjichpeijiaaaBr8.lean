/- The turns for which a body stands, both sides. -/
import Derived.Test.YtmcjichpeijiaaaBr7
import Derived.Maps.AppendAt
namespace Go.Proofs.Ytmcjichpeijiaaa
open Go.RowKit Go.Maps
/-- A row of cells reads so, and does not lie in a block. -/
def RowA (w : World) (ob : Option Nat) (u : Value) (xs : List (Int × Int)) : Prop :=
  ∃ a c, u = .slice a xs.length c ∧ (xs = [] ∨ ∃ g off, a = some ⟨g, off, none⟩ ∧ g < w.heap.size ∧ some g ≠ ob ∧ ∀ j, j < xs.length → w.cell? ⟨g, off + j * 2, none⟩ = some (.int .i64 (xs.getD j (0, 0)).1) ∧ w.cell? ⟨g, off + j * 2 + 1, none⟩ = some (.int .i64 (xs.getD j (0, 0)).2))
theorem RowA.row {w : World} {ob : Option Nat} {u : Value} {xs : List (Int × Int)} (h : RowA w ob u xs) : LoadRow w u xs := by
  obtain ⟨a, c, e, h⟩ := h
  rcases h with h | ⟨g, off, e1, h1, _, h2⟩
  · exact ⟨a, c, e, .inl h⟩
  · exact ⟨a, c, e, .inr ⟨g, off, e1, h1, h2⟩⟩
theorem RowA.grown {w w' : World} {ob ob' : Option Nat} {u : Value} {xs : List (Int × Int)} (h : RowA w ob u xs) (hg : w.grownBy w' ob) (ho : ob' = ob ∨ ob' = some w.heap.size) : RowA w' ob' u xs := by
  obtain ⟨a, c, e, h⟩ := h
  rcases h with h | ⟨g, off, e1, h1, h3, h2⟩
  · exact ⟨a, c, e, .inl h⟩
  · refine ⟨a, c, e, .inr ⟨g, off, e1, Nat.lt_of_lt_of_le h1 hg.size, fun hh => ?_, fun j hj => ?_⟩⟩
    · rcases ho with e2 | e2
      · rw [e2] at hh; exact h3 hh
      · rw [e2] at hh; have := Option.some.inj hh; omega
    · have hb := hg.block g h1 h3
      rw [World.cell?_of_block (a := ⟨g, off + j * 2, none⟩) hb, World.cell?_of_block (a := ⟨g, off + j * 2 + 1, none⟩) hb]
      exact h2 j hj
theorem RowA.lo {w w' : World} {ob : Option Nat} {u : Value} {xs : List (Int × Int)} (h : RowA w ob u xs) (l : Below w.heap.size w w') : RowA w' ob u xs := by
  obtain ⟨a, c, e, h⟩ := h
  rcases h with h | ⟨g, off, e1, h1, h3, h2⟩
  · exact ⟨a, c, e, .inl h⟩
  · exact ⟨a, c, e, .inr ⟨g, off, e1, Nat.lt_of_lt_of_le h1 l.size, h3, fun j hj => by rw [l.cell (p := ⟨g, off + j * 2, none⟩) h1, l.cell (p := ⟨g, off + j * 2 + 1, none⟩) h1]; exact h2 j hj⟩⟩
theorem rowA_low {w : World} {ob : Option Nat} {u : Value} {xs : List (Int × Int)} (h : LoadRow w u xs) (ho : ∀ g, ob = some g → w.heap.size ≤ g) : RowA w ob u xs := by
  obtain ⟨a, c, e, h⟩ := h
  rcases h with h | ⟨g, off, e1, h1, h2⟩
  · exact ⟨a, c, e, .inl h⟩
  · exact ⟨a, c, e, .inr ⟨g, off, e1, h1, fun hh => by have := ho g hh.symm; omega, h2⟩⟩
theorem rowA_mine {w : World} {B E : Nat} {ob : Option Nat} {u : Value} {xs : List (Int × Int)} (h : MineL w B E u xs) (ho : ∀ g, ob = some g → g < B) : RowA w ob u xs := by
  rcases h with ⟨rfl, a, c, rfl⟩ | ⟨g, c, e, k1, k2, k3, k4, _⟩
  · exact ⟨a, c, rfl, .inl rfl⟩
  · exact ⟨_, c, e, .inr ⟨g, 0, rfl, by omega, fun hh => by have := ho g hh.symm; omega, fun j hj => by rw [Nat.zero_add]; exact k4 j hj⟩⟩
theorem ownI_blk {w : World} {B : Nat} {v : Value} {xs : List Int} (h : OwnI w B v xs) : ∀ g, v.ownBlock = some g → B ≤ g ∧ g < w.heap.size := fun g hg => by
  unfold OwnI at h
  exact h.lt g hg
theorem OwnI.lo8 {w w' : World} {B : Nat} {v : Value} {xs : List Int} (h : OwnI w B v xs) (l : Below w.heap.size w w') : OwnI w' B v xs := ownsRow_below h l
/-- The turns for which it stands, of the first so many. -/
def stL (xs : List (Int × Int)) : Nat → List Int
  | 0 => []
  | n + 1 => stL xs n ++ (if sideL (rotL xs n) = 0 then [(n : Int)] else [])
theorem stL_len (xs : List (Int × Int)) (n : Nat) : (stL xs n).length ≤ n := by
  induction n with
  | zero => exact Nat.le_refl _
  | succ n ih =>
    rw [stL, List.length_append]
    split <;> simp <;> omega
noncomputable def stR (xs : List (Int × Int)) : List Int := if bodB xs = true then stL xs 4 else []
theorem stR_len (xs : List (Int × Int)) : (stR xs).length ≤ 4 := by
  unfold stR; split
  · exact stL_len xs 4
  · simp
set_option maxRecDepth 100000 in
set_option maxHeartbeats 3200000 in
theorem specStandingTurns_any (v : Value) (xs : List (Int × Int)) (w : World) (hr : LoadRow w v xs) :
    Calls Try.prog 41 #[v] w fun e w' => ∃ u0, e = .returned (.tuple #[u0, .bool (bodB xs)]) ∧ IntRow w' u0 (stR xs) ∧ Below w.heap.size w w' := by
  obtain ⟨i0, hi, hz0, hz1, hz2⟩ := info_parts infoInt
  have LW := Lib.hid (below_new w (.cells #[] 3))
  have O0 := Lib.hid (ownI_lit0 w w.heap.size (Nat.le_refl _))
  have C := Lib.hid (l8Body_any v xs _ (hr.lo LW.out))
  have HX := Lib.hid (bodB_iff xs)
  unfold stR
  generalize bodB xs = b at *
  cases b with
  | false =>
    obtain ⟨a, c, rfl, _⟩ := hr
    go_enter Try.func41, Try.ntmps41
    go_wp2_with fail
    refine C.out.mono ?_
    rintro e w1 ⟨rfl, l1⟩
    go_wp2
    go_ret2
    exact ⟨_, rfl, (O0.out.lo8 l1).mine.row, lo_on LW.out l1⟩
  | true =>
    have hb := HX.out.1 rfl
    have SD := Lib.hid (fun n u w1 (hu : LoadRow w1 u (rotL xs n)) => l8Side_any u _ w1 hu (rotL_bod hb n))
    have TU := Lib.hid (fun n u w1 (hu : LoadRow w1 u (rotL xs n)) => show Calls Try.prog 99 #[u, .int .i64 1] w1 fun e w' => ∃ v', e = .returned v' ∧ OwnC w' w1.heap.size v' (rotL xs (n + 1)) ∧ Below w1.heap.size w1 w' from l8Turn_any u _ 1 w1 hu (rotL_bod hb n) (.inl rfl))
    have R0 := Lib.hid (show ∀ w1, Below (w.alloc (.cells #[] 3)).heap.size (w.alloc (.cells #[] 3)) w1 → RowA w1 (some w.heap.size) v (rotL xs 0) from fun w1 l => ((rowA_low (ob := some w.heap.size) hr (fun g hg => by cases hg; exact Nat.le_refl _)).lo LW.out).lo l)
    rw [if_pos rfl]
    obtain ⟨a, c, rfl, _⟩ := hr
    clear hb HX
    go_enter Try.func41, Try.ntmps41
    go_wp2_with fail
    refine C.out.mono ?_
    rintro e w1 ⟨rfl, l1⟩
    have O1 := Lib.hid (O0.out.lo8 l1)
    have L1 := Lib.hid (lo_on LW.out l1)
    have R1 := Lib.hid (R0.out w1 l1)
    clear l1 O0 LW R0
    go_wp2
    go_loopw [4, 5, 6] (fun v u i wr => ∃ k : Nat, k ≤ 4 ∧ i = .int .i64 k ∧ Hid (OwnI wr w.heap.size v (stL xs k)) ∧ Hid (RowA wr v.ownBlock u (rotL xs k)) ∧ Hid (Below w.heap.size w wr)) (fun _ _ i _ => 4 - (intOf i).toNat)
    case atStart => exact ⟨0, by omega, rfl, O1, R1, L1⟩
    case round =>
      obtain ⟨k, hk4, rfl, HO, HR, HL⟩ := hrel
      clear O1 R1 L1
      by_cases hlt : k < 4
      · have hlt' : (k : Int) < 4 := by omega
        have S1 := Lib.hid (SD.out k _ wr HR.out.row)
        have T1 := Lib.hid (fun w1 h => TU.out k u5 w1 h)
        have HS := Lib.hid (show stL xs (k + 1) = stL xs k ++ (if sideL (rotL xs k) = 0 then [(k : Int)] else []) from rfl)
        have hnk := stL_len xs k
        generalize sideL (rotL xs k) = s at S1 HS
        clear SD TU
        by_cases hs : s = 0
        · subst hs
          have HSk := Lib.hid (show stL xs (k + 1) = stL xs k ++ [(k : Int)] by rw [HS.out, if_pos rfl])
          obtain ⟨n, hn⟩ : ∃ n, (stL xs k).length = n := ⟨_, rfl⟩
          have hown := HO.out
          unfold OwnI at hown
          rw [hn] at hown hnk
          have hgw := HL.out.size
          go_wp2_with fail
          refine S1.out.mono ?_
          rintro e w' ⟨rfl, rfl⟩
          go_wp2_with (at_builtin; refine wpList_append_own_at _ rfl _ _ 41 rfl w.heap.size 3 i0 (.int .i64 0) 1 8 Try.underlying41 hi hz0 hz1 hz2 rfl (by decide) _ _ _ rfl (hown.alloc _) ⟨w'.heap.size, 0, none⟩ 1 1 [.int .i64 k] rfl rfl (by simpa using cell_one_new w' (.int .i64 k) 3) (fun x hx => by simp at hx; subst hx; rfl) (by unfold maxLen; omega) (by omega) (by simp; omega) ?_; intro v' w3 hown' hgrow3 hnil3 hat3)
          have O3 := Lib.hid (show OwnI w3 w.heap.size v' (stL xs k ++ [(k : Int)]) from ownI_snoc hown' hn)
          have L3 := Lib.hid (show Below w.heap.size w w3 from (HL.out.alloc HL.out.size _).grown hgrow3 (by simp; omega) (fun j hj => (hown.lt j hj).1))
          have R3 := Lib.hid (RowA.grown (HR.out.lo (below_new _ (.cells #[.int .i64 k] 3))) hgrow3 hat3)
          have hb3 := ownI_blk O3.out
          clear hown hown' hgrow3 hnil3 hat3
          have T3 := Lib.hid (T1.out w3 R3.out.row)
          clear S1 T1 HS HO HR
          go_wp2_with fail
          refine T3.out.mono ?_
          rintro e w4 ⟨u, rfl, ho, l4⟩
          have R4 := Lib.hid (rowA_mine (ob := v'.ownBlock) (ownC_mine ho) (fun g hg => (hb3 g hg).2))
          have O4 := Lib.hid (show OwnI w4 w.heap.size v' (stL xs (k + 1)) by rw [HSk.out]; exact O3.out.lo8 l4)
          have L4 := Lib.hid (lo_on L3.out l4)
          clear ho l4 hb3 O3 L3 R3
          go_wp2
          go_roundw
          case rel => exact ⟨k + 1, by omega, by go_num, O4, R4, L4⟩
          case measure => simp [intOf]; omega
        · have hs1 : (s == 0) = false := by simpa using hs
          have HSk := Lib.hid (show stL xs (k + 1) = stL xs k by rw [HS.out, if_neg hs, List.append_nil])
          have T3 := Lib.hid (T1.out wr HR.out.row)
          have hb3 := ownI_blk HO.out
          go_wp2_with fail
          refine S1.out.mono ?_
          rintro e w' ⟨rfl, rfl⟩
          go_wp2_with fail
          refine T3.out.mono ?_
          rintro e w4 ⟨u, rfl, ho, l4⟩
          have R4 := Lib.hid (rowA_mine (ob := u4.ownBlock) (ownC_mine ho) (fun g hg => (hb3 g hg).2))
          have O4 := Lib.hid (show OwnI w4 w.heap.size u4 (stL xs (k + 1)) by rw [HSk.out]; exact HO.out.lo8 l4)
          have L4 := Lib.hid (lo_on HL.out l4)
          clear ho l4 hb3
          go_wp2
          go_roundw
          case rel => exact ⟨k + 1, by omega, by go_num, O4, R4, L4⟩
          case measure => simp [intOf]; omega
      · obtain rfl : k = 4 := by omega
        have HI := Lib.hid HO.out.mine.row
        clear SD TU HO HR
        go_wp2
        go_ret2
        exact ⟨_, rfl, HI.out, HL.out⟩
set_option maxRecDepth 100000 in
set_option maxHeartbeats 3200000 in
theorem standingTurns_any (v : Value) (xs : List (Int × Int)) (w : World) (hr : LoadRow w v xs) (hw : WfL xs) (hn : xs.length ≤ 2000000) :
    Calls Try.prog 42 #[v] w fun e w' => ∃ u0, e = .returned (.tuple #[u0, .bool (bodB xs)]) ∧ MineI w' w.heap.size w'.heap.size u0 (stR xs) ∧ Below w.heap.size w w' := by
  obtain ⟨i0, hi, hz0, hz1, hz2⟩ := info_parts infoInt
  have C := Lib.hid (isBody_any v xs w hr hw hn)
  have HX := Lib.hid (bodB_iff xs)
  unfold stR
  generalize bodB xs = b at *
  cases b with
  | false =>
    obtain ⟨a, c, rfl, _⟩ := hr
    go_enter Try.func42, Try.ntmps42
    go_wp2_with fail
    refine C.out.mono ?_
    rintro e w1 ⟨rfl, l1⟩
    go_wp2
    go_ret2
    exact ⟨_, rfl, mineI_nil _ _ _ _ _, l1⟩
  | true =>
    have hb := HX.out.1 rfl
    have SD := Lib.hid (fun n u w1 (hu : LoadRow w1 u (rotL xs n)) => show Calls Try.prog 104 #[u] w1 fun e w' => e = .returned (.bool (decide (sideL (rotL xs n) = 0))) ∧ Below w1.heap.size w1 w' by
      have hbn := rotL_bod hb n
      have t := bodyStands_any u (rotL xs n) w1 hu hbn.wf (by have := hbn.short; omega)
      unfold stanB at t
      rw [(bodB_iff _).2 hbn] at t
      exact t)
    have TU := Lib.hid (fun n u w1 (hu : LoadRow w1 u (rotL xs n)) => show Calls Try.prog 36 #[u, .int .i64 1] w1 fun e w' => ∃ v', e = .returned (.tuple #[v', .bool true]) ∧ MineL w' w1.heap.size w'.heap.size v' (rotL xs (n + 1)) ∧ Below w1.heap.size w1 w' by
      have hbn := rotL_bod hb n
      have t := turnBody_any u (rotL xs n) 1 w1 hu hbn.wf (by have := hbn.short; omega)
      have e1 : turnB (rotL xs n) 1 = true := by
        unfold turnB
        rw [(bodB_iff _).2 hbn]; rfl
      unfold turnR at t
      rw [e1] at t
      exact t)
    have R0 := Lib.hid (show ∀ w1, Below w.heap.size w w1 → RowA w1 none v (rotL xs 0) from fun w1 l => (rowA_low (ob := none) hr (fun g hg => by cases hg)).lo l)
    rw [if_pos rfl]
    obtain ⟨a, c, rfl, _⟩ := hr
    clear hb HX
    go_enter Try.func42, Try.ntmps42
    go_wp2_with fail
    refine C.out.mono ?_
    rintro e w1 ⟨rfl, l1⟩
    have O1 := Lib.hid (ownI_nil w1 w.heap.size)
    have L1 := Lib.hid l1
    have R1 := Lib.hid (R0.out w1 l1)
    clear l1 R0
    go_wp2
    go_loopw [0, 4, 9] (fun u v i wr => ∃ k : Nat, k ≤ 4 ∧ i = .int .i64 k ∧ Hid (OwnI wr w.heap.size v (stL xs k)) ∧ Hid (RowA wr v.ownBlock u (rotL xs k)) ∧ Hid (Below w.heap.size w wr)) (fun _ _ i _ => 4 - (intOf i).toNat)
    case atStart => exact ⟨0, by omega, rfl, O1, R1, L1⟩
    case round =>
      obtain ⟨k, hk4, rfl, HO, HR, HL⟩ := hrel
      clear O1 R1 L1
      by_cases hlt : k < 4
      · have hlt' : (k : Int) < 4 := by omega
        have S1 := Lib.hid (SD.out k _ wr HR.out.row)
        have T1 := Lib.hid (fun w1 h => TU.out k u0 w1 h)
        have HS := Lib.hid (show stL xs (k + 1) = stL xs k ++ (if sideL (rotL xs k) = 0 then [(k : Int)] else []) from rfl)
        have hnk := stL_len xs k
        generalize sideL (rotL xs k) = s at S1 HS
        clear SD TU
        by_cases hs : s = 0
        · rw [decide_eq_true hs] at S1
          have HSk := Lib.hid (show stL xs (k + 1) = stL xs k ++ [(k : Int)] by rw [HS.out, if_pos hs])
          obtain ⟨n, hn⟩ : ∃ n, (stL xs k).length = n := ⟨_, rfl⟩
          clear hs HS
          go_wp2_with fail
          refine S1.out.mono ?_
          rintro e w2 ⟨rfl, l2⟩
          have L2 := Lib.hid (lo_on HL.out l2)
          have R2 := Lib.hid (HR.out.lo l2)
          have hown := HO.out.lo8 l2
          unfold OwnI at hown
          rw [hn] at hown hnk
          have hgw := L2.out.size
          clear l2 HO HR HL S1
          go_wp2_with (at_builtin; refine wpList_append_own_at _ rfl _ _ 41 rfl w.heap.size 3 i0 (.int .i64 0) 1 8 Try.underlying41 hi hz0 hz1 hz2 rfl (by decide) _ _ _ rfl (hown.alloc _) ⟨w2.heap.size, 0, none⟩ 1 1 [.int .i64 k] rfl rfl (by simpa using cell_one_new w2 (.int .i64 k) 3) (fun x hx => by simp at hx; subst hx; rfl) (by unfold maxLen; omega) (by omega) (by simp; omega) ?_; intro v' w3 hown' hgrow3 hnil3 hat3)
          have O3 := Lib.hid (show OwnI w3 w.heap.size v' (stL xs k ++ [(k : Int)]) from ownI_snoc hown' hn)
          have L3 := Lib.hid (show Below w.heap.size w w3 from (L2.out.alloc L2.out.size _).grown hgrow3 (by simp; omega) (fun j hj => (hown.lt j hj).1))
          have R3 := Lib.hid (RowA.grown (R2.out.lo (below_new _ (.cells #[.int .i64 k] 3))) hgrow3 hat3)
          have hb3 := ownI_blk O3.out
          clear hown hown' hgrow3 hnil3 hat3
          have T3 := Lib.hid (T1.out w3 R3.out.row)
          clear T1 L2 R2
          go_wp2_with fail
          refine T3.out.mono ?_
          rintro e w4 ⟨u, rfl, ho, l4⟩
          have R4 := Lib.hid (rowA_mine (ob := v'.ownBlock) ho (fun g hg => (hb3 g hg).2))
          have O4 := Lib.hid (show OwnI w4 w.heap.size v' (stL xs (k + 1)) by rw [HSk.out]; exact O3.out.lo8 l4)
          have L4 := Lib.hid (lo_on L3.out l4)
          clear ho l4 hb3 O3 L3 R3
          go_wp2
          go_roundw
          case rel => exact ⟨k + 1, by omega, by go_num, O4, R4, L4⟩
          case measure => simp [intOf]; omega
        · rw [decide_eq_false hs] at S1
          have HSk := Lib.hid (show stL xs (k + 1) = stL xs k by rw [HS.out, if_neg hs, List.append_nil])
          clear hs HS
          go_wp2_with fail
          refine S1.out.mono ?_
          rintro e w2 ⟨rfl, l2⟩
          have L2 := Lib.hid (lo_on HL.out l2)
          have T3 := Lib.hid (T1.out w2 (HR.out.lo l2).row)
          have O2 := Lib.hid (HO.out.lo8 l2)
          have hb3 := ownI_blk O2.out
          clear l2 HO HR HL S1 T1
          go_wp2_with fail
          refine T3.out.mono ?_
          rintro e w4 ⟨u, rfl, ho, l4⟩
          have R4 := Lib.hid (rowA_mine (ob := u4.ownBlock) ho (fun g hg => (hb3 g hg).2))
          have O4 := Lib.hid (show OwnI w4 w.heap.size u4 (stL xs (k + 1)) by rw [HSk.out]; exact O2.out.lo8 l4)
          have L4 := Lib.hid (lo_on L2.out l4)
          clear ho l4 hb3
          go_wp2
          go_roundw
          case rel => exact ⟨k + 1, by omega, by go_num, O4, R4, L4⟩
          case measure => simp [intOf]; omega
      · obtain rfl : k = 4 := by omega
        have hb3 := HL.out.size
        have HI := Lib.hid HO.out.mine
        clear SD TU HO HR
        go_wp2
        go_ret2
        exact ⟨_, rfl, HI.out, HL.out⟩
end Go.Proofs.Ytmcjichpeijiaaa
