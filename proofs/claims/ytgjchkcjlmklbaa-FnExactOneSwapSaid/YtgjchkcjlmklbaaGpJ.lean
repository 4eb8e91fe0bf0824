/- The contracts of the program's ZeroGroups, CountZero and SplitAlike. -/
import Derived.Test.YtgjchkcjlmklbaaGpI
import Derived.Test.YtgjchkcjlmklbaaImpl4
import Derived.Test.YtgjchkcjlmklbaaRows1
namespace Go.Proofs.Ytgjchkcjlmklbaa
open Go.RowKit
theorem rp_row (row : List (Int × Int)) (p : Int) : rpB row p = (rowB row && (decide (0 ≤ p) && decide (p ≤ 60))) := by
  rw [Bool.eq_iff_iff, rpB_iff, Bool.and_eq_true, rowB_iff]
  simp
theorem mineD_nil (w : World) (B E : Nat) (a : Option Addr) (c : Nat) : MineD w B E (.slice a 0 c) [] := .inl ⟨rfl, a, c, rfl⟩
theorem MineD.form {w : World} {B E : Nat} {v : Value} {xss : List (List Int)} (h : MineD w B E v xss) : ∃ a c, v = .slice a xss.length c := by
  rcases h with ⟨rfl, a, c, rfl⟩ | ⟨g, c, _, _, rfl, _⟩
  · exact ⟨a, c, rfl⟩
  · exact ⟨_, _, rfl⟩
set_option maxRecDepth 100000 in
set_option maxHeartbeats 1600000 in
theorem zeroGroups_no (v : Value) (row : List (Int × Int)) (p : Int) (w : World) (hr : LoadRow w v row) (hz : rpB row p = false) :
    Calls Try.prog 136 #[v, .int .i64 p] w fun e w' => ∃ u, e = .returned (.tuple #[u, .bool false]) ∧ MineD w' w.heap.size w'.heap.size u [] ∧ Below w.heap.size w w' := by
  rw [rp_row] at hz
  obtain ⟨W, hW⟩ : ∃ W, (w.alloc (.cells #[v] 28)).alloc (.cells #[.int .i64 p] 3) = W := ⟨_, rfl⟩
  have hs1 : (w.alloc (.cells #[v] 28)).heap.size = w.heap.size + 1 := by simp
  have LW := Lib.hid (show Below w.heap.size w W by rw [← hW]; exact ((Below.refl _ _).alloc (Nat.le_refl _) _).alloc (by rw [hs1]; omega) _)
  have c0 : W.cell? ⟨w.heap.size, 0, none⟩ = some v := by
    rw [← hW, (((Below.refl _ _).alloc (Nat.le_refl _) _ : Below (w.alloc (.cells #[v] 28)).heap.size _ _)).cell (p := ⟨w.heap.size, 0, none⟩) (by rw [hs1]; exact Nat.lt_succ_self _), World.cell?_alloc_at _ _ _ _ rfl]; rfl
  have c1 : W.cell? ⟨w.heap.size + 1, 0, none⟩ = some (.int .i64 p) := by rw [← hW, ← hs1, World.cell?_alloc_at _ _ _ _ rfl]; rfl
  have MO := Lib.hid (momentAbout_no v row p W (hr.lo LW.out) hz)
  obtain ⟨a, c, rfl, _⟩ := hr
  clear hz hs1
  go_enter Try.func136, Try.ntmps136
  go_wp2_with fail
  clear hW
  refine MO.out.mono ?_
  rintro e w1 ⟨rfl, l1⟩
  have L1 := Lib.hid (lo_on LW.out l1)
  clear l1 MO c0 c1
  go_wp2
  go_ret2
  exact ⟨_, rfl, mineD_nil _ _ _ _ _, L1.out⟩
theorem zeroGroups_any (v : Value) (row : List (Int × Int)) (p : Int) (w : World) (hr : LoadRow w v row) :
    Calls Try.prog 136 #[v, .int .i64 p] w fun e w' => ∃ u, e = .returned (.tuple #[u, .bool (rpB row p)]) ∧ MineD w' w.heap.size w'.heap.size u (cgR row p) ∧ Below w.heap.size w w' := by
  unfold cgR
  cases h : rpB row p with
  | true =>
    have hh := (rpB_iff row p).1 h
    rw [if_pos rfl]
    exact zeroGroups_yes v row p w hr hh.1 hh.2.1 hh.2.2
  | false =>
    rw [if_neg (by simp)]
    exact zeroGroups_no v row p w hr h
set_option maxHeartbeats 800000 in
theorem zeroGroupsI_any (v : Value) (row : List (Int × Int)) (p : Int) (w : World) (hr : LoadRow w v row) :
    Calls Try.prog 49 #[v, .int .i64 p] w fun e w' => ∃ u, e = .returned (.tuple #[u, .bool (zgB row p)]) ∧ MineD w' w.heap.size w'.heap.size u (zgR row p) ∧ Below w.heap.size w w' := by
  unfold zgR zgB
  by_cases h8 : row.length ≤ 8
  · have Z := zeroGroups_any v row p w hr
    rw [decide_eq_true h8, Bool.and_true]
    unfold cgR at Z
    have C := Lib.hid Z
    clear Z
    generalize (if rpB row p = true then groupsF row p else []) = R at *
    generalize rpB row p = b at *
    obtain ⟨a, c, rfl, _⟩ := hr
    have hge : ¬ (8 : Int) < (row.length : Int) := by omega
    clear h8
    go_enter Try.func49, Try.ntmps49
    go_wp2_with fail
    refine C.out.mono ?_
    rintro e w1 ⟨u, rfl, m, l⟩
    have M := Lib.hid m
    have L := Lib.hid l
    clear m l C
    go_wp2
    go_ret2
    exact ⟨_, rfl, M.out, L.out⟩
  · rw [decide_eq_false h8, Bool.and_false, if_neg (by simp)]
    obtain ⟨a, c, rfl, _⟩ := hr
    have hge : (8 : Int) < (row.length : Int) := by omega
    clear h8
    go_enter Try.func49, Try.ntmps49
    go_wp2
    go_ret2
    exact ⟨_, rfl, mineD_nil _ _ _ _ _, Below.refl _ _⟩
set_option maxHeartbeats 800000 in
theorem countZeroI_any (v : Value) (row : List (Int × Int)) (p : Int) (w : World) (hr : LoadRow w v row) :
    Calls Try.prog 54 #[v, .int .i64 p] w fun e w' => e = .returned (.tuple #[.int .i64 ((cgR row p).length : Int), .bool (rpB row p)]) ∧ Below w.heap.size w w' := by
  have C := Lib.hid (zeroGroups_any v row p w hr)
  generalize cgR row p = R at *
  generalize rpB row p = b at *
  obtain ⟨a, c, rfl, _⟩ := hr
  go_enter Try.func54, Try.ntmps54
  go_wp2_with fail
  refine C.out.mono ?_
  rintro e w1 ⟨u, rfl, m, l⟩
  obtain ⟨a2, c2, rfl⟩ := m.form
  have L := Lib.hid l
  clear m l C
  go_wp2
  go_ret2
  exact ⟨rfl, L.out⟩
theorem whole_cut {row : List (Int × Int)} (h : RowF row) (hn : row ≠ []) : (cutB (momF 0 row) (wtF row) = 1 ↔ Int.tmod (momF 0 row) (wtF row) = 0) ∧ (Int.tmod (momF 0 row) (wtF row) = 0 → cutA (momF 0 row) (wtF row) = Int.tdiv (momF 0 row) (wtF row)) := by
  have hp := (rowF_bounds h).2.2.1 hn
  refine ⟨by rw [cut_one _ _ (by omega)]; exact (Int.dvd_iff_tmod_eq_zero).trans Iff.rfl, fun hm => ?_⟩
  have h1 := (cut_one (momF 0 row) (wtF row) (by omega)).2 (Int.dvd_iff_tmod_eq_zero.2 hm)
  have h2 := cut_cross (momF 0 row) (wtF row)
  rw [h1, Int.mul_one] at h2
  generalize cutA (momF 0 row) (wtF row) = u at h2 ⊢
  rw [← h2, Int.mul_tdiv_cancel _ (by omega)]
theorem split_none {row : List (Int × Int)} (h : wholeB row = false) : spB row = false ∧ spR row = [] := by
  unfold spB spR splitF
  rw [if_neg (by simp [h])]
  exact ⟨rfl, rfl⟩
theorem whole_not {row : List (Int × Int)} (hz : RowF row) (h : cutB (momF 0 row) (wtF row) ≠ 1) (hn : row ≠ []) : wholeB row = false := by
  rw [← Bool.not_eq_true, wholeB_iff]
  rintro ⟨_, _, hm⟩
  exact h ((whole_cut hz hn).1.2 hm)
theorem part_two {row : List (Int × Int)} {xs : List Int} (h : partB row xs = true) : 2 ≤ row.length := by
  unfold partB at h
  rw [Bool.and_eq_true, List.contains_iff_mem, decide_eq_true_iff] at h
  have := List.length_pos_of_mem h.1
  omega
theorem split_at {row : List (Int × Int)} (hz : RowF row) (hm : Int.tmod (momF 0 row) (wtF row) = 0) {i : Nat} (hi : i < (groupsF row (Int.tdiv (momF 0 row) (wtF row))).length)
    (hp : partB row ((groupsF row (Int.tdiv (momF 0 row) (wtF row))).getD i []) = true) (hn : ∀ j, j < i → partB row ((groupsF row (Int.tdiv (momF 0 row) (wtF row))).getD j []) = false) :
    spB row = true ∧ spR row = (groupsF row (Int.tdiv (momF 0 row) (wtF row))).getD i [] := by
  have hw : wholeB row = true := (wholeB_iff row).2 ⟨hz, part_two hp, hm⟩
  unfold spB spR splitF
  rw [if_pos hw, find_at _ _ _ i hi hp hn]
  exact ⟨rfl, rfl⟩
theorem split_end {row : List (Int × Int)} (hn : ∀ j, j < (groupsF row (Int.tdiv (momF 0 row) (wtF row))).length → partB row ((groupsF row (Int.tdiv (momF 0 row) (wtF row))).getD j []) = false) : spB row = false ∧ spR row = [] := by
  unfold spB spR splitF
  split
  · rw [find_no _ _ _ hn]; exact ⟨rfl, rfl⟩
  · exact ⟨rfl, rfl⟩
theorem part_is {row : List (Int × Int)} {m : Nat} {xs : List Int} (h : xs ∈ levF row.length m) : partB row xs = ((decide (0 < m) && decide (xs.getD 0 0 = 0)) && decide (m < row.length)) := by
  unfold partB
  rw [lev_zero h, lev_len _ _ xs h]
set_option maxRecDepth 100000 in
set_option maxHeartbeats 3200000 in
theorem splitI_yes (v : Value) (row : List (Int × Int)) (w : World) (hr : LoadRow w v row) (hz : RowF row) (hne : row ≠ []) (hc1 : cutB (momF 0 row) (wtF row) = 1) :
    Calls Try.prog 56 #[v] w fun e w' => ∃ u, e = .returned (.tuple #[u, .bool (spB row)]) ∧ MineI w' w.heap.size w'.heap.size u (spR row) ∧ Below w.heap.size w w' := by
  have C := centreOf_yes v row w hr hz hne
  have hm := (whole_cut hz hne).1.1 hc1
  rw [hc1, (whole_cut hz hne).2 hm] at C
  have CC := Lib.hid C
  have ZG := Lib.hid (fun w1 (l : Below w.heap.size w w1) => zeroGroups_yes v row (Int.tdiv (momF 0 row) (wtF row)) w1 (hr.lo l) hz (centre_in hz hne).1 (centre_in hz hne).2)
  have HY := Lib.hid (fun i hi hp hn => split_at hz hm (i := i) hi hp hn)
  have HN := Lib.hid (fun hn => split_end (row := row) hn)
  have HM := Lib.hid (fun j (hj : j < (groupsF row (Int.tdiv (momF 0 row) (wtF row))).length) => show ∃ m, m ≤ row.length ∧ (groupsF row (Int.tdiv (momF 0 row) (wtF row))).getD j [] ∈ levF row.length m from groups_mem (p := Int.tdiv (momF 0 row) (wtF row)) (by rw [List.getD, List.getElem?_eq_getElem hj, Option.getD_some]; exact List.getElem_mem _))
  have hgl := groups_len hz.short (Int.tdiv (momF 0 row) (wtF row))
  have h12 := hz.short
  clear C hz hne hc1 hm
  generalize groupsF row (Int.tdiv (momF 0 row) (wtF row)) = G at *
  generalize Int.tdiv (momF 0 row) (wtF row) = u at *
  obtain ⟨sb, hsb⟩ : ∃ sb, spB row = sb := ⟨_, rfl⟩
  obtain ⟨sr, hsr⟩ : ∃ sr, spR row = sr := ⟨_, rfl⟩
  rw [hsb, hsr] at HY HN ⊢
  obtain ⟨a, c, rfl, _⟩ := hr
  obtain ⟨NG, hNG⟩ : ∃ NG, G.length = NG := ⟨_, rfl⟩
  have HNG := Lib.hid hNG
  rw [hNG] at hgl HY HN HM
  clear hsb hsr hNG
  go_enter Try.func56, Try.ntmps56
  go_wp2_with fail
  refine CC.out.mono ?_
  rintro e w1 ⟨rfl, l1⟩
  have k0 : (w1.alloc (.cells #[.int .i64 u, .int .i64 1] 94)).cell? ⟨w1.heap.size, 0, none⟩ = some (.int .i64 u) := by rw [World.cell?_alloc_at _ _ _ _ rfl]; rfl
  have k1 : (w1.alloc (.cells #[.int .i64 u, .int .i64 1] 94)).cell? ⟨w1.heap.size, 1, none⟩ = some (.int .i64 1) := by rw [World.cell?_alloc_at _ _ _ _ rfl]; rfl
  have L1 := Lib.hid (show Below w.heap.size w (w1.alloc (.cells #[.int .i64 u, .int .i64 1] 94)) from l1.alloc l1.size _)
  have Z := Lib.hid (ZG.out _ L1.out)
  clear l1 CC ZG
  go_wp2_with fail
  refine Z.out.mono ?_
  rintro e w2 ⟨x, rfl, m2, l2⟩
  have L2 := Lib.hid (lo_on L1.out l2)
  have hs2 : w.heap.size ≤ (w1.alloc (.cells #[.int .i64 u, .int .i64 1] 94)).heap.size := L1.out.size
  have M2 := Lib.hid m2
  obtain ⟨a2, c2, hx⟩ := m2.form
  rw [HNG.out] at hx
  subst hx
  clear l2 Z m2 k0 k1
  go_wp2
  go_loopw [31] (fun y wr => ∃ k : Nat, k ≤ NG ∧ y = .int .i64 k ∧ Hid (∀ j, j < k → partB row (G.getD j []) = false) ∧ wr = w2) (fun y _ => NG - (intOf y).toNat)
  case atStart => exact ⟨0, Nat.zero_le _, rfl, Lib.hid (fun j h => by omega), rfl⟩
  case round =>
    obtain ⟨k, hk, rfl, HP, hwr⟩ := hrel
    subst hwr
    by_cases hlt : k < NG
    · have hlt' : (k : Int) < (NG : Int) := by omega
      obtain ⟨m, hmr, hmem⟩ := HM.out k hlt
      have hpi := part_is hmem
      have HYk := Lib.hid (fun hp => HY.out k hlt hp HP.out)
      have HPn := Lib.hid (fun (hp : partB row (G.getD k []) = false) => show ∀ j, j < k + 1 → partB row (G.getD j []) = false from fun j hj => by
        by_cases e : j = k
        · rw [e]; exact hp
        · exact HP.out j (by omega))
      have hmd := M2.out
      rcases hmd with ⟨h0, _⟩ | ⟨g, c3, uf, r, e, g0, g1, _, hap, hel⟩
      · have := HNG.out; rw [h0] at this; simp at this; omega
      rw [HNG.out] at e hap hel
      obtain ⟨rfl, rfl⟩ : a2 = some ⟨g, 0, none⟩ ∧ c2 = c3 := by
        injection e with e1 e2 e3
        exact ⟨e1, e3⟩
      clear e
      obtain ⟨hcell, hmine⟩ := hel k hlt
      obtain ⟨q0, q1, _⟩ := hap k hlt
      have HMI := Lib.hid (hmine.mono (B' := w.heap.size) (E' := wr.heap.size) (by omega) (by omega) (Nat.le_refl _))
      obtain ⟨au, cu, hu, hcs⟩ := hmine.row
      obtain ⟨xs, hxs⟩ : ∃ xs, G.getD k [] = xs := ⟨_, rfl⟩
      rw [hxs] at hmem hpi HYk hu hcs HMI
      rw [hxs] at HPn
      have hl := lev_len _ _ xs hmem
      rw [hl] at hu
      rw [hu] at hcell HMI
      clear hel hap hmem hmine hu hxs HM HY HP
      by_cases h0 : m = 0
      · have HF := Lib.hid (HPn.out (by rw [hpi, h0]; rfl))
        have hq : ¬ (0 : Int) < (m : Int) := by omega
        clear hpi h0 hcs hl HYk HPn
        go_wp2
        go_roundw
        case rel => exact ⟨k + 1, by omega, by go_num, HF, by first | rfl | trivial⟩
        case measure => simp [intOf]; omega
      · rcases hcs with h | ⟨gu, ou, rfl, hgu, hcu⟩
        · rw [h] at hl; simp at hl; omega
        have hc0 := hcu 0 (by omega)
        rw [Nat.add_zero] at hc0
        have hq : (0 : Int) < (m : Int) := by omega
        have hq0 : 0 < m := by omega
        have hqd : decide (0 < m) = true := by simp; omega
        obtain ⟨z, hz0⟩ : ∃ z, xs.getD 0 0 = z := ⟨_, rfl⟩
        rw [hz0] at hc0 hpi
        rw [hqd, Bool.true_and] at hpi
        clear hcu hz0 h0 hl
        by_cases hz1 : z = 0
        · have hqz : (z == 0) = true := by simp [hz1]
          rw [decide_eq_true hz1, Bool.true_and] at hpi
          clear hz1
          by_cases hlm : m < row.length
          · have hqm : (m : Int) < (row.length : Int) := by omega
            have HF := Lib.hid (HYk.out (by rw [hpi]; simp [hlm]))
            clear hpi HYk HPn hlm
            go_wp2
            go_ret2
            exact ⟨_, by rw [HF.out.1]; rfl, by rw [HF.out.2]; exact HMI.out, L2.out⟩
          · have hqm : ¬ (m : Int) < (row.length : Int) := by omega
            have HF := Lib.hid (HPn.out (by rw [hpi]; simp [hlm]))
            clear hpi HYk HPn hlm
            go_wp2
            go_roundw
            case rel => exact ⟨k + 1, by omega, by go_num, HF, by first | rfl | trivial⟩
            case measure => simp [intOf]; omega
        · have hqz : (z == 0) = false := by simpa using hz1
          rw [decide_eq_false hz1, Bool.false_and] at hpi
          have HF := Lib.hid (HPn.out hpi)
          clear hpi HYk HPn hz1
          go_wp2
          go_roundw
          case rel => exact ⟨k + 1, by omega, by go_num, HF, by first | rfl | trivial⟩
          case measure => simp [intOf]; omega
    · obtain rfl : k = NG := by omega
      have hge : ¬ (k : Int) < (k : Int) := by omega
      have HF := Lib.hid (HN.out HP.out)
      go_wp2
      go_ret2
      exact ⟨_, by rw [HF.out.1]; rfl, by rw [HF.out.2]; exact mineI_nil _ _ _ _ _, L2.out⟩
set_option maxRecDepth 100000 in
set_option maxHeartbeats 1600000 in
theorem splitI_any (v : Value) (row : List (Int × Int)) (w : World) (hr : LoadRow w v row) :
    Calls Try.prog 56 #[v] w fun e w' => ∃ u, e = .returned (.tuple #[u, .bool (spB row)]) ∧ MineI w' w.heap.size w'.heap.size u (spR row) ∧ Below w.heap.size w w' := by
  by_cases hz : rowB row = false ∨ row = []
  · have hw : wholeB row = false := by
      rw [← Bool.not_eq_true, wholeB_iff]
      rintro ⟨h1, h2, _⟩
      rcases hz with h | h
      · rw [(rowB_iff row).2 h1] at h; cases h
      · subst h; simp at h2
    rw [(split_none hw).1, (split_none hw).2]
    have CC := Lib.hid (centreOf_no v row w hr hz)
    obtain ⟨a, c, rfl, _⟩ := hr
    clear hz hw
    go_enter Try.func56, Try.ntmps56
    go_wp2_with fail
    refine CC.out.mono ?_
    rintro e w1 ⟨rfl, l1⟩
    have L1 := Lib.hid (show Below w.heap.size w (w1.alloc (.cells #[.int .i64 0, .int .i64 0] 94)) from l1.alloc l1.size _)
    clear l1 CC
    go_wp2
    go_ret2
    exact ⟨_, rfl, mineI_nil _ _ _ _ _, L1.out⟩
  · have hz1 : RowF row := (rowB_iff row).1 (by cases h : rowB row with | true => rfl | false => exact absurd (.inl h) hz)
    have hne : row ≠ [] := fun h => hz (.inr h)
    by_cases hc1 : cutB (momF 0 row) (wtF row) = 1
    · exact splitI_yes v row w hr hz1 hne hc1
    · have hw := whole_not hz1 hc1 hne
      rw [(split_none hw).1, (split_none hw).2]
      have CC := Lib.hid (centreOf_yes v row w hr hz1 hne)
      obtain ⟨a, c, rfl, _⟩ := hr
      generalize cutA (momF 0 row) (wtF row) = x at *
      generalize cutB (momF 0 row) (wtF row) = y at *
      have hq : (y != 1) = true := by simpa using hc1
      clear hz hw hz1 hne hc1
      go_enter Try.func56, Try.ntmps56
      go_wp2_with fail
      refine CC.out.mono ?_
      rintro e w1 ⟨rfl, l1⟩
      have k1 : (w1.alloc (.cells #[.int .i64 x, .int .i64 y] 94)).cell? ⟨w1.heap.size, 1, none⟩ = some (.int .i64 y) := by rw [World.cell?_alloc_at _ _ _ _ rfl]; rfl
      have L1 := Lib.hid (show Below w.heap.size w (w1.alloc (.cells #[.int .i64 x, .int .i64 y] 94)) from l1.alloc l1.size _)
      clear l1 CC
      go_wp2
      go_ret2
      exact ⟨_, rfl, mineI_nil _ _ _ _ _, L1.out⟩
end Go.Proofs.Ytgjchkcjlmklbaa
