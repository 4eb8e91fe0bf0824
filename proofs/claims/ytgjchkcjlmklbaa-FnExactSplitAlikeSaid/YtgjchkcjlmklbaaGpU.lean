/- The contract of the model's SplitAlike. -/
import Derived.Test.YtgjchkcjlmklbaaGpT
namespace Go.Proofs.Ytgjchkcjlmklbaa
open Go.RowKit
theorem part_twoS {row : List (Int × Int)} {xs : List Int} (h : partB row xs = true) : 2 ≤ row.length := by
  unfold partB at h
  rw [Bool.and_eq_true, List.contains_iff_mem, decide_eq_true_iff] at h
  have := List.length_pos_of_mem h.1
  omega
theorem split_atS {row : List (Int × Int)} (hw : wholeB row = true) {i : Nat} (hi : i < (groupsF row (Int.tdiv (momF 0 row) (wtF row))).length)
    (hp : partB row ((groupsF row (Int.tdiv (momF 0 row) (wtF row))).getD i []) = true) (hn : ∀ j, j < i → partB row ((groupsF row (Int.tdiv (momF 0 row) (wtF row))).getD j []) = false) :
    spB row = true ∧ spR row = (groupsF row (Int.tdiv (momF 0 row) (wtF row))).getD i [] := by
  unfold spB spR splitF
  rw [if_pos hw, find_at _ _ _ i hi hp hn]
  exact ⟨rfl, rfl⟩
theorem split_endS {row : List (Int × Int)} (hn : ∀ j, j < (groupsF row (Int.tdiv (momF 0 row) (wtF row))).length → partB row ((groupsF row (Int.tdiv (momF 0 row) (wtF row))).getD j []) = false) : spB row = false ∧ spR row = [] := by
  unfold spB spR splitF
  split
  · rw [find_no _ _ _ hn]; exact ⟨rfl, rfl⟩
  · exact ⟨rfl, rfl⟩
theorem split_noneS {row : List (Int × Int)} (h : wholeB row = false) : spB row = false ∧ spR row = [] := by
  unfold spB spR splitF
  rw [if_neg (by simp [h])]
  exact ⟨rfl, rfl⟩
theorem tdiv_tmod_small {M W : Int} (h1 : 1 ≤ W) (m0 : 0 ≤ M) (m1 : M ≤ 71280) (w1 : W ≤ 1188) : (0 ≤ Int.tmod M W ∧ Int.tmod M W ≤ 1188) ∧ 0 ≤ Int.tdiv M W ∧ Int.tdiv M W ≤ 71280 := by
  rw [Int.tmod_eq_emod_of_nonneg m0, Int.tdiv_eq_ediv_of_nonneg m0]
  have a := Int.emod_nonneg M (show W ≠ 0 by omega)
  have b := Int.emod_lt_of_pos M (show 0 < W by omega)
  have c := Int.ediv_nonneg m0 (show 0 ≤ W by omega)
  have d := Int.ediv_le_self W m0
  omega
set_option maxRecDepth 100000 in
set_option maxHeartbeats 3200000 in
theorem specSplit_no (v : Value) (row : List (Int × Int)) (w : World) (hr : LoadRow w v row) (hw : wholeB row = false) :
    Calls Try.prog 55 #[v] w fun e w' => ∃ u, e = .returned (.tuple #[u, .bool (spB row)]) ∧ IntRow w' u (spR row) ∧ Below w.heap.size w w' := by
  rw [(split_noneS hw).1, (split_noneS hw).2]
  by_cases hz : rowB row = false
  · have R := Lib.hid (l2Row_is v row false hz w hr)
    have HN := Lib.hid (below_new9 w (.cells #[] 3))
    clear hr hw hz
    go_enter Try.func55, Try.ntmps55
    go_wp2_with fail
    refine R.out.mono ?_
    rintro e w' ⟨rfl, rfl⟩
    go_wp2
    go_ret2
    exact ⟨_, rfl, intRow_nil _ _ _, HN.out⟩
  have hz : rowB row = true := by cases h : rowB row with | true => rfl | false => exact absurd h hz
  have hf := (rowB_iff row).1 hz
  have R := Lib.hid (l2Row_is v row true hz w hr)
  by_cases h2 : row.length < 2
  · have HN := Lib.hid (below_new9 w (.cells #[] 3))
    have h2' : (row.length : Int) < 2 := by omega
    obtain ⟨a, c, rfl, _⟩ := hr
    clear hw hz hf h2
    go_enter Try.func55, Try.ntmps55
    go_wp2_with fail
    refine R.out.mono ?_
    rintro e w' ⟨rfl, rfl⟩
    go_wp2
    go_ret2
    exact ⟨_, rfl, intRow_nil _ _ _, HN.out⟩
  have hm : Int.tmod (momF 0 row) (wtF row) ≠ 0 := fun h => by rw [(wholeB_iff row).2 ⟨hf, by omega, h⟩] at hw; cases hw
  have hne : row ≠ [] := fun h => by subst h; simp at h2
  have hb := rowF_bounds hf
  have hp := hb.2.2.1 hne
  have h0 := (mom0_bound row hf.each).1
  have h1 := (hb.2.2.2 0 (by omega) (by omega)).2
  have h3 := hb.2.1
  have MO := Lib.hid (fun w1 (l : Below w.heap.size w w1) => l2Moment_any v row 0 w1 (hr.lo l) hf (by omega) (by omega))
  have WE := Lib.hid (fun w1 (l : Below w.heap.size w w1) => l2Weight_any v row w1 (hr.lo l) hf)
  have hts := tdiv_tmod_small hp h0 h1 h3
  have h2' : ¬ (row.length : Int) < 2 := by omega
  obtain ⟨a, c, rfl, _⟩ := hr
  generalize momF 0 row = M at *
  generalize wtF row = N at *
  obtain ⟨⟨q0, q1⟩, _⟩ := hts
  obtain ⟨z, hzz⟩ : ∃ z, Int.tmod M N = z := ⟨_, rfl⟩
  rw [hzz] at hm q0 q1
  have hN0 : ¬ N = 0 := by omega
  have hw1 : IntKind.i64.wrap z = z := by rw [IntKind.wrap_i64]; omega
  have hw2 : RowKit.wrap64 z = z := Go.IntWalk.wrap64_in z (by omega)
  have hq : (z != 0) = true := by simpa using hm
  clear hw hz hf h2 hb hp h0 h1 h3 hne hm
  go_enter Try.func55, Try.ntmps55
  go_wp2_with fail
  refine R.out.mono ?_
  rintro e w' ⟨rfl, rfl⟩
  go_wp2_with fail
  refine (MO.out _ (Below.refl _ _)).mono ?_
  rintro e w1 ⟨rfl, l1⟩
  have L1 := Lib.hid l1
  clear l1
  go_wp2_with fail
  refine (WE.out _ L1.out).mono ?_
  rintro e w2 ⟨rfl, rfl⟩
  have HN := Lib.hid (show Below w.heap.size w (w1.alloc (.cells #[] 3)) from L1.out.alloc L1.out.size _)
  go_wp2
  go_ret2
  exact ⟨_, rfl, intRow_nil _ _ _, HN.out⟩
set_option maxRecDepth 100000 in
set_option maxHeartbeats 6400000 in
theorem specSplit_yes (v : Value) (row : List (Int × Int)) (w : World) (hr : LoadRow w v row) (hw : wholeB row = true) :
    Calls Try.prog 55 #[v] w fun e w' => ∃ u, e = .returned (.tuple #[u, .bool (spB row)]) ∧ IntRow w' u (spR row) ∧ Below w.heap.size w w' := by
  obtain ⟨hf, h2, hm⟩ := (wholeB_iff row).1 hw
  have R := Lib.hid (l2Row_is v row true ((rowB_iff row).2 hf) w hr)
  have hne : row ≠ [] := fun h => by subst h; simp at h2
  have hb := rowF_bounds hf
  have hp := hb.2.2.1 hne
  have h0 := (mom0_bound row hf.each).1
  have h1 := (hb.2.2.2 0 (by omega) (by omega)).2
  have h3 := hb.2.1
  have hcen := centre_in hf hne
  have h12 := hf.short
  have MO := Lib.hid (fun w1 (l : Below w.heap.size w w1) => l2Moment_any v row 0 w1 (hr.lo l) hf (by omega) (by omega))
  have WE := Lib.hid (fun w1 (l : Below w.heap.size w w1) => l2Weight_any v row w1 (hr.lo l) hf)
  have GR := Lib.hid (fun w1 (l : Below w.heap.size w w1) => l9Groups_any v row (Int.tdiv (momF 0 row) (wtF row)) w1 (hr.lo l) hf hcen.1 hcen.2)
  have HY := Lib.hid (fun i hi hp hn => split_atS hw (i := i) hi hp hn)
  have HN := Lib.hid (fun hn => split_endS (row := row) hn)
  have HM := Lib.hid (fun j (hj : j < (groupsF row (Int.tdiv (momF 0 row) (wtF row))).length) => show ∃ m, m ≤ row.length ∧ (groupsF row (Int.tdiv (momF 0 row) (wtF row))).getD j [] ∈ levF row.length m from groups_mem (p := Int.tdiv (momF 0 row) (wtF row)) (by rw [List.getD, List.getElem?_eq_getElem hj, Option.getD_some]; exact List.getElem_mem _))
  have hgl := groups_len h12 (Int.tdiv (momF 0 row) (wtF row))
  have h2' : ¬ (row.length : Int) < 2 := by omega
  generalize groupsF row (Int.tdiv (momF 0 row) (wtF row)) = G at *
  obtain ⟨sb, hsb⟩ : ∃ sb, spB row = sb := ⟨_, rfl⟩
  obtain ⟨sr, hsr⟩ : ∃ sr, spR row = sr := ⟨_, rfl⟩
  rw [hsb, hsr] at HY HN ⊢
  obtain ⟨a, c, rfl, _⟩ := hr
  obtain ⟨NG, hNG⟩ : ∃ NG, G.length = NG := ⟨_, rfl⟩
  have HNG := Lib.hid hNG
  rw [hNG] at hgl HY HN HM
  generalize momF 0 row = M at *
  generalize wtF row = N at *
  obtain ⟨d, hdd⟩ : ∃ d, Int.tdiv M N = d := ⟨_, rfl⟩
  rw [hdd] at hcen GR
  have hN0 : ¬ N = 0 := by omega
  have hw1 : IntKind.i64.wrap d = d := by rw [IntKind.wrap_i64]; omega
  have hw2 : RowKit.wrap64 d = d := Go.IntWalk.wrap64_in d (by omega)
  have hw3 : IntKind.i64.wrap (0 : Int) = 0 := by rw [IntKind.wrap_i64]; omega
  have hq : ((0 : Int) != 0) = false := by simp
  clear hsb hsr hNG hf h2 hb hp h0 h1 h3 hne hw
  go_enter Try.func55, Try.ntmps55
  go_wp2_with fail
  refine R.out.mono ?_
  rintro e w' ⟨rfl, rfl⟩
  go_wp2_with fail
  refine (MO.out _ (Below.refl _ _)).mono ?_
  rintro e w1 ⟨rfl, l1⟩
  have L1 := Lib.hid l1
  clear l1
  go_wp2_with fail
  refine (WE.out _ L1.out).mono ?_
  rintro e w2 ⟨rfl, rfl⟩
  go_wp2_with fail
  refine (MO.out _ L1.out).mono ?_
  rintro e w2 ⟨rfl, l2⟩
  have L2 := Lib.hid (L1.out.trans (l2.mono L1.out.size))
  clear l2 MO
  go_wp2_with fail
  refine (WE.out _ L2.out).mono ?_
  rintro e w3 ⟨rfl, rfl⟩
  have GG := Lib.hid (GR.out _ L2.out)
  clear WE GR
  go_wp2_with fail
  refine GG.out.mono ?_
  rintro e w3 ⟨x, rfl, t, l3⟩
  have L3 := Lib.hid (L2.out.trans (l3.mono L2.out.size))
  obtain ⟨g, off, cx, rfl, hg, hcs⟩ := t.tab
  have HC := Lib.hid hcs
  rw [HNG.out] at HC ⊢
  clear t l3 GG hcs
  go_wp2
  go_loopw [5] (fun y wr => ∃ k : Nat, k ≤ NG ∧ y = .int .i64 k ∧ Hid (∀ j, j < k → partB row (G.getD j []) = false) ∧ wr = w3) (fun y _ => NG - (intOf y).toNat)
  case atStart => exact ⟨0, Nat.zero_le _, rfl, Lib.hid (fun j h => by omega), rfl⟩
  case round =>
    obtain ⟨k, hk, rfl, HP, hwr⟩ := hrel
    subst hwr
    by_cases hlt : k < NG
    case neg =>
      obtain rfl : k = NG := by omega
      have hge : ¬ (k : Int) < (k : Int) := by omega
      have HF := Lib.hid (HN.out HP.out)
      have HA := Lib.hid (show Below w.heap.size w (wr.alloc (.cells #[] 3)) from L3.out.alloc L3.out.size _)
      go_wp2
      go_ret2
      exact ⟨_, by rw [HF.out.1]; rfl, by rw [HF.out.2]; exact intRow_nil _ _ _, HA.out⟩
    have hlt' : (k : Int) < (NG : Int) := by omega
    obtain ⟨m, hmr, hmem⟩ := HM.out k hlt
    have HYk := Lib.hid (fun hp => HY.out k hlt hp HP.out)
    have HPn := Lib.hid (fun (hp : partB row (G.getD k []) = false) => show ∀ j, j < k + 1 → partB row (G.getD j []) = false from fun j hj => by
      by_cases e : j = k
      · rw [e]; exact hp
      · exact HP.out j (by omega))
    obtain ⟨u, hu, hru⟩ := HC.out k hlt
    obtain ⟨xs, hxs⟩ : ∃ xs, G.getD k [] = xs := ⟨_, rfl⟩
    rw [hxs] at hmem HYk hru HPn
    have hl := lev_len _ _ xs hmem
    have HRU := Lib.hid hru.row
    have HAS := Lib.hid (l1Has_any u xs 0 wr hru.row (by omega))
    obtain ⟨gu, ou, cu, rfl, hgu, _⟩ := hru
    unfold partB at HYk HPn
    generalize xs.contains 0 = C at *
    rw [hl] at hu HYk HPn HRU HAS
    clear hmem hl hxs HM HY HP
    cases C with
    | false =>
      have HF := Lib.hid (HPn.out (by rfl))
      clear HYk HPn
      go_wp2_with fail
      refine HAS.out.mono ?_
      rintro e w' ⟨rfl, rfl⟩
      go_wp2
      go_roundw
      case rel => exact ⟨k + 1, by omega, by go_num, HF, by first | rfl | trivial⟩
      case measure => simp [intOf]; omega
    | true =>
      by_cases hlm : m < row.length
      · have hqm : (m : Int) < (row.length : Int) := by omega
        have HF := Lib.hid (HYk.out (by simp [hlm]))
        clear HYk HPn hlm
        go_wp2_with fail
        refine HAS.out.mono ?_
        rintro e w' ⟨rfl, rfl⟩
        go_wp2
        go_ret2
        exact ⟨_, by rw [HF.out.1]; rfl, by rw [HF.out.2]; exact HRU.out, L3.out⟩
      · have hqm : ¬ (m : Int) < (row.length : Int) := by omega
        have HF := Lib.hid (HPn.out (by simp [hlm]))
        clear HYk HPn hlm
        go_wp2_with fail
        refine HAS.out.mono ?_
        rintro e w' ⟨rfl, rfl⟩
        go_wp2
        go_roundw
        case rel => exact ⟨k + 1, by omega, by go_num, HF, by first | rfl | trivial⟩
        case measure => simp [intOf]; omega
theorem specSplit_any (v : Value) (row : List (Int × Int)) (w : World) (hr : LoadRow w v row) :
    Calls Try.prog 55 #[v] w fun e w' => ∃ u, e = .returned (.tuple #[u, .bool (spB row)]) ∧ IntRow w' u (spR row) ∧ Below w.heap.size w w' := by
  cases h : wholeB row with
  | true => exact specSplit_yes v row w hr h
  | false => exact specSplit_no v row w hr h
end Go.Proofs.Ytgjchkcjlmklbaa
