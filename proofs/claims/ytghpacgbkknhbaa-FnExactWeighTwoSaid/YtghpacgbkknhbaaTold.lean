/- The contracts of the functions that tell what can be weighed, the program's and the model's. -/
import Derived.Test.YtghpacgbkknhbaaWeigh2
import Derived.Test.YtghpacgbkknhbaaSums
namespace Go.Proofs.Ytghpacgbkknhbaa
open Go.RowKit
noncomputable def toldN (lo : Int) (xs : List Int) (n : Nat) : List Int := ((List.range n).map (fun i : Nat => (i : Int) + 1)).filter (fun z => propB (ReachF lo xs xs.length z))
theorem toldN_snoc (lo : Int) (xs : List Int) (n : Nat) : toldN lo xs (n + 1) = toldN lo xs n ++ (if propB (ReachF lo xs xs.length ((n : Int) + 1)) = true then [(n : Int) + 1] else []) := by
  unfold toldN
  rw [List.range_succ, List.map_append, List.filter_append]
  congr 1
  simp only [List.map_cons, List.map_nil, List.filter_cons, List.filter_nil]
theorem toldN_len (lo : Int) (xs : List Int) (n : Nat) : (toldN lo xs n).length ≤ n := by
  have := List.length_filter_le (fun z => propB (ReachF lo xs xs.length z)) ((List.range n).map (fun i : Nat => (i : Int) + 1))
  unfold toldN
  simpa using this
theorem toldF_is (lo : Int) (xs : List Int) (T : Nat) (h : (T : Int) = sumF xs) : toldF lo xs = toldN lo xs T := by
  unfold toldF toldN
  rw [← h, Int.toNat_natCast]
theorem kit_sum {xs : List Int} (K : KitF xs) : 1 ≤ sumF xs ∧ sumF xs ≤ 600 := by
  have := sum_small K.each xs.length (Nat.le_refl _)
  rw [List.take_length] at this
  have := K.one
  have := K.short
  omega
theorem toldF_len (lo : Int) {xs : List Int} (K : KitF xs) : (toldF lo xs).length ≤ 600 := by
  obtain ⟨a, b⟩ := kit_sum K
  have h : (((sumF xs).toNat : Nat) : Int) = sumF xs := by omega
  rw [toldF_is lo xs _ h]
  have := toldN_len lo xs (sumF xs).toNat
  omega
set_option maxRecDepth 100000 in
set_option maxHeartbeats 1600000 in
theorem l3Told_any (v : Value) (lo : Int) (xs : List Int) (w : World) (hr : ToldRow w v lo xs) (K : KitF xs) :
    Calls Try.prog 107 #[v] w fun e w' => ∃ u, e = .returned u ∧ IntRow w' u (toldF lo xs) ∧ Below w.heap.size w w' := by
  obtain ⟨i0, hi, hz0, hz1, hz2⟩ := info_parts infoInt
  obtain ⟨g, T, c, rfl, hT, hg, hc⟩ := hr
  have hT6 : T ≤ 600 := by have := kit_sum K; omega
  rw [toldF_is lo xs T hT]
  have HC := Lib.hid hc
  have hrow0 := ownI_lit0 w w.heap.size (Nat.le_refl _)
  clear hc hT K
  go_enter Try.func107, Try.ntmps107
  go_wp2
  go_loopw [3, 4] (fun u i wr => ∃ k : Nat, k ≤ T ∧ i = .int .i64 ((k + 1 : Nat) : Int) ∧ Hid (OwnI wr w.heap.size u (toldN lo xs k)) ∧ Hid (Below w.heap.size w wr)) (fun _ i _ => T + 1 - (intOf i).toNat)
  case atStart => exact ⟨0, Nat.zero_le _, rfl, Lib.hid hrow0, Lib.hid ((Below.refl _ _).alloc (Nat.le_refl _) _)⟩
  case round =>
    obtain ⟨k, hk, rfl, HO, HW⟩ := hrel
    clear hrow0
    by_cases hlt : k < T
    · have h1 := HC.out (k + 1) (by omega)
      rw [← HW.out.cell (p := ⟨g, T + (k + 1), none⟩) hg] at h1
      have hlt' : ((k + 1 : Nat) : Int) < ((T + 1 : Nat) : Int) := by omega
      have HS := Lib.hid (toldN_snoc lo xs k)
      have hcast : ((k + 1 : Nat) : Int) = (k : Int) + 1 := by omega
      rw [hcast] at h1
      cases hb : propB (ReachF lo xs xs.length ((k : Int) + 1)) with
      | false =>
        rw [hb] at h1
        have HN := Lib.hid (show toldN lo xs (k + 1) = toldN lo xs k by rw [HS.out, hb]; simp)
        clear hb hcast
        go_wp2
        go_roundw
        case rel => exact ⟨k + 1, by omega, by go_num, by rw [HN.out]; exact HO, HW⟩
        case measure => simp [intOf]; omega
      | true =>
        rw [hb] at h1
        have HN := Lib.hid (show toldN lo xs (k + 1) = toldN lo xs k ++ [(k : Int) + 1] by rw [HS.out, hb]; simp)
        have hown := HO.out
        unfold OwnI at hown
        have hlen := toldN_len lo xs k
        obtain ⟨m, hm⟩ : ∃ m, (toldN lo xs k).length = m := ⟨_, rfl⟩
        rw [hm] at hown hlen
        have HM := Lib.hid hm
        have hgw := HW.out.size
        clear hb hcast hm
        go_wp2_with (at_builtin; refine wpList_append_own _ rfl _ _ 24 rfl w.heap.size 3 i0 (.int .i64 0) 1 8 Try.underlying24 hi hz0 hz1 hz2 rfl (by decide) _ _ _ rfl (hown.alloc _) ⟨wr.heap.size, 0, none⟩ 1 1 [.int .i64 ((k + 1 : Nat) : Int)] rfl rfl (cell_one_new _ _ _) (fun x hx => by simp at hx; subst hx; rfl) (by unfold maxLen; omega) (by omega) (by simp; omega) ?_; intro v' w3 hown' hgrow3 hnil3)
        have HNN := Lib.hid (show OwnI w3 w.heap.size v' (toldN lo xs (k + 1)) by
          rw [HN.out]
          refine ownI_snoc (k := m) ?_ HM.out
          rw [show (k : Int) + 1 = ((k + 1 : Nat) : Int) by omega]
          exact hown')
        have HL := Lib.hid (show Below w.heap.size w w3 from (HW.out.alloc HW.out.size _).grown hgrow3 (by simp; omega) (fun j hj => (hown.lt j hj).1))
        clear hown' hgrow3 hnil3 hown h1
        go_wp2
        go_roundw
        case rel => exact ⟨k + 1, by omega, by go_num, HNN, HL⟩
        case measure => simp [intOf]; omega
    · obtain rfl : k = T := by omega
      have hge : ¬ ((k + 1 : Nat) : Int) < ((k + 1 : Nat) : Int) := by omega
      go_wp2
      go_ret
      exact ⟨_, rfl, HO.out.mine.row, HW.out⟩
/-- What WeighOne and WeighTwo answer. -/
noncomputable def weighR (two : Bool) (xs : List Int) : List Int × Bool := if kitB xs = true then (toldF (loF two) xs, true) else ([], false)
theorem weighR_len (two : Bool) (xs : List Int) : (weighR two xs).1.length ≤ 2000000 := by
  unfold weighR
  split
  · rename_i h
    have := toldF_len (loF two) ((propB_iff _).1 (show propB (KitF xs) = true from h))
    simp only; omega
  · simp
theorem weighable_no (v : Value) (xs : List Int) (two : Bool) (w : World) (hr : IntRow w v xs) (hn : xs.length ≤ 2000000) (h : kitB xs = false) :
    Calls Try.prog 106 #[v, .bool two] w fun e w' => e = .returned (.tuple #[.slice none 0 0, .bool false]) ∧ Below w.heap.size w w' := by
  have IK := Lib.hid (isKit_any v xs w hr hn)
  rw [h] at IK
  clear hr h
  go_enter Try.func106, Try.ntmps106
  go_wp2_with fail
  refine IK.out.mono ?_
  rintro e w1 ⟨rfl, l1⟩
  have L1 := Lib.hid l1
  clear l1 IK
  go_wp2
  go_ret2
  exact ⟨rfl, L1.out⟩
theorem weighable_any (v : Value) (xs : List Int) (two : Bool) (w : World) (hr : IntRow w v xs) (hn : xs.length ≤ 2000000) :
    Calls Try.prog 106 #[v, .bool two] w fun e w' => ∃ u, e = .returned (.tuple #[u, .bool (weighR two xs).2]) ∧ MineI w' w.heap.size w'.heap.size u (weighR two xs).1 ∧ Below w.heap.size w w' := by
  unfold weighR
  cases h : kitB xs with
  | true =>
    have K := (propB_iff _).1 (show propB (KitF xs) = true from h)
    rw [if_pos rfl]
    cases two with
    | false => exact weighable_one v xs w hr K
    | true => exact weighable_two v xs w hr K
  | false =>
    rw [if_neg (by simp)]
    refine (weighable_no v xs two w hr hn h).mono ?_
    rintro e w' ⟨rfl, l⟩
    exact ⟨_, rfl, mineI_nil _ _ _ _ _, l⟩
theorem weighOne_impl (v : Value) (xs : List Int) (w : World) (hr : IntRow w v xs) (hn : xs.length ≤ 2000000) :
    Calls Try.prog 25 #[v] w fun e w' => ∃ u, e = .returned (.tuple #[u, .bool (weighR false xs).2]) ∧ MineI w' w.heap.size w'.heap.size u (weighR false xs).1 ∧ Below w.heap.size w w' := by
  have C := Lib.hid (weighable_any v xs false w hr hn)
  generalize (weighR false xs).1 = ys at *
  generalize (weighR false xs).2 = b at *
  clear hr
  go_enter Try.func25, Try.ntmps25
  go_wp2_with fail
  refine C.out.mono ?_
  rintro e w' ⟨u, rfl, m, l⟩
  have M := Lib.hid m
  have L := Lib.hid l
  clear m l
  go_wp2
  go_ret2
  exact ⟨u, rfl, M.out, L.out⟩
theorem weighTwo_impl (v : Value) (xs : List Int) (w : World) (hr : IntRow w v xs) (hn : xs.length ≤ 2000000) :
    Calls Try.prog 27 #[v] w fun e w' => ∃ u, e = .returned (.tuple #[u, .bool (weighR true xs).2]) ∧ MineI w' w.heap.size w'.heap.size u (weighR true xs).1 ∧ Below w.heap.size w w' := by
  have C := Lib.hid (weighable_any v xs true w hr hn)
  generalize (weighR true xs).1 = ys at *
  generalize (weighR true xs).2 = b at *
  clear hr
  go_enter Try.func27, Try.ntmps27
  go_wp2_with fail
  refine C.out.mono ?_
  rintro e w' ⟨u, rfl, m, l⟩
  have M := Lib.hid m
  have L := Lib.hid l
  clear m l
  go_wp2
  go_ret2
  exact ⟨u, rfl, M.out, L.out⟩
theorem weighOne_spec (v : Value) (xs : List Int) (w : World) (hr : IntRow w v xs) (hn : xs.length ≤ 2000000) :
    Calls Try.prog 26 #[v] w fun e w' => ∃ u, e = .returned (.tuple #[u, .bool (weighR false xs).2]) ∧ IntRow w' u (weighR false xs).1 ∧ Below w.heap.size w w' := by
  have IK := Lib.hid (l3Kit_any v xs w hr hn)
  unfold weighR
  cases h : kitB xs with
  | false =>
    rw [h] at IK
    rw [if_neg (by simp)]
    clear hr h
    go_enter Try.func26, Try.ntmps26
    go_wp2_with fail
    refine IK.out.mono ?_
    rintro e w1 ⟨rfl, l1⟩
    have L1 := Lib.hid l1
    clear l1 IK
    go_wp2
    go_ret2
    exact ⟨_, rfl, intRow_nil _ _ _, L1.out.alloc L1.out.size _⟩
  | true =>
    have K := (propB_iff _).1 (show propB (KitF xs) = true from h)
    have HK := Lib.hid K
    rw [h] at IK
    rw [if_pos rfl]
    have SU := Lib.hid (fun w1 (l : Below w.heap.size w w1) => l3Sums_any v xs false w1 (hr.lo l) K)
    clear hr h K
    go_enter Try.func26, Try.ntmps26
    go_wp2_with fail
    refine IK.out.mono ?_
    rintro e w1 ⟨rfl, l1⟩
    have L1 := Lib.hid l1
    have S1 := Lib.hid (SU.out w1 l1)
    clear l1 IK SU
    go_wp2_with fail
    refine S1.out.mono ?_
    rintro e w2 ⟨u, rfl, t, l2⟩
    have L2 := Lib.hid (lo_on L1.out l2)
    have T2 := Lib.hid (l3Told_any u (loF false) xs w2 t HK.out)
    clear t l2 S1 L1
    go_wp2_with fail
    refine T2.out.mono ?_
    rintro e w3 ⟨u3, rfl, m, l3⟩
    have M := Lib.hid m
    have L3 := Lib.hid (lo_on L2.out l3)
    clear m l3 T2
    go_wp2
    go_ret2
    exact ⟨u3, rfl, M.out, L3.out⟩
theorem weighTwo_spec (v : Value) (xs : List Int) (w : World) (hr : IntRow w v xs) (hn : xs.length ≤ 2000000) :
    Calls Try.prog 28 #[v] w fun e w' => ∃ u, e = .returned (.tuple #[u, .bool (weighR true xs).2]) ∧ IntRow w' u (weighR true xs).1 ∧ Below w.heap.size w w' := by
  have IK := Lib.hid (l3Kit_any v xs w hr hn)
  unfold weighR
  cases h : kitB xs with
  | false =>
    rw [h] at IK
    rw [if_neg (by simp)]
    clear hr h
    go_enter Try.func28, Try.ntmps28
    go_wp2_with fail
    refine IK.out.mono ?_
    rintro e w1 ⟨rfl, l1⟩
    have L1 := Lib.hid l1
    clear l1 IK
    go_wp2
    go_ret2
    exact ⟨_, rfl, intRow_nil _ _ _, L1.out.alloc L1.out.size _⟩
  | true =>
    have K := (propB_iff _).1 (show propB (KitF xs) = true from h)
    have HK := Lib.hid K
    rw [h] at IK
    rw [if_pos rfl]
    have SU := Lib.hid (fun w1 (l : Below w.heap.size w w1) => l3Sums_any v xs true w1 (hr.lo l) K)
    clear hr h K
    go_enter Try.func28, Try.ntmps28
    go_wp2_with fail
    refine IK.out.mono ?_
    rintro e w1 ⟨rfl, l1⟩
    have L1 := Lib.hid l1
    have S1 := Lib.hid (SU.out w1 l1)
    clear l1 IK SU
    go_wp2_with fail
    refine S1.out.mono ?_
    rintro e w2 ⟨u, rfl, t, l2⟩
    have L2 := Lib.hid (lo_on L1.out l2)
    have T2 := Lib.hid (l3Told_any u (loF true) xs w2 t HK.out)
    clear t l2 S1 L1
    go_wp2_with fail
    refine T2.out.mono ?_
    rintro e w3 ⟨u3, rfl, m, l3⟩
    have M := Lib.hid m
    have L3 := Lib.hid (lo_on L2.out l3)
    clear m l3 T2
    go_wp2
    go_ret2
    exact ⟨u3, rfl, M.out, L3.out⟩
end Go.Proofs.Ytghpacgbkknhbaa
