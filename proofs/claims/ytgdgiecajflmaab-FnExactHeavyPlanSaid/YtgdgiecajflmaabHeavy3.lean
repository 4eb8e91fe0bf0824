/- The contracts of the model's l3Leads and l3Turned. -/
import Derived.Test.YtgdgiecajflmaabHeavy1
namespace Go.Proofs.Ytgdgiecajflmaab
open Go.RowKit
/-- The first sign that is not zero is 1. -/
def leadF : List Int → Bool
  | [] => false
  | x :: r => if x = 0 then leadF r else decide (x = 1)
theorem lead_drop (xs : List Int) (k : Nat) (h : k < xs.length) : leadF (xs.drop k) = if xs.getD k 0 = 0 then leadF (xs.drop (k + 1)) else decide (xs.getD k 0 = 1) := by
  rw [List.drop_eq_getElem_cons h]
  have : xs.getD k 0 = xs[k] := by simp [List.getD, h]
  rw [this, leadF]
set_option maxHeartbeats 1600000 in
theorem l3Leads_any (v : Value) (xs : List Int) (w : World) (hr : IntRow w v xs) (hn : xs.length ≤ 2000000) :
    Calls Try.prog 57 #[v] w fun e w' => e = .returned (.bool (leadF xs)) ∧ w' = w := by
  obtain ⟨a, c, rfl, hr⟩ := hr
  have HX := Lib.hid (show leadF xs = leadF (xs.drop 0) by rw [List.drop_zero])
  obtain ⟨r0, hr0⟩ : ∃ r, leadF xs = r := ⟨_, rfl⟩
  rw [hr0] at HX ⊢
  have HR := Lib.hid hr
  clear hr0 hr
  go_enter Try.func57, Try.ntmps57
  go_wp2
  go_loopw [3] (fun i wr => ∃ k : Nat, k ≤ xs.length ∧ i = .int .i64 k ∧ Hid (r0 = leadF (xs.drop k)) ∧ wr = w) (fun i _ => xs.length - (intOf i).toNat)
  case atStart => exact ⟨0, Nat.zero_le _, rfl, HX, rfl⟩
  case round =>
    obtain ⟨k, hk, rfl, HK, rfl⟩ := hrel
    clear HX
    by_cases hlt : k < xs.length
    · have hlt' : (k : Int) < (xs.length : Int) := by omega
      rcases HR.out with h | ⟨g, off, rfl, hg, hc⟩
      · exfalso; rw [h] at hlt; simp at hlt
      have c1 := hc k hlt
      have HD := Lib.hid (lead_drop xs k hlt)
      generalize xs.getD k 0 = x at c1 HD
      clear hc
      by_cases hz : x = 0
      · have hb : (x != 0) = false := by simp [hz]
        have HN := Lib.hid (show r0 = leadF (xs.drop (k + 1)) by rw [HK.out, HD.out, if_pos hz])
        clear hz
        go_wp2
        go_roundw
        case rel => exact ⟨k + 1, by omega, by go_num, HN, trivial⟩
        case measure => simp [intOf]; omega
      · have hb : (x != 0) = true := by simp [hz]
        by_cases h1 : x = 1
        · have hb1 : (x == 1) = true := by simp [h1]
          have hr : r0 = true := by rw [HK.out, HD.out, if_neg hz]; simp [h1]
          clear hz h1
          go_wp2
          go_ret
          exact ⟨by first | rfl | (rw [hr]; rfl), rfl⟩
        · have hb1 : (x == 1) = false := by simp [h1]
          have hr : r0 = false := by rw [HK.out, HD.out, if_neg hz]; simp [h1]
          clear hz h1
          go_wp2
          go_ret
          exact ⟨by first | rfl | (rw [hr]; rfl), rfl⟩
    · obtain rfl : k = xs.length := by omega
      have hge : ¬ (xs.length : Int) < (xs.length : Int) := by omega
      have hr : r0 = false := by rw [HK.out, List.drop_length]; rfl
      go_wp2
      go_ret
      exact ⟨by first | rfl | (rw [hr]; rfl), rfl⟩
def negF (xs : List Int) : List Int := xs.map (fun x => -x)
theorem negF_len (xs : List Int) : (negF xs).length = xs.length := by simp [negF]
theorem negF_snoc (xs : List Int) (k : Nat) (h : k < xs.length) : (negF xs).take (k + 1) = (negF xs).take k ++ [-(xs.getD k 0)] := by
  rw [take_snocI _ k (by rw [negF_len]; exact h)]
  congr 2
  simp [negF, List.getD, h]
set_option maxRecDepth 100000 in
set_option maxHeartbeats 1600000 in
theorem l3Turned_any (v : Value) (xs : List Int) (w : World) (hr : IntRow w v xs) (hn : xs.length ≤ 6) (hs : ∀ j, j < xs.length → -1 ≤ xs.getD j 0 ∧ xs.getD j 0 ≤ 1) :
    Calls Try.prog 58 #[v] w fun e w' => ∃ u, e = .returned u ∧ OwnI w' w.heap.size u (negF xs) ∧ Below w.heap.size w w' := by
  obtain ⟨i0, hi, hz0, hz1, hz2⟩ := info_parts infoInt
  have hrow0 := ownI_lit0 w w.heap.size (Nat.le_refl _)
  obtain ⟨a, c, rfl, hr⟩ := hr
  have HS := Lib.hid hs
  have HR := Lib.hid hr
  clear hs hr
  go_enter Try.func58, Try.ntmps58
  go_wp2
  go_loopw [3, 4] (fun v i wr => ∃ k : Nat, k ≤ xs.length ∧ i = .int .i64 k ∧ Hid (OwnI wr w.heap.size v ((negF xs).take k)) ∧ Hid (Below w.heap.size w wr)) (fun _ i _ => xs.length - (intOf i).toNat)
  case atStart => exact ⟨0, Nat.zero_le _, rfl, Lib.hid hrow0, Lib.hid ((Below.refl _ _).alloc (Nat.le_refl _) _)⟩
  case round =>
    obtain ⟨k, hk, rfl, HO, HW⟩ := hrel
    clear hrow0
    by_cases hlt : k < xs.length
    · rcases HR.out with h | ⟨g, off, rfl, hg, hc⟩
      · exfalso; rw [h] at hlt; simp at hlt
      have h1 := hc k hlt
      rw [← HW.out.cell (p := ⟨g, off + k, none⟩) hg] at h1
      have hx := HS.out k hlt
      have hlt' : (k : Int) < (xs.length : Int) := by omega
      have HSN := Lib.hid (negF_snoc xs k hlt)
      have HTL := Lib.hid (show ((negF xs).take k).length = k by rw [List.length_take, negF_len]; omega)
      have hown := HO.out
      unfold OwnI at hown
      rw [HTL.out] at hown
      generalize xs.getD k 0 = x at h1 hx HSN
      obtain ⟨x0, x1⟩ := hx
      have hgw := HW.out.size
      clear hc
      go_wp2_with (at_builtin; refine wpList_append_own _ rfl _ _ 30 rfl w.heap.size 3 i0 (.int .i64 0) 1 8 Try.underlying30 hi hz0 hz1 hz2 rfl (by decide) _ _ _ rfl (hown.alloc _) ⟨wr.heap.size, 0, none⟩ 1 1 [.int .i64 (-x)] rfl rfl (cell_one_new _ _ _) (fun x hx => by simp at hx; subst hx; rfl) (by unfold maxLen; omega) (by omega) (by simp; omega) ?_; intro v' w3 hown' hgrow3 hnil3)
      have HN := Lib.hid (show OwnI w3 w.heap.size v' ((negF xs).take (k + 1)) by
        rw [HSN.out]
        exact ownI_snoc (k := k) hown' HTL.out)
      have HL := Lib.hid (show Below w.heap.size w w3 from (HW.out.alloc HW.out.size _).grown hgrow3 (by simp; omega) (fun j hj => (hown.lt j hj).1))
      clear hown' hgrow3 hnil3 hown h1
      go_wp2
      go_roundw
      case rel => exact ⟨k + 1, by omega, by go_num, HN, HL⟩
      case measure => simp [intOf]; omega
    · obtain rfl : k = xs.length := by omega
      have hge : ¬ (xs.length : Int) < (xs.length : Int) := by omega
      have HT := Lib.hid (show (negF xs).take xs.length = negF xs from List.take_of_length_le (by rw [negF_len]; exact Nat.le_refl _))
      go_wp2
      go_ret
      exact ⟨_, rfl, by have := HO.out; rw [HT.out] at this; exact this, HW.out⟩
end Go.Proofs.Ytgdgiecajflmaab
