/- The contracts of the program's weights, arms and seats. -/
import Derived.Test.YtgjchkcjlmklbaaSw1
namespace Go.Proofs.Ytgjchkcjlmklbaa
open Go.RowKit
noncomputable def wtrB (xs : List Int) : Bool := propB (∀ j, j < xs.length → 1 ≤ xs.getD j 0 ∧ xs.getD j 0 ≤ 99)
theorem wtr_no {xs : List Int} {k : Nat} (hk : k < xs.length) (h : ¬ (1 ≤ xs.getD k 0 ∧ xs.getD k 0 ≤ 99)) : wtrB xs = false := propB_no (fun K => h (K k hk))
theorem wts_wtr (xs : List Int) : wtsB xs = (decide ((xs.length : Int) ≤ 12) && wtrB xs) := by
  unfold wtsB wtrB
  rw [Bool.eq_iff_iff, propB_iff, Bool.and_eq_true, propB_iff, decide_eq_true_iff]
  exact ⟨fun h => ⟨by have := h.short; omega, h.each⟩, fun h => ⟨by omega, h.2⟩⟩
noncomputable def amrB (xs : List Int) : Bool := propB (∀ j, j < xs.length → 1 ≤ xs.getD j 0 ∧ xs.getD j 0 ≤ 6)
theorem amr_no {xs : List Int} {k : Nat} (hk : k < xs.length) (h : ¬ (1 ≤ xs.getD k 0 ∧ xs.getD k 0 ≤ 6)) : amrB xs = false := propB_no (fun K => h (K k hk))
theorem notW_is (z : Int) (r : Bool) (h : (!(decide (1 ≤ z) && decide (z ≤ 99))) = r) (w : World) : Calls Try.prog 193 #[.int .i64 z] w fun e w' => e = .returned (.bool r) ∧ w = w' := by
  subst h
  have C := Lib.hid (fun w => isWeight_is z _ rfl w)
  generalize (decide (1 ≤ z) && decide (z ≤ 99)) = b at *
  go_enter Try.func193, Try.ntmps193
  go_wp2_with fail
  refine (C.out _).mono ?_
  rintro e w' ⟨rfl, rfl⟩
  go_wp2
  go_ret
  exact ⟨rfl, rfl⟩
theorem isDistance_is (z : Int) (r : Bool) (h : (decide (1 ≤ z) && decide (z ≤ 6)) = r) (w : World) : Calls Try.prog 111 #[.int .i64 z] w fun e w' => e = .returned (.bool r) ∧ w = w' := by
  subst h
  by_cases h1 : 1 ≤ z
  · by_cases h2 : z ≤ 6
    all_goals go_enter Try.func111, Try.ntmps111
    all_goals go_wp2
    all_goals go_ret
    all_goals exact ⟨by simp [h1, h2], rfl⟩
  · go_enter Try.func111, Try.ntmps111
    go_wp2
    go_ret
    exact ⟨by simp; omega, rfl⟩
theorem notA_is (z : Int) (r : Bool) (h : (!(decide (1 ≤ z) && decide (z ≤ 6))) = r) (w : World) : Calls Try.prog 198 #[.int .i64 z] w fun e w' => e = .returned (.bool r) ∧ w = w' := by
  subst h
  have C := Lib.hid (fun w => isDistance_is z _ rfl w)
  generalize (decide (1 ≤ z) && decide (z ≤ 6)) = b at *
  go_enter Try.func198, Try.ntmps198
  go_wp2_with fail
  refine (C.out _).mono ?_
  rintro e w' ⟨rfl, rfl⟩
  go_wp2
  go_ret
  exact ⟨rfl, rfl⟩
/-- The first number that is no sign, or -1. -/
def FirstNoW (xs : List Int) (w : World) (e : Ending) (w' : World) : Prop := ∃ z : Int, e = .returned (.int .i64 z) ∧ decide (0 ≤ z) = !wtrB xs ∧ Below w.heap.size w w'
set_option maxHeartbeats 800000 in
theorem indexNoW_any (v : Value) (xs : List Int) (w : World) (hr : IntRow w v xs) (hn : xs.length ≤ 2000000) :
    Calls Try.prog 243 #[v, .func (.func 193) #[] #[]] w (FirstNoW xs w) := by
  obtain ⟨a, c, rfl, hr⟩ := hr
  go_enter Try.func243, Try.ntmps243
  go_wp2
  go_loopw [8] (fun i wr => ∃ k : Nat, k ≤ xs.length ∧ i = .int .i64 k ∧ Hid (∀ j, j < k → 1 ≤ xs.getD j 0 ∧ xs.getD j 0 ≤ 99) ∧ Hid (Below w.heap.size w wr)) (fun i _ => xs.length - (intOf i).toNat)
  case atStart => exact ⟨0, Nat.zero_le _, rfl, Lib.hid (fun j h => by omega), Lib.hid (Below.refl _ _)⟩
  case round =>
    obtain ⟨k, hk, rfl, HS, HW⟩ := hrel
    by_cases hlt : k < xs.length
    · rcases hr with h | ⟨g, off, rfl, hg, hc⟩
      · subst h; simp at hlt
      have h1 := hc k hlt
      rw [← HW.out.cell (p := ⟨g, off + k, none⟩) hg] at h1
      have hlt' : (k : Int) < (xs.length : Int) := by omega
      cases hb : (!(decide (1 ≤ xs.getD k 0) && decide (xs.getD k 0 ≤ 99))) with
      | true =>
        have HF := Lib.hid (show wtrB xs = false from wtr_no hlt (fun K => by rw [decide_eq_true K.1, decide_eq_true K.2] at hb; cases hb))
        have D := Lib.hid (fun w => notW_is _ true hb w)
        generalize xs.getD k 0 = x at h1 D
        clear hc hb
        go_wp2_with fail
        refine (D.out _).mono ?_
        rintro e w' ⟨rfl, rfl⟩
        go_wp2
        go_ret
        exact ⟨_, rfl, by rw [HF.out]; simp, HW.out⟩
      | false =>
        have HX := Lib.hid (show 1 ≤ xs.getD k 0 ∧ xs.getD k 0 ≤ 99 by rw [Bool.not_eq_false', Bool.and_eq_true] at hb; exact ⟨of_decide_eq_true hb.1, of_decide_eq_true hb.2⟩)
        have D := Lib.hid (fun w => notW_is _ false hb w)
        generalize xs.getD k 0 = x at h1 D
        clear hc hb
        go_wp2_with fail
        refine (D.out _).mono ?_
        rintro e w' ⟨rfl, rfl⟩
        go_wp2
        go_roundw
        case rel =>
          refine ⟨k + 1, by omega, by go_num, Lib.hid (fun j hj => ?_), HW⟩
          by_cases e : j = k
          · subst e; exact HX.out
          · exact HS.out j (by omega)
        case measure => simp [intOf]; omega
    · obtain rfl : k = xs.length := by omega
      have hge : ¬ (xs.length : Int) < (xs.length : Int) := by omega
      have HF := Lib.hid (show wtrB xs = true from propB_yes HS.out)
      go_wp2
      go_ret
      exact ⟨_, rfl, by rw [HF.out]; rfl, HW.out⟩
theorem containsNoW_any (v : Value) (xs : List Int) (w : World) (hr : IntRow w v xs) (hn : xs.length ≤ 2000000) :
    Calls Try.prog 192 #[v, .func (.func 193) #[] #[]] w fun e w' => e = .returned (.bool (!wtrB xs)) ∧ Below w.heap.size w w' := by
  have C := Lib.hid (indexNoW_any v xs w hr hn)
  clear hr
  go_enter Try.func192, Try.ntmps192
  go_wp2_with fail
  refine C.out.mono ?_
  rintro e w' ⟨z, rfl, hz, l⟩
  have L := Lib.hid l
  have HZ := Lib.hid hz
  clear l hz
  go_wp2
  go_ret
  exact ⟨by rw [← HZ.out]; rfl, L.out⟩
/-- The first number that is no sign, or -1. -/
def FirstNoA (xs : List Int) (w : World) (e : Ending) (w' : World) : Prop := ∃ z : Int, e = .returned (.int .i64 z) ∧ decide (0 ≤ z) = !amrB xs ∧ Below w.heap.size w w'
set_option maxHeartbeats 800000 in
theorem indexNoA_any (v : Value) (xs : List Int) (w : World) (hr : IntRow w v xs) (hn : xs.length ≤ 2000000) :
    Calls Try.prog 243 #[v, .func (.func 198) #[] #[]] w (FirstNoA xs w) := by
  obtain ⟨a, c, rfl, hr⟩ := hr
  go_enter Try.func243, Try.ntmps243
  go_wp2
  go_loopw [8] (fun i wr => ∃ k : Nat, k ≤ xs.length ∧ i = .int .i64 k ∧ Hid (∀ j, j < k → 1 ≤ xs.getD j 0 ∧ xs.getD j 0 ≤ 6) ∧ Hid (Below w.heap.size w wr)) (fun i _ => xs.length - (intOf i).toNat)
  case atStart => exact ⟨0, Nat.zero_le _, rfl, Lib.hid (fun j h => by omega), Lib.hid (Below.refl _ _)⟩
  case round =>
    obtain ⟨k, hk, rfl, HS, HW⟩ := hrel
    by_cases hlt : k < xs.length
    · rcases hr with h | ⟨g, off, rfl, hg, hc⟩
      · subst h; simp at hlt
      have h1 := hc k hlt
      rw [← HW.out.cell (p := ⟨g, off + k, none⟩) hg] at h1
      have hlt' : (k : Int) < (xs.length : Int) := by omega
      cases hb : (!(decide (1 ≤ xs.getD k 0) && decide (xs.getD k 0 ≤ 6))) with
      | true =>
        have HF := Lib.hid (show amrB xs = false from amr_no hlt (fun K => by rw [decide_eq_true K.1, decide_eq_true K.2] at hb; cases hb))
        have D := Lib.hid (fun w => notA_is _ true hb w)
        generalize xs.getD k 0 = x at h1 D
        clear hc hb
        go_wp2_with fail
        refine (D.out _).mono ?_
        rintro e w' ⟨rfl, rfl⟩
        go_wp2
        go_ret
        exact ⟨_, rfl, by rw [HF.out]; simp, HW.out⟩
      | false =>
        have HX := Lib.hid (show 1 ≤ xs.getD k 0 ∧ xs.getD k 0 ≤ 6 by rw [Bool.not_eq_false', Bool.and_eq_true] at hb; exact ⟨of_decide_eq_true hb.1, of_decide_eq_true hb.2⟩)
        have D := Lib.hid (fun w => notA_is _ false hb w)
        generalize xs.getD k 0 = x at h1 D
        clear hc hb
        go_wp2_with fail
        refine (D.out _).mono ?_
        rintro e w' ⟨rfl, rfl⟩
        go_wp2
        go_roundw
        case rel =>
          refine ⟨k + 1, by omega, by go_num, Lib.hid (fun j hj => ?_), HW⟩
          by_cases e : j = k
          · subst e; exact HX.out
          · exact HS.out j (by omega)
        case measure => simp [intOf]; omega
    · obtain rfl : k = xs.length := by omega
      have hge : ¬ (xs.length : Int) < (xs.length : Int) := by omega
      have HF := Lib.hid (show amrB xs = true from propB_yes HS.out)
      go_wp2
      go_ret
      exact ⟨_, rfl, by rw [HF.out]; rfl, HW.out⟩
theorem containsNoA_any (v : Value) (xs : List Int) (w : World) (hr : IntRow w v xs) (hn : xs.length ≤ 2000000) :
    Calls Try.prog 192 #[v, .func (.func 198) #[] #[]] w fun e w' => e = .returned (.bool (!amrB xs)) ∧ Below w.heap.size w w' := by
  have C := Lib.hid (indexNoA_any v xs w hr hn)
  clear hr
  go_enter Try.func192, Try.ntmps192
  go_wp2_with fail
  refine C.out.mono ?_
  rintro e w' ⟨z, rfl, hz, l⟩
  have L := Lib.hid l
  have HZ := Lib.hid hz
  clear l hz
  go_wp2
  go_ret
  exact ⟨by rw [← HZ.out]; rfl, L.out⟩

theorem areWeights_is (v : Value) (xs : List Int) (r : Bool) (h : wtsB xs = r) (w : World) (hr : IntRow w v xs) (hn : xs.length ≤ 2000000) :
    Calls Try.prog 110 #[v] w fun e w' => e = .returned (.bool r) ∧ Below w.heap.size w w' := by
  subst h
  rw [wts_wtr]
  have C := Lib.hid (containsNoW_any v xs w hr hn)
  obtain ⟨a, c, rfl, _⟩ := hr
  generalize wtrB xs = b at *
  by_cases h12 : (xs.length : Int) ≤ 12
  · go_enter Try.func110, Try.ntmps110
    go_wp2_with fail
    refine C.out.mono ?_
    rintro e w' ⟨rfl, l⟩
    have L := Lib.hid l
    clear l
    go_wp2
    go_ret
    exact ⟨by cases b <;> simp [h12], L.out⟩
  · go_enter Try.func110, Try.ntmps110
    go_wp2
    go_ret
    exact ⟨by rw [decide_eq_false (show ¬ (xs.length : Int) ≤ 12 by omega), Bool.false_and]; rfl, Below.refl _ _⟩
theorem arm_parts (ws qs : List Int) : armB ws qs = (wtsB ws && ((qs.length : Int) == ws.length) && amrB qs) := by
  unfold armB amrB ArmsF
  rw [show decide ((qs.length : Int) = ws.length) = ((qs.length : Int) == ws.length) by rw [Bool.eq_iff_iff]; simp]
  cases wtsB ws <;> cases ((qs.length : Int) == ws.length) <;> simp
theorem haveArms_is (u v : Value) (ws qs : List Int) (r : Bool) (h : armB ws qs = r) (w : World) (hu : IntRow w u ws) (hv : IntRow w v qs) (hn : ws.length ≤ 2000000) (hm : qs.length ≤ 2000000) :
    Calls Try.prog 130 #[u, v] w fun e w' => e = .returned (.bool r) ∧ Below w.heap.size w w' := by
  subst h
  rw [arm_parts]
  have C := Lib.hid (areWeights_is u ws _ rfl w hu hn)
  have D := Lib.hid (fun w1 (l : Below w.heap.size w w1) => containsNoA_any v qs w1 (hv.lo l) hm)
  obtain ⟨a, c, rfl, _⟩ := hu
  obtain ⟨a1, c1, rfl, _⟩ := hv
  generalize wtsB ws = b at *
  generalize amrB qs = b2 at *
  cases b with
  | false =>
    go_enter Try.func130, Try.ntmps130
    go_wp2_with fail
    refine C.out.mono ?_
    rintro e w' ⟨rfl, l⟩
    have L := Lib.hid l
    clear l
    go_wp2
    go_ret
    exact ⟨rfl, L.out⟩
  | true =>
    by_cases he : qs.length = ws.length
    · have hq : ((qs.length : Int) == (ws.length : Int)) = true := by simp [he]
      have hq2 : ((qs.length : Int) != (ws.length : Int)) = false := by simp [he]
      rw [hq]
      clear he
      go_enter Try.func130, Try.ntmps130
      go_wp2_with fail
      refine C.out.mono ?_
      rintro e w1 ⟨rfl, l⟩
      have L := Lib.hid l
      have DD := Lib.hid (D.out w1 l)
      clear l D
      go_wp2_with fail
      refine DD.out.mono ?_
      rintro e w2 ⟨rfl, l⟩
      have L2 := Lib.hid (lo_on L.out l)
      clear l
      go_wp2
      go_ret
      exact ⟨by cases b2 <;> rfl, L2.out⟩
    · have hq : ((qs.length : Int) == (ws.length : Int)) = false := by rw [beq_eq_false_iff_ne]; omega
      have hq2 : ((qs.length : Int) != (ws.length : Int)) = true := by rw [bne_iff_ne]; omega
      rw [hq]
      clear he
      go_enter Try.func130, Try.ntmps130
      go_wp2_with fail
      refine C.out.mono ?_
      rintro e w1 ⟨rfl, l⟩
      have L := Lib.hid l
      clear l
      go_wp2
      go_ret
      exact ⟨rfl, L.out⟩
theorem isSeat_is (p k : Int) (r : Bool) (h : seatB k p = r) (w : World) (k1 : 1 ≤ k) (k6 : k ≤ 6) : Calls Try.prog 112 #[.int .i64 p, .int .i64 k] w fun e w' => e = .returned (.bool r) ∧ w = w' := by
  unfold seatB at h
  have ka : -9223372036854775808 ≤ 30 - k := by omega
  have kb : 30 - k ≤ 9223372036854775807 := by omega
  have kc : -9223372036854775808 ≤ 30 + k := by omega
  have kd : 30 + k ≤ 9223372036854775807 := by omega
  by_cases h1 : 30 - k ≤ p
  case neg =>
    have HF := Lib.hid (show r = false by rw [← h, in_no9 (by omega)]; rfl)
    clear h
    go_enter Try.func112, Try.ntmps112
    go_wp2
    go_ret
    exact ⟨by rw [HF.out]; rfl, rfl⟩
  by_cases h2 : p ≤ 30 + k
  case neg =>
    have HF := Lib.hid (show r = false by rw [← h, in_no9 (by omega)]; rfl)
    clear h
    go_enter Try.func112, Try.ntmps112
    go_wp2
    go_ret
    exact ⟨by rw [HF.out]; rfl, rfl⟩
  by_cases h3 : p = 30
  · have HF := Lib.hid (show r = false by rw [← h, decide_eq_false (show ¬ p ≠ 30 by omega), Bool.and_false])
    have hq : (p != 30) = false := by simp [h3]
    clear h h3
    go_enter Try.func112, Try.ntmps112
    go_wp2
    go_ret
    exact ⟨by rw [HF.out]; rfl, rfl⟩
  · have HF := Lib.hid (show r = true by rw [← h, in_yes9 ⟨h1, h2⟩, decide_eq_true (show p ≠ 30 from h3)]; rfl)
    have hq : (p != 30) = true := by simpa using h3
    clear h h3
    go_enter Try.func112, Try.ntmps112
    go_wp2
    go_ret
    exact ⟨by rw [HF.out]; rfl, rfl⟩
end Go.Proofs.Ytgjchkcjlmklbaa
