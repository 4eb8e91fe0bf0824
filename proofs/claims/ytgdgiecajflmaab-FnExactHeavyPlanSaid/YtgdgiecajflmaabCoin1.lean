/- The contracts of the tests of plans. -/
import Derived.Test.YtgdgiecajflmaabSigns
namespace Go.Proofs.Ytgdgiecajflmaab
open Go.RowKit
structure PlanF (n : Int) (xss : List (List Int)) : Prop where
  short : xss.length ≤ 5
  each : ∀ j, j < xss.length → WeighF n (xss.getD j [])
noncomputable def planB (n : Int) (xss : List (List Int)) : Bool := propB (PlanF n xss)
theorem plan_no {n : Int} {xss : List (List Int)} {k : Nat} (hk : k < xss.length) (h : weighB n (xss.getD k []) = false) : planB n xss = false :=
  propB_no (fun K => by rw [show weighB n (xss.getD k []) = true from propB_yes (K.each k hk)] at h; cases h)
theorem small_each {xss : List (List Int)} (h : SmallT xss) {k : Nat} (hk : k < xss.length) : (xss.getD k []).length ≤ 2000000 := by
  have := cntT_each xss k hk
  have := h.2
  omega
set_option maxHeartbeats 800000 in
theorem isPlan_any (n : Int) (v : Value) (xss : List (List Int)) (w : World) (hr : TabRow w v xss) (hb : SmallT xss) :
    Calls Try.prog 45 #[.int .i64 n, v] w fun e w' => e = .returned (.tuple #[.bool (coinsB n && planB n xss), .bool (coinsB n)]) ∧ Below w.heap.size w w' := by
  obtain ⟨a, c, rfl, hr⟩ := hr
  have hn := hb.1
  have HB := Lib.hid hb
  clear hb
  cases hc : coinsB n with
  | false =>
    have D := Lib.hid (isCoin_is n false hc w)
    clear hc hr
    go_enter Try.func45, Try.ntmps45
    go_wp2_with fail
    refine D.out.mono ?_
    rintro e w' ⟨rfl, rfl⟩
    go_wp2
    go_ret2
    exact ⟨rfl, Below.refl _ _⟩
  | true =>
    have D := Lib.hid (isCoin_is n true hc w)
    rw [Bool.true_and]
    clear hc
    by_cases h5 : 5 < xss.length
    · have HF := Lib.hid (show planB n xss = false from propB_no (fun K => by have := K.short; omega))
      have h5' : (5 : Int) < (xss.length : Int) := by omega
      clear hr
      go_enter Try.func45, Try.ntmps45
      go_wp2_with fail
      refine D.out.mono ?_
      rintro e w' ⟨rfl, rfl⟩
      go_wp2
      go_ret2
      exact ⟨by rw [HF.out]; rfl, Below.refl _ _⟩
    · have h5' : ¬ (5 : Int) < (xss.length : Int) := by omega
      go_enter Try.func45, Try.ntmps45
      go_wp2_with fail
      refine D.out.mono ?_
      rintro e w' ⟨rfl, rfl⟩
      go_wp2
      go_loopw [16] (fun i wr => ∃ k : Nat, k ≤ xss.length ∧ i = .int .i64 k ∧ Hid (∀ j, j < k → WeighF n (xss.getD j [])) ∧ Hid (Below w.heap.size w wr)) (fun i _ => xss.length - (intOf i).toNat)
      case atStart => exact ⟨0, Nat.zero_le _, rfl, Lib.hid (fun j h => by omega), Lib.hid (Below.refl _ _)⟩
      case round =>
        obtain ⟨k, hk, rfl, HS, HW⟩ := hrel
        by_cases hlt : k < xss.length
        · rcases hr with h | ⟨g, off, rfl, hg, hcl⟩
          · subst h; simp at hlt
          obtain ⟨u, h1, hu⟩ := hcl k hlt
          rw [← HW.out.cell (p := ⟨g, off + k, none⟩) hg] at h1
          have hlt' : (k : Int) < (xss.length : Int) := by omega
          have W := Lib.hid (isWeighing_any n u (xss.getD k []) wr (hu.lo HW.out) (small_each HB.out hlt))
          obtain ⟨ua, uc, rfl, _⟩ := hu
          cases hw : weighB n (xss.getD k []) with
          | false =>
            have HF := Lib.hid (plan_no hlt hw)
            rw [hw] at W
            generalize (xss.getD k []).length = m at h1 W
            clear hcl hw
            go_wp2_with fail
            refine W.out.mono ?_
            rintro e w2 ⟨rfl, l2⟩
            have L2 := Lib.hid (HW.out.trans (l2.mono HW.out.size))
            clear l2
            go_wp2
            go_ret2
            exact ⟨by rw [HF.out]; rfl, L2.out⟩
          | true =>
            have HX := Lib.hid ((propB_iff _).1 (show propB (WeighF n (xss.getD k [])) = true from hw))
            rw [hw] at W
            generalize (xss.getD k []).length = m at h1 W
            clear hcl hw
            go_wp2_with fail
            refine W.out.mono ?_
            rintro e w2 ⟨rfl, l2⟩
            have L2 := Lib.hid (HW.out.trans (l2.mono HW.out.size))
            clear l2
            go_wp2
            go_roundw
            case rel =>
              refine ⟨k + 1, by omega, by go_num, Lib.hid (fun j hj => ?_), L2⟩
              by_cases e : j = k
              · subst e; exact HX.out
              · exact HS.out j (by omega)
            case measure => simp [intOf]; omega
        · obtain rfl : k = xss.length := by omega
          have hge : ¬ (xss.length : Int) < (xss.length : Int) := by omega
          have HF := Lib.hid (show planB n xss = true from propB_yes ⟨by omega, HS.out⟩)
          go_wp2
          go_ret2
          exact ⟨by rw [HF.out]; rfl, HW.out⟩
theorem l3Signs_is (v : Value) (xs : List Int) (n : Int) (r : Bool) (h : (signsB xs && ((xs.length : Int) == n)) = r) (w : World) (hr : IntRow w v xs) (hn : xs.length ≤ 2000000) :
    Calls Try.prog 79 #[v, .int .i64 n] w fun e w' => e = .returned (.bool r) ∧ w = w' := by
  subst h; exact l3Signs_any v xs n w hr hn
set_option maxHeartbeats 1600000 in
theorem l3Plan_any (n : Int) (v : Value) (xss : List (List Int)) (w : World) (hr : TabRow w v xss) (hb : SmallT xss) :
    Calls Try.prog 94 #[.int .i64 n, v] w fun e w' => e = .returned (.bool (planB n xss)) ∧ w = w' := by
  obtain ⟨a, c, rfl, hr⟩ := hr
  have hn := hb.1
  have HB := Lib.hid hb
  clear hb
  go_enter Try.func94, Try.ntmps94
  go_wp2
  go_loopw [5] (fun i wr => ∃ k : Nat, k ≤ xss.length ∧ i = .int .i64 k ∧ Hid (∀ j, j < k → WeighF n (xss.getD j [])) ∧ wr = w) (fun i _ => xss.length - (intOf i).toNat)
  case atStart => exact ⟨0, Nat.zero_le _, rfl, Lib.hid (fun j h => by omega), rfl⟩
  case round =>
    obtain ⟨k, hk, rfl, HS, rfl⟩ := hrel
    by_cases hlt : k < xss.length
    · rcases hr with h | ⟨g, off, rfl, hg, hcl⟩
      · subst h; simp at hlt
      obtain ⟨u, h1, hu⟩ := hcl k hlt
      have hlt' : (k : Int) < (xss.length : Int) := by omega
      have hu0 := hu
      have hsm := small_each HB.out hlt
      obtain ⟨ua, uc, rfl, _⟩ := hu
      cases hs : (signsB (xss.getD k []) && (((xss.getD k []).length : Int) == n)) with
      | false =>
        have HF := Lib.hid (show planB n xss = false from plan_no hlt (propB_no (fun K => by
          rw [show signsB (xss.getD k []) = true from propB_yes K.2.1, K.1] at hs
          simp at hs)))
        have S := Lib.hid (l3Signs_is _ _ n false hs wr hu0 hsm)
        clear hcl hs hu0 hsm
        generalize (xss.getD k []).length = m at h1 S
        go_wp2_with fail
        refine S.out.mono ?_
        rintro e w2 ⟨rfl, rfl⟩
        go_wp2
        go_ret
        exact ⟨by rw [HF.out]; rfl, rfl⟩
      | true =>
        have S := Lib.hid (l3Signs_is _ _ n true hs wr hu0 hsm)
        rw [Bool.and_eq_true] at hs
        have hsg := (propB_iff _).1 (show propB (SignsF (xss.getD k [])) = true from hs.1)
        have hln : ((xss.getD k []).length : Int) = n := by simpa using hs.2
        have T := Lib.hid (l3Total_any _ _ wr hu0 hsg hsm)
        by_cases h0 : sumF (xss.getD k []) = 0
        · have HX := Lib.hid (show WeighF n (xss.getD k []) from ⟨hln, hsg, h0⟩)
          rw [h0] at T
          clear hcl hs hu0 hsm hsg hln h0
          generalize (xss.getD k []).length = m at h1 S T
          go_wp2_with fail
          refine S.out.mono ?_
          rintro e w2 ⟨rfl, rfl⟩
          go_wp2_with fail
          refine T.out.mono ?_
          rintro e w2 ⟨rfl, rfl⟩
          go_wp2
          go_roundw
          case rel =>
            refine ⟨k + 1, by omega, by go_num, Lib.hid (fun j hj => ?_), trivial⟩
            by_cases e : j = k
            · subst e; exact HX.out
            · exact HS.out j (by omega)
          case measure => simp [intOf]; omega
        · have HF := Lib.hid (show planB n xss = false from plan_no hlt (propB_no (fun K => h0 K.2.2)))
          have hz : (sumF (xss.getD k []) != 0) = true := bne_iff_ne.2 h0
          generalize sumF (xss.getD k []) = y at T hz
          clear hcl hs hu0 hsm hsg hln h0
          generalize (xss.getD k []).length = m at h1 S T
          go_wp2_with fail
          refine S.out.mono ?_
          rintro e w2 ⟨rfl, rfl⟩
          go_wp2_with fail
          refine T.out.mono ?_
          rintro e w2 ⟨rfl, rfl⟩
          go_wp2
          go_ret
          exact ⟨by rw [HF.out]; rfl, rfl⟩
    · obtain rfl : k = xss.length := by omega
      have hge : ¬ (xss.length : Int) < (xss.length : Int) := by omega
      have HF := Lib.hid (show planB n xss = decide ((xss.length : Int) ≤ 5) by
        by_cases h5 : xss.length ≤ 5
        · rw [show planB n xss = true from propB_yes ⟨h5, HS.out⟩]; simp; omega
        · rw [show planB n xss = false from propB_no (fun K => h5 K.short)]; simp; omega)
      go_wp2
      go_ret
      exact ⟨by rw [HF.out]; rfl, rfl⟩
theorem specPlan_any (n : Int) (v : Value) (xss : List (List Int)) (w : World) (hr : TabRow w v xss) (hb : SmallT xss) :
    Calls Try.prog 46 #[.int .i64 n, v] w fun e w' => e = .returned (.tuple #[.bool (coinsB n && planB n xss), .bool (coinsB n)]) ∧ Below w.heap.size w w' := by
  have P := Lib.hid (l3Plan_any n v xss w hr hb)
  clear hr hb
  cases hc : coinsB n with
  | false =>
    have D := Lib.hid (l3Coins_is n false hc w)
    clear hc
    go_enter Try.func46, Try.ntmps46
    go_wp2_with fail
    refine D.out.mono ?_
    rintro e w' ⟨rfl, rfl⟩
    go_wp2
    go_ret2
    exact ⟨rfl, Below.refl _ _⟩
  | true =>
    have D := Lib.hid (l3Coins_is n true hc w)
    rw [Bool.true_and]
    generalize planB n xss = b at *
    clear hc
    go_enter Try.func46, Try.ntmps46
    go_wp2_with fail
    refine D.out.mono ?_
    rintro e w' ⟨rfl, rfl⟩
    go_wp2_with fail
    refine P.out.mono ?_
    rintro e w' ⟨rfl, rfl⟩
    go_wp2
    go_ret2
    exact ⟨rfl, Below.refl _ _⟩
theorem l3Good_any (n : Int) (v : Value) (xss : List (List Int)) (r : Bool) (h : (coinsB n && planB n xss) = r) (w : World) (hr : TabRow w v xss) (hb : SmallT xss) :
    Calls Try.prog 87 #[.int .i64 n, v] w fun e w' => e = .returned (.bool r) ∧ w = w' := by
  subst h
  have P := Lib.hid (l3Plan_any n v xss w hr hb)
  clear hr hb
  cases hc : coinsB n with
  | false =>
    have D := Lib.hid (l3Coins_is n false hc w)
    clear hc
    go_enter Try.func87, Try.ntmps87
    go_wp2_with fail
    refine D.out.mono ?_
    rintro e w' ⟨rfl, rfl⟩
    go_wp2
    go_ret
    exact ⟨rfl, rfl⟩
  | true =>
    have D := Lib.hid (l3Coins_is n true hc w)
    rw [Bool.true_and]
    generalize planB n xss = b at *
    clear hc
    go_enter Try.func87, Try.ntmps87
    go_wp2_with fail
    refine D.out.mono ?_
    rintro e w' ⟨rfl, rfl⟩
    go_wp2_with fail
    refine P.out.mono ?_
    rintro e w' ⟨rfl, rfl⟩
    go_wp2
    go_ret
    exact ⟨rfl, rfl⟩
end Go.Proofs.Ytgdgiecajflmaab
