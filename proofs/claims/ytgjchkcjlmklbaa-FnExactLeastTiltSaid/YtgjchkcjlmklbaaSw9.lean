/- The contract of the program's LeastTilt. -/
import Derived.Test.YtgjchkcjlmklbaaSw8
import Derived.Test.YtgjchkcjlmklbaaSw6
namespace Go.Proofs.Ytgjchkcjlmklbaa
open Go.RowKit
theorem mosT_at (ws qs : List Int) (c : Nat) (h : c < 2 ^ ws.length) : szT ((momsF (tnF ws qs) ws.length).getD c 0) = fT ws qs c := by rw [moms_at _ _ _ h]; rfl
/-- The list of the first n values of F. -/
def mapL (F : Nat → Int) (n : Nat) : List Int := (List.range n).map F
theorem mapL_len (F : Nat → Int) (n : Nat) : (mapL F n).length = n := by simp [mapL]
theorem mapL_at (F : Nat → Int) (n i : Nat) (h : i < n) : (mapL F n).getD i 0 = F i := by simp [mapL, List.getD, h]
set_option maxRecDepth 100000 in
set_option maxHeartbeats 3200000 in
theorem leastI_yes (u v : Value) (ws qs : List Int) (w : World) (hu : IntRow w u ws) (hv : IntRow w v qs) (hn : ws.length ≤ 2000000) (hm : qs.length ≤ 2000000) (h : armB ws qs = true) :
    Calls Try.prog 41 #[u, v] w fun e w' => ∃ x, e = .returned (.tuple #[x, .int .i64 (ltV ws qs), .bool true]) ∧ MineI w' w.heap.size w'.heap.size x (ltS ws qs) ∧ Below w.heap.size w w' := by
  obtain ⟨⟨hw, ha⟩, hl⟩ := (armB_iff ws qs).1 h
  have h12 := hw.short
  unfold ltV ltS
  rw [if_pos h, if_pos h]
  have T := Lib.hid (tiltMoments_yes u v ws qs w hu hv hn hm h)
  have ML := Lib.hid (moms_len (tnF ws qs) ws.length)
  have MA := Lib.hid (fun c hc => mosT_at ws qs c hc)
  have MB := Lib.hid (fun j hj => moms_bound (t := tnF ws qs) (fun i => ⟨(tn_bound hw ha hl i).1, (tn_bound hw ha hl i).2.1⟩) ws.length j hj h12)
  have MK := Lib.hid (fun n hn u => make_ints n hn u)
  have MN := Lib.hid (fun v xs w hr h0 hn => minI_any v xs w hr h0 hn)
  have IX := Lib.hid (fun v xs z w hr hn => indexI_any v xs z w hr hn)
  have TA := Lib.hid (fun c w hc => tiltAt_any ws.length c w h12 hc)
  have hp1 := two_pow_pos ws.length
  have hp2 := two_pow_le h12
  generalize fT ws qs = f at *
  generalize momsF (tnF ws qs) ws.length = MS at *
  obtain ⟨a, c, rfl, _⟩ := hu
  obtain ⟨n, hnn⟩ : ∃ n, ws.length = n := ⟨_, rfl⟩
  rw [hnn] at T ML MA MB TA hp1 hp2 h12 ⊢
  obtain ⟨K, hK⟩ : ∃ K, 2 ^ n = K := ⟨_, rfl⟩
  rw [hK] at ML MA MB TA hp1 hp2 ⊢
  clear hw ha h hK hnn hn hm hl hv
  have LV := Lib.hid (fun i v => ls_val f (K - 1) i v)
  have LI := Lib.hid (fun i => ls_idx f (K - 1) i)
  have FL := Lib.hid (mapL_len f K)
  have FA := Lib.hid (fun i h => mapL_at f K i h)
  obtain ⟨RV, hRV⟩ : ∃ r, (lsF f (K - 1)).2 = r := ⟨_, rfl⟩
  obtain ⟨RI, hRI⟩ : ∃ r, (lsF f (K - 1)).1 = r := ⟨_, rfl⟩
  rw [hRV, hRI] at LI
  rw [hRV] at LV
  rw [hRV, hRI]
  clear hRV hRI
  go_enter Try.func41, Try.ntmps41
  go_wp2_with fail
  refine T.out.mono ?_
  rintro e w1 ⟨x, rfl, o, l1⟩
  have L1 := Lib.hid l1
  obtain ⟨am, cm, rfl, hrm⟩ := o.mine.row
  rw [ML.out] at hrm ⊢
  have HMK := MK.out K (by omega) w1
  have hs1 := l1.size
  clear l1 o T MK
  go_wp2
  go_loopw [26] (fun i wr => ∃ k : Nat, k ≤ K ∧ i = .int .i64 k ∧ Hid (∀ j, j < k → wr.cell? ⟨w1.heap.size, j, none⟩ = some (.int .i64 (f j))) ∧ Hid (∀ j, k ≤ j → j < K → wr.cell? ⟨w1.heap.size, j, none⟩ = some (.int .i64 0)) ∧ Hid (∀ j, wr.frozen? ⟨w1.heap.size, j, none⟩ = false) ∧ Hid (Below w1.heap.size w1 wr) ∧ w1.heap.size + 1 ≤ wr.heap.size) (fun i _ => K - (intOf i).toNat)
  case atStart => exact ⟨0, Nat.zero_le _, rfl, Lib.hid (fun j h => by omega), Lib.hid (fun j _ h => by rw [World.cell?_alloc_at _ _ _ _ rfl]; exact made_int _ _ h), Lib.hid (fun j => World.frozen?_alloc_at _ _ _ _ rfl), Lib.hid ((Below.refl _ _).alloc (Nat.le_refl _) _), by simp⟩
  case round =>
    obtain ⟨k, hk, rfl, H1, H2, H3, HB, hs2⟩ := hrel
    clear HMK
    by_cases hlt : k < K
    · have hlt' : (k : Int) < (K : Int) := by omega
      rcases hrm with e0 | ⟨g, off, rfl, hg, hc⟩
      · have := ML.out; rw [e0] at this; simp at this; omega
      have c1 := hc k hlt
      rw [← HB.out.cell (p := ⟨g, off + k, none⟩) hg] at c1
      have hb1 := MB.out k hlt
      have ma := MA.out k hlt
      obtain ⟨z, hz⟩ : ∃ z, MS.getD k 0 = z := ⟨_, rfl⟩
      rw [hz] at c1 hb1 ma
      have hng : IntKind.i64.wrap (-z) = -z := by rw [IntKind.wrap_i64]; omega
      have z1 := H2.out k (Nat.le_refl _) hlt
      have f1 := H3.out k
      clear hc hz
      by_cases hzz : z < -z
      · have HX := Lib.hid (show f k = -z by rw [← ma]; unfold szT; rw [if_pos hzz])
        have TS := Lib.hid (one_set wr w1.heap.size k (.int .i64 (-z)) z1)
        clear ma
        go_wp2
        go_roundw
        case rel =>
          obtain ⟨t1, t3⟩ := TS.out
          refine ⟨k + 1, by omega, by go_num, Lib.hid (fun j hj => ?_), Lib.hid (fun j hj hjn => ?_), Lib.hid (fun j => ?_), Lib.hid (HB.out.setCell (p := ⟨w1.heap.size, k, none⟩) (Nat.le_refl _) _), by simp; omega⟩
          · by_cases e : j = k
            · subst e; rw [HX.out]; exact t1
            · rw [t3 _ e]; exact H1.out j (by omega)
          · rw [t3 _ (by omega)]; exact H2.out j (by omega) hjn
          · rw [World.frozen?_setCell]; exact H3.out j
        case measure => simp [intOf]; omega
      · have HX := Lib.hid (show f k = z by rw [← ma]; unfold szT; rw [if_neg hzz])
        have TS := Lib.hid (one_set wr w1.heap.size k (.int .i64 z) z1)
        clear ma
        go_wp2
        go_roundw
        case rel =>
          obtain ⟨t1, t3⟩ := TS.out
          refine ⟨k + 1, by omega, by go_num, Lib.hid (fun j hj => ?_), Lib.hid (fun j hj hjn => ?_), Lib.hid (fun j => ?_), Lib.hid (HB.out.setCell (p := ⟨w1.heap.size, k, none⟩) (Nat.le_refl _) _), by simp; omega⟩
          · by_cases e : j = k
            · subst e; rw [HX.out]; exact t1
            · rw [t3 _ e]; exact H1.out j (by omega)
          · rw [t3 _ (by omega)]; exact H2.out j (by omega) hjn
          · rw [World.frozen?_setCell]; exact H3.out j
        case measure => simp [intOf]; omega
    · obtain rfl : k = K := by omega
      have hge : ¬ (k : Int) < (k : Int) := by omega
      have R := Lib.hid (show IntRow wr (.slice (some ⟨w1.heap.size, 0, none⟩) k k) (mapL f k) from ⟨_, _, by rw [FL.out], .inr ⟨_, _, rfl, by omega, fun j hj => by rw [FL.out] at hj; rw [FA.out j hj, Nat.zero_add]; exact H1.out j hj⟩⟩)
      have M1 := Lib.hid (MN.out _ _ wr R.out (by rw [FL.out]; omega) (by rw [FL.out]; omega))
      have LW := Lib.hid (lo_on L1.out HB.out)
      clear MN H1 H2 H3 HB
      go_wp2_with fail
      refine M1.out.mono ?_
      rintro e w' ⟨⟨m, rfl, hm1, hm2⟩, hww⟩
      subst hww
      have I1 := Lib.hid (IX.out _ _ m _ R.out (by rw [FL.out]; omega))
      have HM1 := Lib.hid hm1
      have HM2 := Lib.hid hm2
      clear hm1 hm2 IX M1
      go_wp2_with fail
      refine I1.out.mono ?_
      rintro e w'' ⟨⟨y, rfl, hy⟩, hww⟩
      subst hww
      obtain ⟨i, rfl, hi, hi1, hi2⟩ : ∃ i : Nat, y = i ∧ i < k ∧ f i = m ∧ ∀ j, j < i → f j ≠ m := by
        rcases hy with ⟨_, hy⟩ | ⟨i, h1, h2, h3, h4⟩
        · obtain ⟨i, h1, h2⟩ := HM1.out
          exact absurd h2 (hy i h1)
        · rw [FL.out] at h2
          rw [FA.out i h2] at h3
          exact ⟨i, h1, h2, h3, fun j hj => by have := h4 j hj; rw [FA.out j (by omega)] at this; exact this⟩
      have hv := LV.out i m (by omega) hi1 (fun j hj => by have := HM2.out j (by rw [FL.out]; omega); rw [FA.out j (by omega)] at this; exact this)
      have hx := LI.out i (by rw [hi1, hv]) (fun j hj => by rw [hv]; exact hi2 j hj)
      have HV := Lib.hid hv
      have HX := Lib.hid hx
      clear hy hi1 hi2 hv hx I1 HM1 HM2 LV LI
      go_wp2_with fail
      refine (TA.out i _ hi).mono ?_
      rintro e w2 ⟨x2, rfl, m2, l2⟩
      have M2 := Lib.hid (mineI_mono9 m2 LW.out.size)
      have L2 := Lib.hid (lo_on LW.out l2)
      clear m2 l2 TA
      go_wp2
      go_ret3
      exact ⟨_, by rw [HV.out]; rfl, by rw [HX.out]; exact M2.out, L2.out⟩
theorem leastI_any (u v : Value) (ws qs : List Int) (w : World) (hu : IntRow w u ws) (hv : IntRow w v qs) (hn : ws.length ≤ 2000000) (hm : qs.length ≤ 2000000) :
    Calls Try.prog 41 #[u, v] w fun e w' => ∃ x, e = .returned (.tuple #[x, .int .i64 (ltV ws qs), .bool (armB ws qs)]) ∧ MineI w' w.heap.size w'.heap.size x (ltS ws qs) ∧ Below w.heap.size w w' := by
  cases h : armB ws qs with
  | true => exact leastI_yes u v ws qs w hu hv hn hm h
  | false =>
    unfold ltV ltS
    rw [if_neg (by simp [h]), if_neg (by simp [h])]
    have T := Lib.hid (tiltMoments_no u v ws qs w hu hv hn hm h)
    clear hu hv h
    go_enter Try.func41, Try.ntmps41
    go_wp2_with fail
    refine T.out.mono ?_
    rintro e w1 ⟨rfl, l1⟩
    have L1 := Lib.hid l1
    clear l1 T
    go_wp2
    go_ret3
    exact ⟨_, rfl, mineI_nil _ _ _ _ _, L1.out⟩
end Go.Proofs.Ytgjchkcjlmklbaa
