/- The contract of the model's LeastTilt. -/
import Derived.Test.YtgjchkcjlmklbaaSw5
namespace Go.Proofs.Ytgjchkcjlmklbaa
open Go.RowKit
theorem mineI_mono9 {w : World} {B C E : Nat} {v : Value} {xs : List Int} (h : MineI w B E v xs) (hC : C ≤ B) : MineI w C E v xs := by
  rcases h with h | ⟨g, c, e, h1, h2, h3, h4⟩
  · exact .inl h
  · exact .inr ⟨g, c, e, Nat.le_trans hC h1, h2, h3, h4⟩
theorem szT_of (z : Int) : (if -z < z then z else -z) = szT z := szT_most z
theorem tilt_signs (n c : Nat) : ∀ i, i < n → (tiltL n c).getD i 0 = 1 ∨ (tiltL n c).getD i 0 = -1 := fun i hi => by rw [tiltL_at n c i hi]; exact sg_sign n c i
theorem fT_is (ws qs : List Int) (c : Nat) : szT (tmF (tnF ws qs) (fun i => (tiltL ws.length c).getD i 0) ws.length) = fT ws qs c := by unfold fT; rw [tm_tilt]
theorem szT_bound {z M : Int} (h0 : -M ≤ z) (h1 : z ≤ M) : 0 ≤ szT z ∧ szT z ≤ M := by unfold szT; split <;> omega
set_option maxRecDepth 100000 in
set_option maxHeartbeats 3200000 in
theorem specLeast_yes (u v : Value) (ws qs : List Int) (w : World) (hu : IntRow w u ws) (hv : IntRow w v qs) (hn : ws.length ≤ 2000000) (hm : qs.length ≤ 2000000) (h : armB ws qs = true) :
    Calls Try.prog 40 #[u, v] w fun e w' => ∃ x, e = .returned (.tuple #[x, .int .i64 (ltV ws qs), .bool true]) ∧ IntRow w' x (ltS ws qs) ∧ Below w.heap.size w w' := by
  obtain ⟨⟨hw, ha⟩, hl⟩ := (armB_iff ws qs).1 h
  have h12 := hw.short
  unfold ltV ltS
  rw [if_pos h, if_pos h]
  have AR := Lib.hid (l9Arms_is u v ws qs true h w hu hv hn hm)
  have SG := Lib.hid (fun c (hc : c < 2 ^ ws.length) w1 => l9Signs_any ws.length c w1 h12 hc)
  have MO := Lib.hid (fun x c w1 (l : Below w.heap.size w w1) (hx : IntRow w1 x (tiltL ws.length c)) => l9Moment_any u v x ws qs (tiltL ws.length c) w1 (hu.lo l) (hv.lo l) hx hw ha hl (tiltL_len _ _) (tilt_signs _ _))
  have MS := Lib.hid (fun z w => l1Most_any z (-z) w)
  have FT := Lib.hid (fun c => fT_is ws qs c)
  have TB := Lib.hid (fun c => show -7128 ≤ tmF (tnF ws qs) (fun i => (tiltL ws.length c).getD i 0) ws.length ∧ tmF (tnF ws qs) (fun i => (tiltL ws.length c).getD i 0) ws.length ≤ 7128 by
    have := tm_in (tnF ws qs) (fun i => (tiltL ws.length c).getD i 0) (fun i => ⟨(tn_bound hw ha hl i).1, (tn_bound hw ha hl i).2.1⟩) ws.length (tilt_signs _ _)
    omega)
  have hp1 := two_pow_pos ws.length
  have hp2 := two_pow_le h12
  generalize tmF (tnF ws qs) = TM at *
  generalize fT ws qs = f at *
  obtain ⟨a, c, rfl, _⟩ := hu
  obtain ⟨n, hnn⟩ : ∃ n, ws.length = n := ⟨_, rfl⟩
  rw [hnn] at AR SG MO FT TB hp1 hp2 h12 ⊢
  obtain ⟨K, hK⟩ : ∃ K, 2 ^ n = K := ⟨_, rfl⟩
  have hKI : ((2 : Int) ^ n) = (K : Int) := by rw [← hK]; simp
  rw [hK] at SG hp1 hp2 ⊢
  clear hw ha h hK hnn hn hm hl hv
  go_enter Try.func40, Try.ntmps40
  go_wp2_with fail
  refine AR.out.mono ?_
  rintro e w' ⟨rfl, rfl⟩
  go_wp2_with fail
  refine (SG.out 0 (by omega) w).mono ?_
  rintro e w1 ⟨x1, rfl, o1, l1⟩
  have L1 := Lib.hid l1
  have M1 := Lib.hid (MO.out x1 0 w1 l1 o1.mine.row)
  have R1 := Lib.hid o1.mine.row
  clear l1 o1 AR
  go_wp2_with fail
  refine M1.out.mono ?_
  rintro e w2 ⟨rfl, l2⟩
  have L2 := Lib.hid (lo_on L1.out l2)
  have R2 := Lib.hid (R1.out.lo l2)
  have hb0 := TB.out 0
  have hf0 := FT.out 0
  obtain ⟨z0, hz0⟩ : ∃ z, TM (fun i => (tiltL n 0).getD i 0) n = z := ⟨_, rfl⟩
  rw [hz0] at hb0 hf0 ⊢
  have hng : IntKind.i64.wrap (-z0) = -z0 := by rw [IntKind.wrap_i64]; omega
  clear l2 M1 hz0 R1
  go_wp2_with fail
  refine (MS.out z0 _).mono ?_
  rintro e w' ⟨rfl, rfl⟩
  rw [szT_of, hf0]
  clear hf0 hng hb0
  go_wp2
  go_loopw [8, 9, 10] (fun b l y wr => ∃ k : Nat, k < K ∧ y = .int .i64 ((k : Int) + 1) ∧ l = .int .i64 (lsF f k).2 ∧ Hid (IntRow wr b (tiltL n (lsF f k).1)) ∧ Hid (Below w.heap.size w wr)) (fun _ _ y _ => K - (intOf y).toNat)
  case atStart => exact ⟨0, by omega, by first | rfl | go_num, rfl, Lib.hid R2.out, L2⟩
  case round =>
    obtain ⟨k, hk, rfl, rfl, HR, HB⟩ := hrel
    clear R2 L2 L1
    by_cases hlt : k + 1 < K
    case neg =>
      have HE := Lib.hid (show K - 1 = k by omega)
      have hge : ¬ (k : Int) + 1 < (K : Int) := by omega
      go_wp2
      go_ret3
      exact ⟨_, by rw [HE.out]; rfl, by rw [HE.out]; exact HR.out, HB.out⟩
    have hlt' : (k : Int) + 1 < (K : Int) := by omega
    have S1 := SG.out (k + 1) hlt wr
    rw [show ((k + 1 : Nat) : Int) = (k : Int) + 1 by omega] at S1
    have S1 := Lib.hid S1
    go_wp2_with fail
    refine S1.out.mono ?_
    rintro e w3 ⟨x3, rfl, o3, l3⟩
    have L3 := Lib.hid (HB.out.trans (l3.mono HB.out.size))
    have M3 := Lib.hid (MO.out x3 (k + 1) w3 L3.out o3.mine.row)
    have R3 := Lib.hid o3.mine.row
    have HR3 := Lib.hid (HR.out.lo l3)
    clear l3 o3 S1 HR
    go_wp2_with fail
    refine M3.out.mono ?_
    rintro e w4 ⟨rfl, l4⟩
    have L4 := Lib.hid (L3.out.trans (l4.mono L3.out.size))
    have R4 := Lib.hid (R3.out.lo l4)
    have HR4 := Lib.hid (HR3.out.lo l4)
    have hb1 := TB.out (k + 1)
    have hf1 := FT.out (k + 1)
    obtain ⟨z, hz⟩ : ∃ z, TM (fun i => (tiltL n (k + 1)).getD i 0) n = z := ⟨_, rfl⟩
    rw [hz] at hb1 hf1 ⊢
    have hng : IntKind.i64.wrap (-z) = -z := by rw [IntKind.wrap_i64]; omega
    clear l4 M3 hz R3 HR3 L3 HB
    go_wp2_with fail
    refine (MS.out z _).mono ?_
    rintro e w' ⟨rfl, rfl⟩
    rw [szT_of, hf1]
    have HLY := Lib.hid (fun (h : f (k + 1) < (lsF f k).2) => show lsF f (k + 1) = (k + 1, f (k + 1)) by rw [lsF, if_pos h])
    have HLN := Lib.hid (fun (h : ¬ f (k + 1) < (lsF f k).2) => show lsF f (k + 1) = lsF f k by rw [lsF, if_neg h])
    clear hf1 hng hb1
    obtain ⟨F, hF⟩ : ∃ F, f (k + 1) = F := ⟨_, rfl⟩
    rw [hF] at HLY HLN ⊢
    have HFF := Lib.hid hF
    obtain ⟨V, hV⟩ : ∃ V, (lsF f k).2 = V := ⟨_, rfl⟩
    rw [hV] at HLY HLN ⊢
    have HVV := Lib.hid hV
    clear hF hV
    by_cases hc : F < V
    · have HL := Lib.hid (HLY.out hc)
      clear HLY HLN
      go_wp2
      go_roundw
      case rel => exact ⟨k + 1, hlt, by go_num, by rw [HL.out], Lib.hid (by rw [HL.out]; exact R4.out), L4⟩
      case measure => simp [intOf]; omega
    · have HL := Lib.hid (HLN.out hc)
      clear HLY HLN
      go_wp2
      go_roundw
      case rel => exact ⟨k + 1, hlt, by go_num, by rw [HL.out, HVV.out], Lib.hid (by rw [HL.out]; exact HR4.out), L4⟩
      case measure => simp [intOf]; omega
theorem specLeast_any (u v : Value) (ws qs : List Int) (w : World) (hu : IntRow w u ws) (hv : IntRow w v qs) (hn : ws.length ≤ 2000000) (hm : qs.length ≤ 2000000) :
    Calls Try.prog 40 #[u, v] w fun e w' => ∃ x, e = .returned (.tuple #[x, .int .i64 (ltV ws qs), .bool (armB ws qs)]) ∧ IntRow w' x (ltS ws qs) ∧ Below w.heap.size w w' := by
  cases h : armB ws qs with
  | true => exact specLeast_yes u v ws qs w hu hv hn hm h
  | false =>
    unfold ltV ltS
    rw [if_neg (by simp [h]), if_neg (by simp [h])]
    have AR := Lib.hid (l9Arms_is u v ws qs false h w hu hv hn hm)
    have HN := Lib.hid (show Below w.heap.size w (w.alloc (.cells #[] 3)) from (Below.refl _ _).alloc (Nat.le_refl _) _)
    clear hu hv h
    go_enter Try.func40, Try.ntmps40
    go_wp2_with fail
    refine AR.out.mono ?_
    rintro e w' ⟨rfl, rfl⟩
    go_wp2
    go_ret3
    exact ⟨_, rfl, intRow_nil _ _ _, HN.out⟩
end Go.Proofs.Ytgjchkcjlmklbaa
