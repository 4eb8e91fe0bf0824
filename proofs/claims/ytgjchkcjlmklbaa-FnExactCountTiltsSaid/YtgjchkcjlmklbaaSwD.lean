/- The contract of the model's CountTilts. -/
import Derived.Test.YtgjchkcjlmklbaaSw8
import Derived.Test.YtgjchkcjlmklbaaSw6
import Derived.StillTailTactics
namespace Go.Proofs.Ytgjchkcjlmklbaa
open Go.RowKit
theorem tm_all (t : Nat → Int) {s : Nat → Int} (n : Nat) (h : ∀ i, i < n → s i = 1) : tmF t s n = totF t n := by
  induction n with
  | zero => rfl
  | succ n ih => rw [tmF, totF, ih (fun i hi => h i (by omega)), h n (by omega), Int.mul_one]
theorem sg_all (n i : Nat) (h : i < n) : sgF n (2 ^ n - 1) i = 1 := by
  unfold sgF
  obtain ⟨d, hd⟩ : ∃ d, n - 1 - i = d := ⟨_, rfl⟩
  have he : n = d + (i + 1) := by omega
  rw [hd, he]
  have p := two_pow_pos d
  have q := two_pow_pos (i + 1)
  have e : (2 ^ (d + (i + 1)) - 1) / 2 ^ d = 2 ^ (i + 1) - 1 := by
    rw [Nat.pow_add]
    apply Nat.div_eq_of_lt_le
    · rw [Nat.mul_comm (2 ^ d), Nat.sub_mul, Nat.one_mul]
      generalize 2 ^ (i + 1) * 2 ^ d = P
      omega
    · rw [Nat.sub_add_cancel q, Nat.mul_comm]
      have := Nat.mul_pos (show 0 < 2 ^ (i + 1) by omega) (show 0 < 2 ^ d by omega)
      generalize 2 ^ (i + 1) * 2 ^ d = P at *
      omega
  rw [e]
  have e2 : 2 ^ (i + 1) = 2 * 2 ^ i := by rw [Nat.pow_succ, Nat.mul_comm]
  have r := two_pow_pos i
  have e3 : (2 ^ (i + 1) - 1) % 2 = 1 := by omega
  rw [e3]
  rfl
theorem wr_in {x : Int} (h0 : -9223372036854775808 ≤ x) (h1 : x ≤ 9223372036854775807) : IntKind.i64.wrap x = x ∧ RowKit.wrap64 x = x := ⟨by rw [IntKind.wrap_i64]; omega, Go.IntWalk.wrap64_in _ (by omega)⟩
theorem drn9 (w : World) (n : Nat) : Below w.heap.size w (w.drewN n) := ⟨rfl, rfl, rfl, Nat.le_refl _, fun _ _ => rfl⟩
theorem first_set (n j : Nat) (h : j < n + 1) : ((madeCells #[.int .i64 0] (n + 1)).setIfInBounds 0 (Value.int .i64 1))[j]? = some (.int .i64 (((if (j : Int) = 0 then 1 else 0) : Nat) : Int)) := by
  have hz : (madeCells #[.int .i64 0] (n + 1)).size = n + 1 := by simp [madeCells]
  by_cases e : j = 0
  · subst e
    rw [Array.getElem?_setIfInBounds_self_of_lt (by rw [hz]; omega)]
    rfl
  · rw [Array.getElem?_setIfInBounds_ne (by omega), made_int _ _ h, if_neg (by omega)]
    rfl
set_option maxRecDepth 100000 in
set_option maxHeartbeats 12800000 in
theorem specCount_yes (u v : Value) (ws qs : List Int) (m : Int) (w : World) (hu : IntRow w u ws) (hv : IntRow w v qs) (hn : ws.length ≤ 2000000) (hm : qs.length ≤ 2000000) (h : armB ws qs = true) (m1 : -10000 ≤ m) (m2 : m ≤ 10000) :
    Calls Try.prog 42 #[u, v, .int .i64 m] w fun e w' => e = .returned (.tuple #[.int .i64 ((cntF (tnF ws qs) ws.length m : Nat) : Int), .bool true]) ∧ Below w.heap.size w w' := by
  obtain ⟨⟨hw, ha⟩, hl⟩ := (armB_iff ws qs).1 h
  have h12 := hw.short
  have AR := Lib.hid (l9Arms_is u v ws qs true h w hu hv hn hm)
  have IN := Lib.hid (fun w => l1In_is m (-10000) 10000 true (by simp; omega) w)
  obtain ⟨K1, hK1⟩ : ∃ K, 2 ^ ws.length - 1 = K := ⟨_, rfl⟩
  have hp1 := two_pow_pos ws.length
  have hp2 := two_pow_le h12
  have SG := Lib.hid (l9Signs_any ws.length K1 w h12 (by omega))
  have MO := Lib.hid (fun x w1 (l : Below w.heap.size w w1) (hx : IntRow w1 x (tiltL ws.length K1)) => l9Moment_any u v x ws qs (tiltL ws.length K1) w1 (hu.lo l) (hv.lo l) hx hw ha hl (tiltL_len _ _) (tilt_signs _ _))
  rw [show tmF (tnF ws qs) (fun i => (tiltL ws.length K1).getD i 0) ws.length = totF (tnF ws qs) ws.length from tm_all _ _ (fun i hi => by rw [tiltL_at _ _ _ hi, ← hK1]; exact sg_all _ _ hi)] at MO
  have HB := Lib.hid (fun k => tn_bound hw ha hl k)
  have tb := tot_bound (t := tnF ws qs) (fun i => ⟨(tn_bound hw ha hl i).1, (tn_bound hw ha hl i).2.1⟩) ws.length
  have HCI := cnt_is (tnF ws qs) (fun i => (tn_bound hw ha hl i).1) ws.length m
  have HS0 := Lib.hid (fun s => show subF (tnF ws qs) 0 s = if s = 0 then 1 else 0 from rfl)
  have HSS := Lib.hid (fun k s => show subF (tnF ws qs) (k + 1) s = subF (tnF ws qs) k s + subF (tnF ws qs) k (s - tnF ws qs k) from rfl)
  have HSN := Lib.hid (fun k s hs => sub_neg (tnF ws qs) (fun i => (tn_bound hw ha hl i).1) k s hs)
  have HSL := Lib.hid (fun k s (hk : k ≤ 12) => show subF (tnF ws qs) k s ≤ 4096 from Nat.le_trans (sub_le _ k s) (two_pow_le hk))
  have HTN := Lib.hid (fun k => show ws.getD k 0 * qs.getD k 0 = tnF ws qs k from rfl)
  have MK := Lib.hid (fun n hn u => make_ints n hn u)
  generalize subF (tnF ws qs) = SF at *
  obtain ⟨R, hR⟩ : ∃ R, cntF (tnF ws qs) ws.length m = R := ⟨_, rfl⟩
  rw [hR] at HCI ⊢
  obtain ⟨TN, hTN⟩ : ∃ TN : Nat, totF (tnF ws qs) ws.length = TN := ⟨(totF (tnF ws qs) ws.length).toNat, by omega⟩
  rw [hTN] at tb HCI MO
  generalize tnF ws qs = t at *
  obtain ⟨a, c, rfl, hu⟩ := hu
  obtain ⟨a1, c1, rfl, hv⟩ := hv
  have hwn : ws = [] → ws.length = 0 := fun e => by rw [e]; rfl
  have hqn : qs = [] → ws.length = 0 := fun e => by rw [← hl, e]; rfl
  rw [hl] at hv AR MO ⊢
  obtain ⟨n, hnn⟩ : ∃ n, ws.length = n := ⟨_, rfl⟩
  rw [hnn] at AR SG MO HB tb HCI hu hv hp1 hp2 h12 hK1 hwn hqn ⊢
  have hKI : ((2 : Int) ^ n) = ((2 ^ n : Nat) : Int) := by simp
  have hK2 : ((2 ^ n : Nat) : Int) - 1 = (K1 : Int) := by omega
  have hK3 : ((2 : Int) ^ n) - 1 = (K1 : Int) := by rw [hKI]; exact hK2
  have hK4 : (2 : Int) ^ n ≤ 4096 := by rw [hKI]; omega
  have hK5 : (1 : Int) ≤ (2 : Int) ^ n := by rw [hKI]; omega
  clear hw ha h hn hm hl hnn hK1 hKI hK2 hp1 hp2 hR hTN
  go_enter Try.func42, Try.ntmps42
  go_wp2_with fail
  refine AR.out.mono ?_
  rintro e w' ⟨rfl, rfl⟩
  go_wp2_with fail
  refine (IN.out _).mono ?_
  rintro e w' ⟨rfl, rfl⟩
  clear AR IN
  go_wp2_with fail
  refine SG.out.mono ?_
  rintro e w1 ⟨x1, rfl, o1, l1⟩
  have M1 := Lib.hid (MO.out x1 w1 l1 o1.mine.row)
  have L1 := Lib.hid l1
  clear l1 o1 SG MO
  go_wp2_with fail
  refine M1.out.mono ?_
  rintro e w2 ⟨rfl, l2⟩
  have L2 := Lib.hid (lo_on L1.out l2)
  clear l2 M1 L1 hK3 hK4 hK5
  have hng : IntKind.i64.wrap (-(TN : Int)) = -(TN : Int) := (wr_in (by omega) (by omega)).1
  by_cases c1 : m < -(TN : Int)
  · have HR := Lib.hid (show R = 0 by rw [HCI, if_pos (.inl (.inl c1))])
    clear HCI
    go_wp2
    go_ret2
    exact ⟨by rw [HR.out]; rfl, L2.out⟩
  by_cases c2 : (TN : Int) < m
  · have HR := Lib.hid (show R = 0 by rw [HCI, if_pos (.inl (.inr c2))])
    clear HCI
    go_wp2
    go_ret2
    exact ⟨by rw [HR.out]; rfl, L2.out⟩
  obtain ⟨A, hA⟩ : ∃ A : Nat, (TN : Int) + m = (A : Int) := ⟨((TN : Int) + m).toNat, by omega⟩
  rw [hA] at HCI
  rcases Nat.mod_two_eq_zero_or_one A with hr | hr
  case inr =>
    have hr1 : Int.tmod (A : Int) 2 = 1 := (tmod_two hr).1
    have HR := Lib.hid (show R = 0 by rw [HCI, if_pos (.inr (by omega))])
    clear HCI hr
    go_wp2
    go_ret2
    exact ⟨by rw [HR.out]; rfl, L2.out⟩
  have hr1 : Int.tmod (A : Int) 2 = 0 := (tmod_two hr).1
  obtain ⟨S, hS⟩ : ∃ S, A / 2 = S := ⟨_, rfl⟩
  have hS1 : Int.tdiv (A : Int) 2 = (S : Int) := (tdiv_two hS).1
  have HR := Lib.hid (show R = SF n (S : Int) by rw [HCI, if_neg (by omega), show (A : Int) / 2 = (S : Int) by omega])
  have hST : S ≤ TN := by omega
  clear HCI hr
  have HMK := MK.out (TN + 1) (by omega) w2
  rw [show ((TN + 1 : Nat) : Int) = (TN : Int) + 1 by omega] at HMK
  have z0 : (w2.alloc (.cells (madeCells #[.int .i64 0] (TN + 1)) 3)).cell? ⟨w2.heap.size, 0, none⟩ = some (.int .i64 0) := by rw [World.cell?_alloc_at _ _ _ _ rfl]; exact made_int _ _ (by omega)
  have f0 : (w2.alloc (.cells (madeCells #[.int .i64 0] (TN + 1)) 3)).frozen? ⟨w2.heap.size, 0, none⟩ = false := World.frozen?_alloc_at _ _ _ _ rfl
  have HE := Lib.hid (And.intro hA hS1)
  clear MK hS
  go_wp2
  clear hng hr1 hS1 hA
  go_loopw [10] (fun i wr => ∃ k : Nat, k ≤ n ∧ i = .int .i64 k ∧ Hid (∀ j : Nat, j ≤ TN → wr.cell? ⟨w2.heap.size, j, none⟩ = some (.int .i64 ((SF k (j : Int) : Nat) : Int))) ∧ Hid (∀ j, wr.frozen? ⟨w2.heap.size, j, none⟩ = false) ∧ Hid (Below w2.heap.size w2 wr) ∧ w2.heap.size + 1 ≤ wr.heap.size) (fun i _ => n - (intOf i).toNat)
  case atStart => exact ⟨0, Nat.zero_le _, rfl, Lib.hid (fun j hj => by
    rw [HS0.out, World.cell?_alloc_at _ _ _ _ rfl]
    exact first_set TN j (by omega)), Lib.hid (fun j => World.frozen?_alloc_at _ _ _ _ rfl), Lib.hid ((Below.refl _ _).alloc (Nat.le_refl _) _), by simp⟩
  case round =>
    obtain ⟨k, hk, rfl, HC, HF, HL, hs3⟩ := hrel
    obtain ⟨wq, rfl⟩ : ∃ wq : World, wq = wr := ⟨_, rfl⟩
    clear z0 f0 HMK
    by_cases hlt : k < n
    case neg =>
      obtain rfl : k = n := by omega
      have hge : ¬ (k : Int) < (k : Int) := by omega
      have z1 := HC.out S hST
      have hS0 : (S : Int) < (TN : Int) + 1 := by omega
      have LW := Lib.hid (lo_on L2.out HL.out)
      have hS0' : (S : Int) < ((TN + 1 : Nat) : Int) := by omega
      obtain ⟨hA, hS1⟩ := HE.out
      clear HC HF HL
      go_wp2
      go_ret2
      exact ⟨by rw [HR.out]; rfl, LW.out⟩
    have hlt' : (k : Int) < (n : Int) := by omega
    rcases hu with e0 | ⟨g, off, rfl, hg, hc⟩
    · exact absurd (hwn e0) (by omega)
    rcases hv with e0 | ⟨g1, off1, rfl, hg1, hc1⟩
    · exact absurd (hqn e0) (by omega)
    have h1 := hc k hlt
    have h2 := hc1 k hlt
    have LQ := Lib.hid (L2.out.trans (HL.out.mono L2.out.size))
    rw [← LQ.out.cell (p := ⟨g, off + k, none⟩) hg] at h1
    rw [← LQ.out.cell (p := ⟨g1, off1 + k, none⟩) hg1] at h2
    have htn := HTN.out k
    have hb := HB.out k
    have HSk := Lib.hid (fun s => HSS.out k s)
    generalize ws.getD k 0 = x at h1 htn
    generalize qs.getD k 0 = y at h2 htn
    obtain ⟨o, ho⟩ : ∃ o, t k = o := ⟨_, rfl⟩
    rw [ho] at htn hb HSk
    obtain ⟨hb0, hb1, hb2⟩ := hb
    have hb2 := hb2 hlt
    have hw1 : IntKind.i64.wrap (x * y) = o := by rw [htn]; exact (wr_in (by omega) (by omega)).1
    have hw2 : RowKit.wrap64 (x * y) = o := by rw [htn]; exact (wr_in (by omega) (by omega)).2
    have t0 : -9223372036854775808 ≤ x * y := by omega
    have t1 : x * y ≤ 9223372036854775807 := by omega
    clear hc hc1 ho LQ
    go_wp2
    go_quiet (fail)
    go_wp2
    clear hw1 hw2 t0 t1
    go_loopw [12] (fun s wx => ∃ i : Nat, i ≤ TN ∧ s = .int .i64 i ∧ Hid (∀ j : Nat, j ≤ TN → wx.cell? ⟨w2.heap.size, j, none⟩ = some (.int .i64 (((if i < j then SF (k + 1) (j : Int) else SF k (j : Int)) : Nat) : Int))) ∧ Hid (∀ j, wx.frozen? ⟨w2.heap.size, j, none⟩ = false) ∧ Hid (Below w2.heap.size w2 wx) ∧ w2.heap.size + 1 ≤ wx.heap.size) (fun s _ => (intOf s).toNat)
    case atStart => exact ⟨TN, Nat.le_refl _, rfl, Lib.hid (fun j hj => by rw [if_neg (by omega)]; exact HC.out j hj), Lib.hid (fun j => HF.out j), Lib.hid (lo_on HL.out (drn9 _ _)), hs3⟩
    case round =>
      obtain ⟨i, hi, rfl, HC2, HF2, HL2, hs4⟩ := hrel
      clear HC HF HL hs3
      by_cases hio : o ≤ (i : Int)
      case neg =>
        have HN := Lib.hid (fun j (hj : j ≤ TN) => show wr.cell? ⟨w2.heap.size, j, none⟩ = some (.int .i64 ((SF (k + 1) (j : Int) : Nat) : Int)) by
          have := HC2.out j hj
          by_cases e : i < j
          · rw [if_pos e] at this; exact this
          · rw [if_neg e] at this
            rw [this, HSk.out, HSN.out k ((j : Int) - o) (by omega), Nat.add_zero])
        clear HC2
        go_wp2
        go_roundw
        case rel => exact ⟨k + 1, by omega, by go_num, HN, HF2, HL2, hs4⟩
        case measure => simp [intOf]; omega
      obtain ⟨D, hD⟩ : ∃ D : Nat, (i : Int) - o = (D : Int) := ⟨((i : Int) - o).toNat, by omega⟩
      have z1 := HC2.out i hi
      have z2 := HC2.out D (by omega)
      rw [if_neg (by omega)] at z1 z2
      have hs1 := HSL.out k (i : Int) (by omega)
      have hs2 := HSL.out k (D : Int) (by omega)
      have hsk := HSk.out (i : Int)
      rw [hD] at hsk
      obtain ⟨A1, hA1⟩ : ∃ A1, SF k (i : Int) = A1 := ⟨_, rfl⟩
      obtain ⟨A2, hA2⟩ : ∃ A2, SF k (D : Int) = A2 := ⟨_, rfl⟩
      rw [hA1] at z1 hs1 hsk
      rw [hA2] at z2 hs2 hsk
      have HSI := Lib.hid hsk
      have f1 := HF2.out i
      have hi1 : (i : Int) < (TN : Int) + 1 := by omega
      have hd1 : (D : Int) < (TN : Int) + 1 := by omega
      have hd2 : (D : Int) < ((TN + 1 : Nat) : Int) := by omega
      have hi2 : (i : Int) < ((TN + 1 : Nat) : Int) := by omega
      have hD0 : (0 : Int) ≤ (D : Int) := by omega
      have hq0 : -9223372036854775808 ≤ (i : Int) - o := by omega
      have hq1 : (i : Int) - o ≤ 9223372036854775807 := by omega
      have hq2 : -9223372036854775808 ≤ (D : Int) := by omega
      have hq3 : (D : Int) ≤ 9223372036854775807 := by omega
      have hq4 : -9223372036854775808 ≤ (A1 : Int) + (A2 : Int) := by omega
      have hq5 : (A1 : Int) + (A2 : Int) ≤ 9223372036854775807 := by omega
      have hwD := (wr_in hq2 hq3).1
      have hwA := (wr_in hq4 hq5).1
      clear hA1 hA2 hsk h1 h2
      go_wp2
      go_still_tail 14, (by kernel_rfl)
      change wpList _ _ _ _ _ wr.drew
      have g1 : wr.drew.cell? ⟨w2.heap.size, i, none⟩ = some (.int .i64 (A1 : Int)) := z1
      have g2 : wr.drew.cell? ⟨w2.heap.size, D, none⟩ = some (.int .i64 (A2 : Int)) := z2
      have g3 : wr.drew.frozen? ⟨w2.heap.size, i, none⟩ = false := f1
      have G1 := Lib.hid (fun j (hj : j ≤ TN) => show wr.drew.cell? ⟨w2.heap.size, j, none⟩ = _ from HC2.out j hj)
      have G2 := Lib.hid (fun j => show wr.drew.frozen? ⟨w2.heap.size, j, none⟩ = false from HF2.out j)
      have G3 := Lib.hid (show Below w2.heap.size w2 wr.drew from lo_on HL2.out (drw1 wr))
      have hs5 : w2.heap.size + 1 ≤ wr.drew.heap.size := hs4
      clear z1 z2 f1 HC2 HF2 HL2 hs4
      generalize wr.drew = wd at *
      have TS := Lib.hid (one_set wd w2.heap.size i (.int .i64 ((A1 : Int) + (A2 : Int))) g1)
      go_wp2
      go_roundw
      case rel =>
        obtain ⟨t1, t3⟩ := TS.out
        refine ⟨i - 1, by omega, congrArg (Value.int .i64) (by omega), Lib.hid (fun j hj => ?_), Lib.hid (fun j => ?_), Lib.hid (G3.out.setCell (p := ⟨w2.heap.size, i, none⟩) (Nat.le_refl _) _), by simpa using hs5⟩
        · by_cases e : j = i
          · subst e
            rw [t1, if_pos (by omega), HSI.out]
            simp
          · rw [t3 _ e, G1.out j hj]
            by_cases e2 : i < j
            · rw [if_pos e2, if_pos (by omega)]
            · rw [if_neg e2, if_neg (by omega)]
        · rw [World.frozen?_setCell]; exact G2.out j
      case measure => simp [intOf]; omega
end Go.Proofs.Ytgjchkcjlmklbaa
