/- The contracts of the model's tilts. -/
import Derived.Test.YtgjchkcjlmklbaaSw1
import Derived.Test.YtgjchkcjlmklbaaSr1
import Derived.Test.YtgjchkcjlmklbaaFrac
import Derived.Laws.BitsLemmas
namespace Go.Proofs.Ytgjchkcjlmklbaa
open Go.RowKit
theorem and_one9 (q : Nat) (hq : q < 4096) : bits BinOp.and IntKind.i64 ((q : Nat) : Int) 1 = ((q % 2 : Nat) : Int) := by
  have := bits_mask .i64 12 (by decide) (fun n h0 h1 => by rw [IntKind.wrap_i64]; omega) 1 (by decide) (q : Int) (by omega) (by omega)
  simpa using this
theorem sign_walk (n c k : Nat) (hc : c < 2 ^ n) (hn : n ≤ 12) : RowKit.wrap64 (RowKit.wrap64 (2 * bits BinOp.and IntKind.i64 ((c : Int) / 2 ^ (n - 1 - k)) 1) - 1) = sgF n c k := by
  have h4 := two_pow_le hn
  have e : (c : Int) / 2 ^ (n - 1 - k) = ((c / 2 ^ (n - 1 - k) : Nat) : Int) := by simp
  have hle : c / 2 ^ (n - 1 - k) ≤ c := Nat.div_le_self _ _
  rw [e, and_one9 _ (by omega)]
  unfold sgF
  rcases Nat.mod_two_eq_zero_or_one (c / 2 ^ (n - 1 - k)) with h | h
  · rw [h, Go.IntWalk.wrap64_in (2 * ((0 : Nat) : Int)) (by decide), Go.IntWalk.wrap64_in _ (by decide)]
  · rw [h, Go.IntWalk.wrap64_in (2 * ((1 : Nat) : Int)) (by decide), Go.IntWalk.wrap64_in _ (by decide)]
set_option maxRecDepth 100000 in
set_option maxHeartbeats 1600000 in
theorem l9Signs_any (n c : Nat) (w : World) (hn : n ≤ 12) (hc : c < 2 ^ n) :
    Calls Try.prog 121 #[.int .i64 (n : Int), .int .i64 (c : Int)] w fun e w' => ∃ v, e = .returned v ∧ OwnI w' w.heap.size v (tiltL n c) ∧ Below w.heap.size w w' := by
  obtain ⟨i0, hi, hz0, hz1, hz2⟩ := info_parts infoInt
  have h4 := two_pow_le hn
  have HTK := Lib.hid (fun k (h : k < n) => tiltL_take n c k h)
  have HTL := Lib.hid (show (tiltL n c).take n = tiltL n c from List.take_of_length_le (by rw [tiltL_len]; exact Nat.le_refl _))
  have HLN := Lib.hid (fun k (h : k ≤ n) => show ((tiltL n c).take k).length = k by rw [List.length_take, tiltL_len]; omega)
  have hrow0 : OwnI (w.alloc (.cells #[] 3)) w.heap.size (.slice (some ⟨w.heap.size, 0, none⟩) 0 0) ((tiltL n c).take 0) := by rw [List.take_zero]; exact ownI_lit0 w w.heap.size (Nat.le_refl _)
  have R0 := Lib.hid hrow0
  clear hrow0
  go_enter Try.func121, Try.ntmps121
  go_wp2
  go_loopw [5, 6] (fun x y wr => ∃ k : Nat, k ≤ n ∧ y = .int .i64 k ∧ Hid (OwnI wr w.heap.size x ((tiltL n c).take k)) ∧ Hid (Below w.heap.size w wr)) (fun _ y _ => n - (intOf y).toNat)
  case atStart => exact ⟨0, Nat.zero_le _, rfl, R0, Lib.hid ((Below.refl _ _).alloc (Nat.le_refl _) _)⟩
  case round =>
    obtain ⟨k, hk, rfl, HO, HB⟩ := hrel
    clear R0
    by_cases hlt : k < n
    · have hlt' : (k : Int) < (n : Int) := by omega
      have HK := Lib.hid (HTK.out k hlt)
      have HL := HLN.out k hk
      obtain ⟨n1, hn1⟩ : ∃ n1, n - 1 = n1 := ⟨_, rfl⟩
      have hn1' : (n : Int) - 1 = (n1 : Int) := by omega
      obtain ⟨t, ht⟩ : ∃ t, n1 - k = t := ⟨_, rfl⟩
      have ht' : (n1 : Int) - (k : Int) = (t : Int) := by omega
      have ho2 := HO.out
      unfold OwnI at ho2
      rw [HL] at ho2
      have hws := HB.out.size
      have hsg := sign_walk n c k hc hn
      rw [hn1, ht] at hsg
      obtain ⟨sg, hsg2⟩ : ∃ sg, sgF n c k = sg := ⟨_, rfl⟩
      rw [hsg2] at hsg HK
      have OB := Lib.hid (fun g hg => (ho2.lt g hg).1)
      clear HTK HLN HL hsg2 hn1 ht
      go_wp2_with (at_builtin; refine wpList_append_own_at _ rfl _ _ 22 rfl w.heap.size 3 i0 (.int .i64 0) 1 8 Try.underlying22 hi hz0 hz1 hz2 rfl (by decide) _ _ _ rfl (ho2.alloc _) ⟨wr.heap.size, 0, none⟩ 1 1 [.int .i64 sg] rfl rfl (cell_one_new _ _ _) (fun x hx => by simp at hx; subst hx; rfl) (by unfold maxLen; omega) (by omega) (by simp; omega) ?_; intro v3 w3 hown3 hgrow3 hnil3 hloc3)
      have HN := Lib.hid (show OwnI w3 w.heap.size v3 ((tiltL n c).take (k + 1)) by rw [HK.out]; exact ownI_snoc hown3 (by rw [List.length_take, tiltL_len]; omega))
      have HL3 := Lib.hid (show Below w.heap.size w w3 from (HB.out.alloc HB.out.size _).grown hgrow3 (by simp; omega) OB.out)
      refine ⟨⟨k + 1, by omega, by first | rfl | go_num, HN, HL3⟩, ?_⟩
      simp [intOf]
      omega
    · obtain rfl : k = n := by omega
      have hge : ¬ (k : Int) < (k : Int) := by omega
      have HR := Lib.hid (show OwnI wr w.heap.size u5 (tiltL k c) by rw [← HTL.out]; exact HO.out)
      go_wp2
      go_ret
      exact ⟨_, rfl, HR.out, HB.out⟩
theorem tm_in (t s : Nat → Int) (h : ∀ i, 0 ≤ t i ∧ t i ≤ 594) (n : Nat) (hs : ∀ i, i < n → s i = 1 ∨ s i = -1) : -(594 * (n : Int)) ≤ tmF t s n ∧ tmF t s n ≤ 594 * n := by
  induction n with
  | zero => exact ⟨Int.le_refl _, Int.le_refl _⟩
  | succ n ih =>
    have a := ih (fun i hi => hs i (by omega))
    have b := h n
    rw [tmF]
    rcases hs n (by omega) with e | e
    · rw [e]; omega
    · rw [e]; omega
set_option maxRecDepth 100000 in
set_option maxHeartbeats 1600000 in
theorem l9Moment_any (u v x : Value) (ws qs ss : List Int) (w : World) (hu : IntRow w u ws) (hv : IntRow w v qs) (hx : IntRow w x ss) (hw : WtsF ws) (ha : ArmsF qs) (hl : qs.length = ws.length) (hs : ss.length = ws.length) (hsg : ∀ i, i < ws.length → ss.getD i 0 = 1 ∨ ss.getD i 0 = -1) :
    Calls Try.prog 122 #[u, v, x] w fun e w' => e = .returned (.int .i64 (tmF (tnF ws qs) (fun i => ss.getD i 0) ws.length)) ∧ Below w.heap.size w w' := by
  have h12 := hw.short
  have HTB := Lib.hid (fun k (hk : k ≤ ws.length) => tm_in (tnF ws qs) (fun i => ss.getD i 0) (fun i => ⟨(tn_bound hw ha hl i).1, (tn_bound hw ha hl i).2.1⟩) k (fun i hi => hsg i (by omega)))
  have HST := Lib.hid (fun k => show tmF (tnF ws qs) (fun i => ss.getD i 0) (k + 1) = tmF (tnF ws qs) (fun i => ss.getD i 0) k + ws.getD k 0 * qs.getD k 0 * ss.getD k 0 from rfl)
  have HB := Lib.hid (fun k (hk : k < ws.length) => And.intro (tn_bound hw ha hl k).1 (tn_bound hw ha hl k).2.1)
  have HSG := Lib.hid hsg
  unfold tnF at HB
  obtain ⟨a, c, rfl, hu⟩ := hu
  obtain ⟨a1, c1, rfl, hv⟩ := hv
  obtain ⟨a2, c2, rfl, hx⟩ := hx
  rw [hl] at hv ⊢
  rw [hs] at hx ⊢
  have HT0 := Lib.hid (show tmF (tnF ws qs) (fun i => ss.getD i 0) 0 = 0 from rfl)
  generalize tmF (tnF ws qs) (fun i => ss.getD i 0) = T at *
  clear hw ha hsg
  go_enter Try.func122, Try.ntmps122
  go_wp2
  go_loopw [7, 8] (fun s i wr => ∃ k d : Nat, k ≤ ws.length ∧ i = .int .i64 k ∧ s = .int .i64 (T k) ∧ wr = w.drewN d) (fun _ i _ => ws.length - (intOf i).toNat)
  case atStart => exact ⟨0, 0, Nat.zero_le _, rfl, by rw [HT0.out], rfl⟩
  case round =>
    obtain ⟨k, d, hk, rfl, rfl, rfl⟩ := hrel
    by_cases hlt : k < ws.length
    · have hlt' : (k : Int) < (ws.length : Int) := by omega
      rcases hu with h | ⟨g, off, rfl, hg, hc⟩
      · subst h; simp at hlt
      rcases hv with h | ⟨g1, off1, rfl, hg1, hc1⟩
      · subst h; simp at hl; omega
      rcases hx with h | ⟨g2, off2, rfl, hg2, hc2⟩
      · subst h; simp at hs; omega
      have h1 := hc k hlt
      have h2 := hc1 k hlt
      have h3 := hc2 k hlt
      have hst := HST.out k
      have hb := HB.out k hlt
      have hsg := HSG.out k hlt
      have hb1 := HTB.out k hk
      have hb2 := HTB.out (k + 1) hlt
      generalize ws.getD k 0 = x at h1 hst hb
      generalize qs.getD k 0 = y at h2 hst hb
      generalize ss.getD k 0 = z at h3 hst hsg
      obtain ⟨S, hS⟩ : ∃ S, T k = S := ⟨_, rfl⟩
      obtain ⟨S2, hS2⟩ : ∃ S, T (k + 1) = S := ⟨_, rfl⟩
      rw [hS] at hst hb1 ⊢
      rw [hS2] at hst hb2
      have HS2 := Lib.hid hS2
      obtain ⟨m, hm⟩ : ∃ m, x * y = m := ⟨_, rfl⟩
      obtain ⟨m2, hm2⟩ : ∃ m2, x * y * z = m2 := ⟨_, rfl⟩
      have hmz : m2 = m ∨ m2 = -m := by
        rcases hsg with e | e
        · left; rw [← hm2, e, hm, Int.mul_one]
        · right; rw [← hm2, e, hm, Int.mul_neg, Int.mul_one]
      rw [hm] at hb
      have t0 : -9223372036854775808 ≤ x * y := by omega
      have t1 : x * y ≤ 9223372036854775807 := by omega
      have t2 : -9223372036854775808 ≤ x * y * z := by omega
      have t3 : x * y * z ≤ 9223372036854775807 := by omega
      have s0 : -9223372036854775808 ≤ S + x * y * z := by omega
      have s1 : S + x * y * z ≤ 9223372036854775807 := by omega
      have HSS := Lib.hid (show S2 = S + x * y * z from hst)
      clear hc hc1 hc2 hst hS hS2 hm hm2 hmz hb hb1 hb2 hsg
      go_wp2
      go_quiet (fail)
      go_wp2
      go_roundw
      case rel => exact ⟨k + 1, d + nq, by omega, by go_num, by rw [HS2.out, HSS.out], by simp⟩
      case measure => simp [intOf]; omega
    · obtain rfl : k = ws.length := by omega
      have hge : ¬ (ws.length : Int) < (ws.length : Int) := by omega
      go_wp2
      go_ret
      exact ⟨rfl, drw9 w d⟩
theorem arm_partsS (ws qs : List Int) : armB ws qs = (propB (ArmsF qs) && (wtsB ws && ((qs.length : Int) == ws.length))) := by
  unfold armB
  rw [show decide ((qs.length : Int) = ws.length) = ((qs.length : Int) == ws.length) by rw [Bool.eq_iff_iff]; simp]
  cases wtsB ws <;> cases ((qs.length : Int) == ws.length) <;> simp
set_option maxRecDepth 100000 in
set_option maxHeartbeats 1600000 in
theorem l9Arms_is (u v : Value) (ws qs : List Int) (r : Bool) (h : armB ws qs = r) (w : World) (hu : IntRow w u ws) (hv : IntRow w v qs) (hn : ws.length ≤ 2000000) (hm : qs.length ≤ 2000000) :
    Calls Try.prog 120 #[u, v] w fun e w' => e = .returned (.bool r) ∧ w = w' := by
  subst h
  rw [arm_partsS]
  have WT := Lib.hid (l9Weights_is u ws _ rfl w hu hn)
  have HYES := Lib.hid (fun (h : ∀ i, i < qs.length → 1 ≤ qs.getD i 0 ∧ qs.getD i 0 ≤ 6) => show propB (ArmsF qs) = true from propB_yes h)
  have HNO := Lib.hid (fun i (hi : i < qs.length) (h : ¬ (1 ≤ qs.getD i 0 ∧ qs.getD i 0 ≤ 6)) => show propB (ArmsF qs) = false from propB_no (fun f => h (f i hi)))
  generalize propB (ArmsF qs) = b1 at *
  generalize wtsB ws = b2 at *
  obtain ⟨a, c, rfl, _⟩ := hu
  obtain ⟨a1, c1, rfl, hr⟩ := hv
  obtain ⟨e, he⟩ : ∃ e, ((qs.length : Int) == (ws.length : Int)) = e := ⟨_, rfl⟩
  rw [he]
  go_enter Try.func120, Try.ntmps120
  go_wp2
  go_loopw [5] (fun x wr => ∃ i : Nat, i ≤ qs.length ∧ x = .int .i64 i ∧ Hid (∀ j, j < i → 1 ≤ qs.getD j 0 ∧ qs.getD j 0 ≤ 6) ∧ wr = w) (fun x _ => qs.length - (intOf x).toNat)
  case atStart => exact ⟨0, Nat.zero_le _, rfl, Lib.hid (fun i h => by omega), rfl⟩
  case round =>
    obtain ⟨i, hi, rfl, HZ, hwr⟩ := hrel
    subst hwr
    by_cases hlt : i < qs.length
    · have hlt' : (i : Int) < (qs.length : Int) := by omega
      rcases hr with h | ⟨g, off, rfl, hg, hc⟩
      · subst h; simp at hlt
      have ci := hc i hlt
      have HNi := Lib.hid (HNO.out i hlt)
      have HZs := Lib.hid (fun (h : 1 ≤ qs.getD i 0 ∧ qs.getD i 0 ≤ 6) => show ∀ j, j < i + 1 → 1 ≤ qs.getD j 0 ∧ qs.getD j 0 ≤ 6 from fun j hj => by
        by_cases e : j = i
        · rw [e]; exact h
        · exact HZ.out j (by omega))
      clear hc
      generalize qs.getD i 0 = x at ci HNi HZs
      by_cases hx : 1 ≤ x ∧ x ≤ 6
      · have HI := Lib.hid (fun w => l1In_is x 1 6 true (by simp; omega) w)
        have HZN := Lib.hid (HZs.out hx)
        clear HNi HZs
        go_wp2_with fail
        refine (HI.out _).mono ?_
        rintro e w' ⟨rfl, rfl⟩
        go_wp2
        go_roundw
        case rel => exact ⟨i + 1, by omega, by go_num, HZN, by trivial⟩
        case measure => simp [intOf]; omega
      · have HI := Lib.hid (fun w => l1In_is x 1 6 false (by simp; omega) w)
        have HF := Lib.hid (HNi.out hx)
        clear HNi HZs
        go_wp2_with fail
        refine (HI.out _).mono ?_
        rintro e w' ⟨rfl, rfl⟩
        go_wp2
        go_ret
        exact ⟨by rw [HF.out]; rfl, rfl⟩
    · obtain rfl : i = qs.length := by omega
      have hge : ¬ (qs.length : Int) < (qs.length : Int) := by omega
      have HF := Lib.hid (HYES.out HZ.out)
      clear HYES HNO HZ
      cases b2 with
      | false =>
        go_wp2_with fail
        refine WT.out.mono ?_
        rintro e' w' ⟨rfl, rfl⟩
        go_wp2
        go_ret
        exact ⟨by rw [HF.out]; rfl, rfl⟩
      | true =>
        go_wp2_with fail
        refine WT.out.mono ?_
        rintro e' w' ⟨rfl, rfl⟩
        go_wp2
        go_ret
        exact ⟨by rw [HF.out]; rfl, rfl⟩
end Go.Proofs.Ytgjchkcjlmklbaa
