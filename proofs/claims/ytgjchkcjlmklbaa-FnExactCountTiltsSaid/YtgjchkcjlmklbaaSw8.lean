/- The contracts of the library's Min at numbers, and of the program's tiltAt. -/
import Derived.Test.YtgjchkcjlmklbaaSw7
import Derived.Test.YtgjchkcjlmklbaaSw4
namespace Go.Proofs.Ytgjchkcjlmklbaa
open Go.RowKit
set_option maxRecDepth 100000 in
set_option maxHeartbeats 1600000 in
theorem minI_any (v : Value) (xs : List Int) (w : World) (hr : IntRow w v xs) (h0 : 0 < xs.length) (hn : xs.length ≤ 2000000) :
    Calls Try.prog 125 #[v] w fun e w' => (∃ m : Int, e = .returned (.int .i64 m) ∧ (∃ i, i < xs.length ∧ xs.getD i 0 = m) ∧ ∀ j, j < xs.length → m ≤ xs.getD j 0) ∧ w' = w := by
  obtain ⟨a, c, rfl, hr⟩ := hr
  rcases hr with h | ⟨g, off, rfl, hg, hc⟩
  · subst h; simp at h0
  have HC := Lib.hid hc
  have c0 := hc 0 h0
  rw [Nat.add_zero] at c0
  obtain ⟨x0, hx0⟩ : ∃ x, xs.getD 0 0 = x := ⟨_, rfl⟩
  have HX0 := Lib.hid hx0
  have H00 := Lib.hid h0
  rw [hx0] at c0
  have hn1 : ¬ (xs.length : Int) < 1 := by omega
  have hn2 : (0 : Int) < (xs.length : Int) := by omega
  clear hc hx0
  go_enter Try.func125, Try.ntmps125
  go_wp2
  go_loopw [3, 4] (fun m i wr => ∃ (k : Nat) (z : Int), 0 < k ∧ k ≤ xs.length ∧ i = .int .i64 k ∧ m = .int .i64 z ∧ Hid ((∃ i, i < k ∧ xs.getD i 0 = z) ∧ ∀ j, j < k → z ≤ xs.getD j 0) ∧ wr = w) (fun _ i _ => xs.length - (intOf i).toNat)
  case atStart => exact ⟨1, x0, Nat.one_pos, H00.out, rfl, rfl, Lib.hid ⟨⟨0, Nat.one_pos, HX0.out⟩, fun j hj => by
    have : j = 0 := by omega
    subst this
    rw [HX0.out]
    exact Int.le_refl _⟩, rfl⟩
  case round =>
    obtain ⟨k, z, hk0, hk, rfl, rfl, HZ, hwr⟩ := hrel
    subst hwr
    by_cases hlt : k < xs.length
    · have hlt' : (k : Int) < (xs.length : Int) := by omega
      have ck := HC.out k hlt
      obtain ⟨y, hy⟩ : ∃ y, xs.getD k 0 = y := ⟨_, rfl⟩
      rw [hy] at ck
      have HY := Lib.hid hy
      clear hy
      by_cases hc : y < z
      · have HN := Lib.hid (show (∃ i, i < k + 1 ∧ xs.getD i 0 = y) ∧ ∀ j, j < k + 1 → y ≤ xs.getD j 0 from ⟨⟨k, by omega, HY.out⟩, fun j hj => by
          by_cases e : j = k
          · rw [e, HY.out]; exact Int.le_refl _
          · have := HZ.out.2 j (by omega); omega⟩)
        go_wp2
        go_roundw
        case rel => exact ⟨k + 1, y, by omega, by omega, by go_num, by first | rfl | (simp; omega), HN, by first | rfl | trivial⟩
        case measure => simp [intOf]; omega
      · have HN := Lib.hid (show (∃ i, i < k + 1 ∧ xs.getD i 0 = z) ∧ ∀ j, j < k + 1 → z ≤ xs.getD j 0 from ⟨by obtain ⟨i, hi, e⟩ := HZ.out.1; exact ⟨i, by omega, e⟩, fun j hj => by
          by_cases e : j = k
          · rw [e, HY.out]; omega
          · exact HZ.out.2 j (by omega)⟩)
        go_wp2
        go_roundw
        case rel => exact ⟨k + 1, z, by omega, by omega, by go_num, by first | rfl | (simp; omega), HN, by first | rfl | trivial⟩
        case measure => simp [intOf]; omega
    · obtain rfl : k = xs.length := by omega
      have hge : ¬ (xs.length : Int) < (xs.length : Int) := by omega
      go_wp2
      go_ret
      exact ⟨⟨z, rfl, HZ.out.1, HZ.out.2⟩, rfl⟩
theorem tmod_two {q r : Nat} (h : q % 2 = r) : Int.tmod (q : Int) 2 = (r : Int) ∧ (q : Int) % 2 = (r : Int) := by
  rw [Int.tmod_eq_emod_of_nonneg (by omega)]
  omega
theorem tdiv_two {q r : Nat} (h : q / 2 = r) : Int.tdiv (q : Int) 2 = (r : Int) ∧ (q : Int) / 2 = (r : Int) := by
  rw [Int.tdiv_eq_ediv_of_nonneg (by omega)]
  omega
theorem half_step (c t : Nat) : c / 2 ^ t / 2 = c / 2 ^ (t + 1) := by rw [Nat.div_div_eq_div_mul, Nat.pow_succ]
set_option maxRecDepth 100000 in
set_option maxHeartbeats 3200000 in
theorem tiltAt_any (n c : Nat) (w : World) (hn : n ≤ 12) (hc : c < 2 ^ n) :
    Calls Try.prog 126 #[.int .i64 (c : Int), .int .i64 (n : Int)] w fun e w' => ∃ v, e = .returned v ∧ MineI w' w.heap.size w'.heap.size v (tiltL n c) ∧ Below w.heap.size w w' := by
  have HM := make_ints n (by omega)
  have h4 := two_pow_le hn
  have HSG := Lib.hid (fun t (h : t < n) => show sgF n c (n - 1 - t) = 2 * ((c / 2 ^ t % 2 : Nat) : Int) - 1 by unfold sgF; rw [show n - 1 - (n - 1 - t) = t by omega])
  have HH := Lib.hid (half_step c)
  have HLE := Lib.hid (fun t => show c / 2 ^ t ≤ 4096 from Nat.le_trans (Nat.div_le_self _ _) (by omega))
  have TL := Lib.hid (tiltL_len n c)
  have TA := Lib.hid (fun i h => tiltL_at n c i h)
  have HZ0 := Lib.hid (show c / 2 ^ 0 = c by simp)
  clear hc h4
  go_enter Try.func126, Try.ntmps126
  go_wp2
  go_loopw [0, 6] (fun x y wr => ∃ t : Nat, t ≤ n ∧ x = .int .i64 ((c / 2 ^ t : Nat) : Int) ∧ y = .int .i64 ((n : Int) - 1 - (t : Int)) ∧ Hid (∀ j, n ≤ j + t → j < n → wr.cell? ⟨w.heap.size, j, none⟩ = some (.int .i64 (sgF n c j))) ∧ Hid (∀ j, j + t < n → wr.cell? ⟨w.heap.size, j, none⟩ = some (.int .i64 0)) ∧ Hid (∀ j, wr.frozen? ⟨w.heap.size, j, none⟩ = false) ∧ Hid (Below w.heap.size w wr) ∧ w.heap.size + 1 ≤ wr.heap.size) (fun _ y _ => (intOf y + 1).toNat)
  case atStart => exact ⟨0, Nat.zero_le _, by rw [HZ0.out], by simp, Lib.hid (fun j h1 h2 => by omega), Lib.hid (fun j h => by rw [World.cell?_alloc_at _ _ _ _ rfl]; exact made_int _ _ (by omega)), Lib.hid (fun j => World.frozen?_alloc_at _ _ _ _ rfl), Lib.hid ((Below.refl _ _).alloc (Nat.le_refl _) _), by simp⟩
  case round =>
    obtain ⟨t, ht, rfl, rfl, H1, H2, H3, HB, hs1⟩ := hrel
    clear HM HZ0
    by_cases hlt : t < n
    · obtain ⟨i, hi⟩ : ∃ i, n - 1 - t = i := ⟨_, rfl⟩
      have hi' : (n : Int) - 1 - (t : Int) = (i : Int) := by omega
      have hin : (i : Int) < (n : Int) := by omega
      have hsg := HSG.out t hlt
      rw [hi] at hsg
      have hh := HH.out t
      have hle := HLE.out t
      have z1 := H2.out i (by omega)
      have f1 := H3.out i
      obtain ⟨q, hq⟩ : ∃ q, c / 2 ^ t = q := ⟨_, rfl⟩
      rw [hq] at hsg hh hle ⊢
      rw [hi']
      obtain ⟨q2, hq2⟩ : ∃ q2, q / 2 = q2 := ⟨_, rfl⟩
      rw [hq2] at hh
      have HQ2 := Lib.hid hh.symm
      have HSI := Lib.hid hsg
      have HII := Lib.hid hi'
      have HTI := Lib.hid (show n = i + t + 1 by omega)
      obtain ⟨hd1, hd2⟩ := tdiv_two hq2
      have hqb : q2 ≤ 4096 := by omega
      have hw1 : IntKind.i64.wrap (q2 : Int) = (q2 : Int) := by rw [IntKind.wrap_i64]; omega
      have hw2 : RowKit.wrap64 (q2 : Int) = (q2 : Int) := Go.IntWalk.wrap64_in _ (by omega)
      have hi0 : (0 : Int) ≤ (i : Int) := by omega
      rcases Nat.mod_two_eq_zero_or_one q with hr | hr
      all_goals rw [hr] at hsg HSI
      case' inl =>
        have hr1 : Int.tmod (q : Int) 2 = 0 := (tmod_two hr).1
        have hr2 : (q : Int) % 2 = 0 := (tmod_two hr).2
        have TS := Lib.hid (one_set wr w.heap.size i (.int .i64 (-1)) z1)
        have HSV := Lib.hid (show sgF n c i = -1 by rw [hsg]; rfl)
      case' inr =>
        have hr1 : Int.tmod (q : Int) 2 = 1 := (tmod_two hr).1
        have hr2 : (q : Int) % 2 = 1 := (tmod_two hr).2
        have TS := Lib.hid (one_set wr w.heap.size i (.int .i64 1) z1)
        have HSV := Lib.hid (show sgF n c i = 1 by rw [hsg]; rfl)
      all_goals
        (clear hsg hh hr hq2 HSG HH HLE hq hi hi'
         go_wp2
         go_roundw
         case rel =>
           obtain ⟨t1, t3⟩ := TS.out
           have hti := HTI.out
           refine ⟨t + 1, by omega, by rw [HQ2.out], congrArg (Value.int .i64) (by omega), Lib.hid (fun j hj hjn => ?_), Lib.hid (fun j hj => ?_), Lib.hid (fun j => ?_), Lib.hid (HB.out.setCell (p := ⟨w.heap.size, i, none⟩) (Nat.le_refl _) _), by simp; omega⟩
           · by_cases e : j = i
             · subst e
               rw [HSV.out]
               exact t1
             · rw [t3 _ e]
               exact H1.out j (by omega) hjn
           · rw [t3 _ (by omega)]
             exact H2.out j (by omega)
           · rw [World.frozen?_setCell]
             exact H3.out j
         case measure => simp [intOf])
    · obtain rfl : t = n := by omega
      have hge : ¬ (0 : Int) ≤ (t : Int) - 1 - (t : Int) := by omega
      go_wp2
      go_ret
      exact ⟨_, rfl, .inr ⟨_, _, by rw [TL.out]; rfl, Nat.le_refl _, by omega, Nat.le_refl _, fun j hj => by rw [TL.out] at hj; rw [TA.out j hj]; exact H1.out j (by omega) hj, H3.out⟩, HB.out⟩
theorem tiltMoments_no (u v : Value) (ws qs : List Int) (w : World) (hu : IntRow w u ws) (hv : IntRow w v qs) (hn : ws.length ≤ 2000000) (hm : qs.length ≤ 2000000) (h : armB ws qs = false) :
    Calls Try.prog 124 #[u, v] w fun e w' => e = .returned (.tuple #[.slice none 0 0, .bool false]) ∧ Below w.heap.size w w' := by
  have HA := Lib.hid (haveArms_is u v ws qs false h w hu hv hn hm)
  clear hu hv h
  go_enter Try.func124, Try.ntmps124
  go_wp2_with fail
  refine HA.out.mono ?_
  rintro e w1 ⟨rfl, l1⟩
  have L1 := Lib.hid l1
  clear l1 HA
  go_wp2
  go_ret2
  exact ⟨rfl, L1.out⟩
theorem ctB_parts (ws qs : List Int) (m : Int) : ctB ws qs m = (armB ws qs && (decide (-10000 ≤ m) && decide (m ≤ 10000))) := rfl
theorem cnt_take (xs : List Int) (m : Int) (k : Nat) (h : k < xs.length) : (xs.take (k + 1)).countP (fun x => x == m) = (xs.take k).countP (fun x => x == m) + (if xs.getD k 0 = m then 1 else 0) := by
  rw [take_snocI xs k h, List.countP_append]
  congr 1
  by_cases e : xs.getD k 0 = m
  · rw [if_pos e, e]; simp
  · rw [if_neg e]; simp only [List.countP_cons, List.countP_nil]; rw [show (xs.getD k 0 == m) = false by simpa using e]; rfl
set_option maxRecDepth 100000 in
set_option maxHeartbeats 3200000 in
theorem countI_any (u v : Value) (ws qs : List Int) (m : Int) (w : World) (hu : IntRow w u ws) (hv : IntRow w v qs) (hn : ws.length ≤ 2000000) (hm : qs.length ≤ 2000000) :
    Calls Try.prog 43 #[u, v, .int .i64 m] w fun e w' => e = .returned (.tuple #[.int .i64 (ctN ws qs m), .bool (ctB ws qs m)]) ∧ Below w.heap.size w w' := by
  have hRR : ctN ws qs m = if ctB ws qs m = true then ((cntF (tnF ws qs) ws.length m : Nat) : Int) else 0 := rfl
  have hBB := ctB_parts ws qs m
  generalize ctN ws qs m = R at hRR ⊢
  generalize ctB ws qs m = B at hRR hBB ⊢
  cases h : armB ws qs with
  | false =>
    have T := Lib.hid (tiltMoments_no u v ws qs w hu hv hn hm h)
    rw [h] at hBB
    have HF : Hid (R = 0 ∧ B = false) := Lib.hid (by subst hBB; exact ⟨hRR, rfl⟩)
    clear hu hv h hRR hBB
    go_enter Try.func43, Try.ntmps43
    go_wp2_with fail
    refine T.out.mono ?_
    rintro e w1 ⟨rfl, l1⟩
    have L1 := Lib.hid l1
    clear l1 T
    go_wp2
    go_ret2
    exact ⟨by simp [HF.out.1, HF.out.2], L1.out⟩
  | true =>
    have T := Lib.hid (tiltMoments_yes u v ws qs w hu hv hn hm h)
    have h12 := ((armB_iff ws qs).1 h).1.1.short
    have hml := moms_len (tnF ws qs) ws.length
    have hp := two_pow_le h12
    rw [h, Bool.true_and] at hBB
    unfold cntF at hRR
    generalize momsF (tnF ws qs) ws.length = MS at *
    have HCT := Lib.hid (fun k h => cnt_take MS m k h)
    have HCL := Lib.hid (fun k => show (MS.take k).countP (fun x => x == m) ≤ 4096 by have := List.countP_le_length (p := fun x => x == m) (l := MS.take k); rw [List.length_take] at this; omega)
    have HALL := Lib.hid (show MS.take MS.length = MS from List.take_length)
    clear hu hv h
    by_cases h1 : m < -10000
    · have HF : Hid (R = 0 ∧ B = false) := Lib.hid (by
        have e : (decide (-10000 ≤ m) && decide (m ≤ 10000)) = false := by simp; omega
        rw [e] at hBB; subst hBB; exact ⟨hRR, rfl⟩)
      clear hRR hBB
      go_enter Try.func43, Try.ntmps43
      go_wp2_with fail
      refine T.out.mono ?_
      rintro e w1 ⟨x, rfl, o, l1⟩
      have L1 := Lib.hid l1
      clear l1 T o
      go_wp2
      go_ret2
      exact ⟨by simp [HF.out.1, HF.out.2], L1.out⟩
    by_cases h2 : 10000 < m
    · have HF : Hid (R = 0 ∧ B = false) := Lib.hid (by
        have e : (decide (-10000 ≤ m) && decide (m ≤ 10000)) = false := by simp; omega
        rw [e] at hBB; subst hBB; exact ⟨hRR, rfl⟩)
      clear hRR hBB
      go_enter Try.func43, Try.ntmps43
      go_wp2_with fail
      refine T.out.mono ?_
      rintro e w1 ⟨x, rfl, o, l1⟩
      have L1 := Lib.hid l1
      clear l1 T o
      go_wp2
      go_ret2
      exact ⟨by simp [HF.out.1, HF.out.2], L1.out⟩
    have HF : Hid (R = ((MS.countP (fun x => x == m) : Nat) : Int) ∧ B = true) := Lib.hid (by
      have e : (decide (-10000 ≤ m) && decide (m ≤ 10000)) = true := by simp; omega
      rw [e] at hBB; subst hBB; exact ⟨hRR, rfl⟩)
    clear hRR hBB
    go_enter Try.func43, Try.ntmps43
    go_wp2_with fail
    refine T.out.mono ?_
    rintro e w1 ⟨x, rfl, o, l1⟩
    have L1 := Lib.hid l1
    obtain ⟨am, cm, rfl, hrm⟩ := o.mine.row
    obtain ⟨N, hN⟩ : ∃ N, MS.length = N := ⟨_, rfl⟩
    rw [hN] at HCT HALL ⊢
    rw [hN] at hml
    have hNB : N ≤ 4096 := by omega
    have HNN := Lib.hid hN
    clear l1 T o hN hml hp h12
    go_wp2
    go_loopw [10, 31] (fun c y wr => ∃ k : Nat, k ≤ N ∧ y = .int .i64 k ∧ c = .int .i64 (((MS.take k).countP (fun x => x == m) : Nat) : Int) ∧ wr = w1) (fun _ y _ => N - (intOf y).toNat)
    case atStart => exact ⟨0, Nat.zero_le _, rfl, by simp, rfl⟩
    case round =>
      obtain ⟨k, hk, rfl, rfl, hwr⟩ := hrel
      subst hwr
      by_cases hlt : k < N
      · have hlt' : (k : Int) < (N : Int) := by omega
        rcases hrm with e0 | ⟨g, off, rfl, hg, hc⟩
        · have := HNN.out; rw [e0] at this; simp at this; omega
        have c1 := hc k (by rw [HNN.out]; exact hlt)
        have hct := HCT.out k hlt
        have hcl := HCL.out k
        obtain ⟨z, hz⟩ : ∃ z, MS.getD k 0 = z := ⟨_, rfl⟩
        rw [hz] at c1 hct
        obtain ⟨C, hC⟩ : ∃ C, (MS.take k).countP (fun x => x == m) = C := ⟨_, rfl⟩
        rw [hC] at hct hcl ⊢
        have HC := Lib.hid hct
        clear hc hz hC hct
        by_cases hzm : z = m
        · have hq : (z == m) = true := by simp [hzm]
          have HC2 := Lib.hid (show (MS.take (k + 1)).countP (fun x => x == m) = C + 1 by rw [HC.out, if_pos hzm])
          clear HC hzm
          go_wp2
          go_roundw
          case rel => exact ⟨k + 1, by omega, by go_num, by rw [HC2.out]; go_num, by first | rfl | trivial⟩
          case measure => simp [intOf]; omega
        · have hq : (z == m) = false := by simpa using hzm
          have HC2 := Lib.hid (show (MS.take (k + 1)).countP (fun x => x == m) = C by rw [HC.out, if_neg hzm]; rfl)
          clear HC hzm
          go_wp2
          go_roundw
          case rel => exact ⟨k + 1, by omega, by go_num, by rw [HC2.out], by first | rfl | trivial⟩
          case measure => simp [intOf]; omega
      · obtain rfl : k = N := by omega
        have hge : ¬ (k : Int) < (k : Int) := by omega
        rw [HALL.out]
        go_wp2
        go_ret2
        exact ⟨by simp [HF.out.1, HF.out.2], L1.out⟩
end Go.Proofs.Ytgjchkcjlmklbaa
