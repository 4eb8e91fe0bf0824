/- The contract of the model's HowToWeigh. -/
import Derived.Test.YtghpacgbkknhbaaHow
import Derived.Test.YtghpacgbkknhbaaKit1
namespace Go.Proofs.Ytghpacgbkknhbaa
open Go.RowKit
set_option maxRecDepth 100000 in
set_option maxHeartbeats 1600000 in
theorem l3Weigh_any (v u : Value) (ks ss : List Int) (w : World) (hr : IntRow w v ks) (hu : RowS w u ss) (K : KitF ks) (hl : ss.length = ks.length) (hs : ∀ j, j < ks.length → -1 ≤ ss.getD j 0 ∧ ss.getD j 0 ≤ 1) :
    Calls Try.prog 105 #[v, u] w fun e w' => e = .returned (.tuple #[.int .i64 (dotF ks ss ks.length), .int .i64 (useF ss ks.length : Int)]) ∧ Below w.heap.size w w' := by
  have HK := Lib.hid K
  have hk6 := K.short
  have hk1 := K.one
  obtain ⟨a, c, rfl, hr⟩ := hr
  rcases hr with h | ⟨g, off, rfl, hg, hc⟩
  · subst h; simp at hk1
  obtain ⟨g2, off2, c2, rfl, hg2, hc2⟩ := hu
  have HDS := Lib.hid (fun k (h : k ≤ ks.length) => dot_small (ss := ss) K hs k h)
  have HS := Lib.hid hs
  have HC := Lib.hid hc
  have HC2 := Lib.hid hc2
  rw [hl] at HC2 ⊢
  obtain ⟨L, hL⟩ : ∃ L, ks.length = L := ⟨_, rfl⟩
  have HLL := Lib.hid hL
  rw [hL] at hk6 hk1 HC HC2 HS HDS ⊢
  clear K hs hc hc2 hL hl
  go_enter Try.func105, Try.ntmps105
  go_wp2
  go_loopw [6, 7, 8] (fun s y i wr => ∃ k n us : Nat, k ≤ L ∧ i = .int .i64 k ∧ s = .int .i64 (dotF ks ss k) ∧ y = .int .i64 us ∧ Hid (useF ss k = us) ∧ us ≤ 6 ∧ wr = w.drewN n) (fun _ _ i _ => L - (intOf i).toNat)
  case atStart => exact ⟨0, 0, 0, Nat.zero_le _, rfl, rfl, rfl, Lib.hid rfl, by omega, rfl⟩
  case round =>
    obtain ⟨k, n, us, hk, rfl, rfl, rfl, HU, hus, rfl⟩ := hrel
    obtain ⟨y, hy⟩ : ∃ y, dotF ks ss k = y := ⟨_, rfl⟩
    have hd := HDS.out k (by omega)
    rw [hy] at hd ⊢
    obtain ⟨d0, d1⟩ := hd
    have HY := Lib.hid hy
    clear hy
    by_cases hlt : k < L
    · have hlt' : (k : Int) < (L : Int) := by omega
      have c1 := HC.out k hlt
      have c2' := HC2.out k hlt
      have hsx := HS.out k hlt
      have hkx := HK.out.each k (by rw [HLL.out]; exact hlt)
      have HDN := Lib.hid (show dotF ks ss (k + 1) = y + ks.getD k 0 * ss.getD k 0 by rw [dotF, HY.out, Int.mul_comm])
      have HUN := Lib.hid (show useF ss (k + 1) = us + (if ss.getD k 0 = 0 then 0 else 1) by rw [useF, HU.out])
      have hule := useF_le ss (k + 1)
      generalize ss.getD k 0 = x at c2' hsx HDN HUN
      generalize ks.getD k 0 = q at c1 hkx HDN
      obtain ⟨x0, x1⟩ := hsx
      obtain ⟨q0, q1⟩ := hkx
      have hx3 : x = -1 ∨ x = 0 ∨ x = 1 := by omega
      have hqx : -99 ≤ q * x ∧ q * x ≤ 99 := by
        rcases hx3 with e | e | e <;> rw [e] <;> omega
      have HUX := Lib.hid (show ((useF ss (k + 1) : Nat) : Int) = (us : Int) + x * x by
        rw [HUN.out]
        rcases hx3 with e | e | e <;> rw [e] <;> simp)
      have hxx : 0 ≤ x * x ∧ x * x ≤ 1 := by
        rcases hx3 with e | e | e <;> rw [e] <;> simp
      have hun := HUX.out
      obtain ⟨r0, r1⟩ := hqx
      obtain ⟨z0, z1⟩ := hxx
      have t0 : -9223372036854775808 ≤ q * x := by omega
      have t1 : q * x ≤ 9223372036854775807 := by omega
      have t2 : -9223372036854775808 ≤ x * x := by omega
      have t3 : x * x ≤ 9223372036854775807 := by omega
      have HUS := Lib.hid (show useF ss (k + 1) ≤ 6 by omega)
      clear hx3 hun hule
      go_wp2
      go_quiet (fail)
      go_wp2
      go_quiet (fail)
      go_wp2
      go_roundw
      case rel => exact ⟨k + 1, _, useF ss (k + 1), by omega, by go_num, by rw [HDN.out], by rw [HUX.out], Lib.hid rfl, HUS.out, rfl⟩
      case measure => simp [intOf]; omega
    · obtain rfl : k = L := by omega
      have hge : ¬ (k : Int) < (k : Int) := by omega
      go_wp2
      try rw [Exit.noGoto_ret]
      go_ret2
      exact ⟨by rw [HU.out, HY.out]; rfl, ⟨rfl, rfl, rfl, Nat.le_refl _, fun _ _ => rfl⟩⟩
/-- The best list as the model keeps it. -/
def BestS (w : World) (v : Value) (L : Nat) (bi : Option Nat) : Prop := match bi with
  | none => ∃ g, v = .slice (some ⟨g, 0, none⟩) 0 0
  | some i => RowS w v (sgF L i)
theorem BestS.lo {w w' : World} {L : Nat} {v : Value} {bi : Option Nat} (h : BestS w v L bi) (l : Below w.heap.size w w') : BestS w' v L bi := by
  cases bi with
  | none => exact h
  | some i => exact RowS.lo h l
noncomputable def bestR (ks : List Int) (n : Int) : List Int := match (bestF ks n (3 ^ ks.length)).1 with
  | none => []
  | some i => sgF ks.length i
set_option maxRecDepth 100000 in
set_option maxHeartbeats 3200000 in
theorem howTo_spec_yes (v : Value) (ks : List Int) (n : Int) (w : World) (hr : IntRow w v ks) (K : KitF ks) (hn : 1 ≤ n) :
    Calls Try.prog 24 #[v, .int .i64 n] w fun e w' => ∃ u, e = .returned (.tuple #[u, .bool (bestF ks n (3 ^ ks.length)).1.isSome]) ∧ IntRow w' u (bestR ks n) ∧ Below w.heap.size w w' := by
  have IK := Lib.hid (l3Kit_any v ks w hr (by have := K.short; omega))
  rw [show kitB ks = true from propB_yes K] at IK
  have HK := Lib.hid K
  have hk6 := K.short
  have hk1 := K.one
  have HR := Lib.hid hr
  obtain ⟨L, hL⟩ : ∃ L, ks.length = L := ⟨_, rfl⟩
  have HVS : ∃ a c, v = .slice a L c := by
    obtain ⟨a, c, e, _⟩ := hr
    exact ⟨a, c, by rw [← hL]; exact e⟩
  obtain ⟨a, c, rfl⟩ := HVS
  have HLL := Lib.hid hL
  have HGR := Lib.hid (show bestR ks n = match (bestF ks n (3 ^ L)).1 with | none => [] | some i => sgF L i by unfold bestR; rw [hL])
  have HB0 := Lib.hid (show bestF ks n 0 = (none, L + 1) by rw [bestF, hL])
  rw [hL] at hk6 hk1 ⊢
  have AL := Lib.hid (fun w => l3All_any L hk6 w)
  have hp := pow3_le L hk6
  obtain ⟨M, hM⟩ : ∃ M, 3 ^ L = M := ⟨_, rfl⟩
  have HMM := Lib.hid hM
  rw [hM] at HGR hp ⊢
  have n1 : decide (n < 1) = false := by simp; omega
  have HN1 := Lib.hid hn
  clear K hL hM hn hr
  go_enter Try.func24, Try.ntmps24
  go_wp2_with fail
  refine IK.out.mono ?_
  rintro e w1 ⟨rfl, l1⟩
  have L1 := Lib.hid l1
  clear l1 IK
  go_wp2_with fail
  refine (AL.out _).mono ?_
  rintro e w2 ⟨u, rfl, ht, l2⟩
  have L2 := Lib.hid (L1.out.trans (l2.mono L1.out.size))
  have HT := Lib.hid (ht.lo ((Below.refl w2.heap.size w2).alloc (Nat.le_refl _) (.cells #[] 3)))
  have L3 := Lib.hid (L2.out.alloc L2.out.size (.cells #[] 3))
  obtain ⟨g, off, c2, rfl, hg, hc⟩ := ht
  have HTG := HT.out
  obtain ⟨g', off', c', heq, hg', hc'⟩ := HTG
  cases heq
  rw [allF_len, HMM.out] at hc' ⊢
  have HC := Lib.hid hc'
  clear hc hc' l2 AL HT
  obtain ⟨w3, hw3⟩ : ∃ w3, w2.alloc (.cells #[] 3) = w3 := ⟨_, rfl⟩
  have HW3 := Lib.hid hw3
  rw [hw3] at HC L3 hg'
  clear hw3
  go_wp2
  go_loopw [7, 8, 9] (fun b f i wr => ∃ (m few : Nat) (bi : Option Nat), m ≤ M ∧ i = .int .i64 m ∧ f = .int .i64 few ∧ few ≤ 7 ∧ Hid (bestF ks n m = (bi, few)) ∧ Hid (BestS wr b L bi) ∧ Hid (Below w3.heap.size w3 wr)) (fun _ _ i _ => M - (intOf i).toNat)
  case atStart => exact ⟨0, L + 1, none, Nat.zero_le _, rfl, rfl, by omega, HB0, Lib.hid ⟨_, rfl⟩, Lib.hid (by rw [HW3.out]; exact Below.refl _ _)⟩
  case round =>
    obtain ⟨m, few, bi, hm, rfl, rfl, f1, HBE, HBI, HW⟩ := hrel
    obtain ⟨wq, rfl⟩ : ∃ wq : World, wq = wr := ⟨_, rfl⟩
    by_cases hlt : m < M
    · have hlt' : (m : Int) < (M : Int) := by omega
      obtain ⟨us, hus, hru⟩ := HC.out m hlt
      rw [allF_at L m (by rw [HMM.out]; exact hlt)] at hru
      rw [← HW.out.cell (p := ⟨g, off + m, none⟩) hg'] at hus
      have hru := hru.lo HW.out
      have HRU := Lib.hid hru
      obtain ⟨gu, ou, cu, rfl, _⟩ := hru
      rw [sgF_len] at hus HRU
      have LW := Lib.hid (l3Weigh_any _ _ ks (sgF L m) wq (HR.out.lo (L3.out.trans (HW.out.mono L3.out.size))) HRU.out HK.out (by rw [sgF_len, HLL.out]) (fun j hj => sgF_sign L m j (by rw [← HLL.out]; exact hj)))
      rw [HLL.out] at LW
      have HSTEP := Lib.hid (fun (h : dotF ks (sgF L m) L = n) (h2 : useF (sgF L m) L < few) => show bestF ks n (m + 1) = (some m, useF (sgF L m) L) from by
        have := best_step ks n m (by rw [HLL.out]; exact h) (by rw [HLL.out, HBE.out]; exact h2)
        rw [HLL.out] at this
        exact this)
      have HSKIP := Lib.hid (fun (h : ¬ (dotF ks (sgF L m) L = n ∧ useF (sgF L m) L < few)) => show bestF ks n (m + 1) = (bi, few) from by
        rw [best_skip ks n m (by rw [HLL.out, HBE.out]; exact h)]; exact HBE.out)
      have hule := useF_le (sgF L m) L
      have HUS := Lib.hid (show useF (sgF L m) L = useF (sgF L m) L from rfl)
      generalize hxs : dotF ks (sgF L m) L = x at LW HSTEP HSKIP
      generalize hys : useF (sgF L m) L = y at LW HSTEP HSKIP hule
      clear hxs hys HUS
      go_wp2_with fail
      refine LW.out.mono ?_
      rintro e w4 ⟨rfl, l4⟩
      have HB4 := Lib.hid (HBI.out.lo l4)
      have HR4 := Lib.hid (HRU.out.lo l4)
      have L4 := Lib.hid (HW.out.trans (l4.mono HW.out.size))
      rw [← l4.cell (p := ⟨g, off + m, none⟩) (Nat.lt_of_lt_of_le hg' HW.out.size)] at hus
      clear l4 LW
      by_cases hxn : x = n
      · have hxb : (x == n) = true := by simp [hxn]
        by_cases hyf : y < few
        · have hyf' : (y : Int) < (few : Int) := by omega
          have HB := Lib.hid (HSTEP.out hxn hyf)
          clear hxn hyf
          go_wp2
          go_roundw
          case rel => exact ⟨m + 1, y, some m, by omega, by go_num, rfl, by omega, HB, HR4, L4⟩
          case measure => simp [intOf]; omega
        · have hyf' : ¬ (y : Int) < (few : Int) := by omega
          have HB := Lib.hid (HSKIP.out (fun h => hyf h.2))
          clear hxn hyf
          go_wp2
          go_roundw
          case rel => exact ⟨m + 1, few, bi, by omega, by go_num, rfl, f1, HB, HB4, L4⟩
          case measure => simp [intOf]; omega
      · have hxb : (x == n) = false := by simp [hxn]
        have HB := Lib.hid (HSKIP.out (fun h => hxn h.1))
        clear hxn
        go_wp2
        go_roundw
        case rel => exact ⟨m + 1, few, bi, by omega, by go_num, rfl, f1, HB, HB4, L4⟩
        case measure => simp [intOf]; omega
    · obtain rfl : m = M := by omega
      have hge : ¬ (m : Int) < (m : Int) := by omega
      have LE := Lib.hid (L3.out.trans (HW.out.mono L3.out.size))
      cases bi with
      | none =>
        obtain ⟨gb, rfl⟩ := HBI.out
        go_wp2
        try rw [Exit.noGoto_ret]
        go_ret2
        refine ⟨_, by rw [HBE.out]; rfl, ?_, LE.out⟩
        rw [HGR.out, HBE.out]
        exact intRow_nil _ _ _
      | some i =>
        have hb := HBI.out
        unfold BestS at hb
        have HBR := Lib.hid hb
        obtain ⟨gu, ou, cu, rfl, _⟩ := hb
        rw [sgF_len] at HBR ⊢
        have hL0 : decide (0 < L) = true := by simp; omega
        go_wp2
        try rw [Exit.noGoto_ret]
        go_ret2
        refine ⟨_, by rw [HBE.out]; rfl, ?_, LE.out⟩
        rw [HGR.out, HBE.out]
        exact HBR.out.row
end Go.Proofs.Ytghpacgbkknhbaa
