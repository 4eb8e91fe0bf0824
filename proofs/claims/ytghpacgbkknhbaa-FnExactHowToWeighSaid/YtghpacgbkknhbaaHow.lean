/- The contract of the program's HowToWeigh. -/
import Derived.Test.YtghpacgbkknhbaaAll
import Derived.Test.YtghpacgbkknhbaaKit2
import Derived.Deep.LoopGhost
import Derived.WalkSpells
import Derived.Deep.QuietTactic
import Derived.BigQuiet
namespace Go.Proofs.Ytghpacgbkknhbaa
open Go.RowKit Go.Deep
/-- What the first k signs weigh, and how many weights they use. -/
def dotF (ks ss : List Int) : Nat → Int
  | 0 => 0
  | k + 1 => dotF ks ss k + ss.getD k 0 * ks.getD k 0
def useF (ss : List Int) : Nat → Nat
  | 0 => 0
  | k + 1 => useF ss k + (if ss.getD k 0 = 0 then 0 else 1)
theorem useF_le (ss : List Int) : ∀ k, useF ss k ≤ k := by
  intro k
  induction k with
  | zero => exact Nat.le_refl _
  | succ k ih => rw [useF]; split <;> omega
theorem useF_mono (ss : List Int) (k : Nat) : ∀ n, useF ss k ≤ useF ss (k + n) := by
  intro n
  induction n with
  | zero => exact Nat.le_refl _
  | succ n ih => rw [show k + (n + 1) = k + n + 1 by omega, useF]; omega
theorem use_dot (ks ss : List Int) : ∀ k, useF ss k = 0 → dotF ks ss k = 0 := by
  intro k
  induction k with
  | zero => intro _; rfl
  | succ k ih =>
    intro h
    rw [useF] at h
    by_cases e : ss.getD k 0 = 0
    · rw [dotF, ih (by omega), e]; simp
    · rw [if_neg e] at h; omega
theorem dot_small {ks ss : List Int} (K : KitF ks) (hs : ∀ j, j < ks.length → -1 ≤ ss.getD j 0 ∧ ss.getD j 0 ≤ 1) : ∀ k, k ≤ ks.length → -(99 * (k : Int)) ≤ dotF ks ss k ∧ dotF ks ss k ≤ 99 * k := by
  intro k
  induction k with
  | zero => intro _; simp [dotF]
  | succ k ih =>
    intro hk
    have h1 := ih (by omega)
    have h2 := hs k (by omega)
    have h3 := K.each k (by omega)
    rw [dotF]
    have : ss.getD k 0 = -1 ∨ ss.getD k 0 = 0 ∨ ss.getD k 0 = 1 := by omega
    rcases this with e | e | e <;> rw [e] <;> omega
/-- The best of the first m lists, and how many weights it uses. -/
def bestF (ks : List Int) (n : Int) : Nat → Option Nat × Nat
  | 0 => (none, ks.length + 1)
  | m + 1 => if dotF ks (sgF ks.length m) ks.length = n ∧ useF (sgF ks.length m) ks.length < (bestF ks n m).2 then (some m, useF (sgF ks.length m) ks.length) else bestF ks n m
theorem best_pos (ks : List Int) (n : Int) (hn : 1 ≤ n) : ∀ m, 1 ≤ (bestF ks n m).2 ∧ (bestF ks n m).2 ≤ ks.length + 1 := by
  intro m
  induction m with
  | zero => simp [bestF]
  | succ m ih =>
    rw [bestF]
    split
    · rename_i h
      have h1 : useF (sgF ks.length m) ks.length ≠ 0 := fun e => by have := use_dot ks _ _ e; omega
      have h2 := useF_le (sgF ks.length m) ks.length
      simp only
      omega
    · exact ih
theorem best_step (ks : List Int) (n : Int) (m : Nat) (h : dotF ks (sgF ks.length m) ks.length = n) (h2 : useF (sgF ks.length m) ks.length < (bestF ks n m).2) : bestF ks n (m + 1) = (some m, useF (sgF ks.length m) ks.length) := by rw [bestF, if_pos ⟨h, h2⟩]
theorem best_skip (ks : List Int) (n : Int) (m : Nat) (h : ¬ (dotF ks (sgF ks.length m) ks.length = n ∧ useF (sgF ks.length m) ks.length < (bestF ks n m).2)) : bestF ks n (m + 1) = bestF ks n m := by rw [bestF, if_neg h]
theorem best_lt (ks : List Int) (n : Int) : ∀ m i, (bestF ks n m).1 = some i → i < m := by
  intro m
  induction m with
  | zero => intro i h; simp [bestF] at h
  | succ m ih =>
    intro i h
    rw [bestF] at h
    split at h
    · cases h; omega
    · have := ih i h; omega
/-- The best list in memory. -/
def BestI (w : World) (B : Nat) (v : Value) (L : Nat) (bi : Option Nat) : Prop := match bi with
  | none => v = .slice none 0 0
  | some i => (∃ g, v = .slice (some ⟨g, 0, none⟩) L L) ∧ MineI w B w.heap.size v (sgF L i)
theorem BestI.lo {w w' : World} {B L : Nat} {v : Value} {bi : Option Nat} (h : BestI w B v L bi) (l : Below w.heap.size w w') : BestI w' B v L bi := by
  cases bi with
  | none => exact h
  | some i => exact ⟨h.1, (h.2.lo l).mono (Nat.le_refl _) l.size (Nat.le_refl _)⟩
set_option maxRecDepth 100000 in
set_option maxHeartbeats 3200000 in
theorem howTo_yes (v : Value) (ks : List Int) (n : Int) (w : World) (hr : IntRow w v ks) (K : KitF ks) (hn : 1 ≤ n) :
    Calls Try.prog 23 #[v, .int .i64 n] w fun e w' => ∃ u, e = .returned (.tuple #[u, .bool (bestF ks n (3 ^ ks.length)).1.isSome]) ∧ BestI w' w.heap.size u ks.length (bestF ks n (3 ^ ks.length)).1 ∧ Below w.heap.size w w' := by
  have IK := Lib.hid (isKit_any v ks w hr (by have := K.short; omega))
  rw [show kitB ks = true from propB_yes K] at IK
  have NE := fun (w : World) (a : Option Addr) (n c : Nat) => run_neq_slice_nil_any (P := Try.prog) w 24 3 a n c 0 0 Try.underlying24
  have HK := Lib.hid K
  have hk6 := K.short
  have hk1 := K.one
  obtain ⟨a, c, rfl, hr⟩ := hr
  rcases hr with h | ⟨g, off, rfl, hg, hc⟩
  · subst h; simp at hk1
  have HC := Lib.hid hc
  obtain ⟨L, hL⟩ : ∃ L, ks.length = L := ⟨_, rfl⟩
  rw [hL] at IK hk6 hk1 ⊢
  have HLL := Lib.hid hL
  have PW := Lib.hid (fun w => power_any 3 L (.inr rfl) (by omega) w)
  rw [powF_cast] at PW
  have hp := pow3_le L hk6
  obtain ⟨M, hM⟩ : ∃ M, 3 ^ L = M := ⟨_, rfl⟩
  rw [hM] at PW hp ⊢
  have n1 : decide (n < 1) = false := by simp; omega
  have HN1 := Lib.hid hn
  have HB0 := Lib.hid (show bestF ks n 0 = (none, L + 1) by rw [bestF, hL])
  clear K hc hL hM hn
  go_enter Try.func23, Try.ntmps23
  go_wp2
  go_step3
  go_wp2_with fail
  refine IK.out.mono ?_
  rintro e w1 ⟨rfl, l1⟩
  have L1 := Lib.hid l1
  clear l1 IK
  go_wp2
  go_step3
  go_wp2_with fail
  refine (PW.out _).mono ?_
  rintro e w2 ⟨rfl, rfl⟩
  have HSG := Lib.hid (fun m k (h : k < L) => sgF_sign L m k h)
  have HDS := Lib.hid (fun m k (h : k ≤ L) => dot_small (ss := sgF L m) HK.out (fun j hj => sgF_sign L m j (by rw [← HLL.out]; exact hj)) k (by rw [HLL.out]; exact h))
  go_wp2
  go_loopg [6, 7, 27] M (fun gh b f i wr => ∃ (m few : Nat) (bi : Option Nat), gh + m = M ∧ i = .int .i64 m ∧ f = .int .i64 few ∧ 1 ≤ few ∧ few ≤ 7 ∧ Hid (bestF ks n m = (bi, few)) ∧ Hid (BestI wr w.heap.size b L bi) ∧ Hid (Below w.heap.size w wr))
  case atStart => exact ⟨0, L + 1, none, by omega, rfl, rfl, by omega, by omega, HB0, Lib.hid rfl, L1⟩
  case round =>
    obtain ⟨m, few, bi, hgm, rfl, rfl, f0, f1, HBE, HBI, HW⟩ := hrel
    obtain ⟨wq, rfl⟩ : ∃ wq : World, wq = wr := ⟨_, rfl⟩
    obtain ⟨go, rfl⟩ : ∃ go : Nat, go = gk := ⟨_, rfl⟩
    by_cases hlt : m < M
    · have hlt' : (m : Int) < (M : Int) := by omega
      have SA := Lib.hid (signsAt_any m L (by omega) hk6 wq)
      have HSTEP := Lib.hid (fun (h : dotF ks (sgF L m) L = n) (h2 : useF (sgF L m) L < few) => show bestF ks n (m + 1) = (some m, useF (sgF L m) L) from by
        have := best_step ks n m (by rw [HLL.out]; exact h) (by rw [HLL.out, HBE.out]; exact h2)
        rw [HLL.out] at this
        exact this)
      have HSKIP := Lib.hid (fun (h : ¬ (dotF ks (sgF L m) L = n ∧ useF (sgF L m) L < few)) => show bestF ks n (m + 1) = (bi, few) from by
        rw [best_skip ks n m (by rw [HLL.out, HBE.out]; exact h)]; exact HBE.out)
      have HUP := Lib.hid (fun (h : dotF ks (sgF L m) L = n) => show 1 ≤ useF (sgF L m) L ∧ useF (sgF L m) L ≤ L from by
        have h2 := useF_le (sgF L m) L
        have h1 : useF (sgF L m) L ≠ 0 := fun e => by have := use_dot ks _ _ e; have := HN1.out; omega
        omega)
      have HSL := Lib.hid (sgF_len L m)
      have HSS := Lib.hid (HSG.out m)
      have HDD := Lib.hid (HDS.out m)
      obtain ⟨ss, hss⟩ : ∃ ss, sgF L m = ss := ⟨_, rfl⟩
      rw [hss] at SA HSTEP HSKIP HUP HSL HSS HDD
      have HSSE := Lib.hid hss
      clear hss
      go_wp2_with fail
      refine SA.out.mono ?_
      rintro e w3 ⟨gs, rfl, ms, l3⟩
      have HB3 := Lib.hid (HBI.out.lo l3)
      have HM3 := Lib.hid (ms.mono (B' := w.heap.size) HW.out.size (Nat.le_refl _) (Nat.le_refl _))
      have HL3 := Lib.hid (HW.out.trans (l3.mono HW.out.size))
      have HSC := Lib.hid (show ∀ j, j < L → w3.cell? ⟨gs, j, none⟩ = some (.int .i64 (ss.getD j 0)) from fun j hj => by
        rcases ms with ⟨e, _⟩ | ⟨g', c', e, _, _, _, hcc, _⟩
        · have := HSL.out; rw [e] at this; simp at this; omega
        · cases e; exact hcc j (by have := HSL.out; omega))
      clear SA ms l3
      go_wp2
      go_loopg [10, 11, 36] L (fun gj s u i wv => ∃ k us : Nat, gj + k = L ∧ i = .int .i64 k ∧ s = .int .i64 (dotF ks ss k) ∧ u = .int .i64 us ∧ Hid (useF ss k = us) ∧ us < few ∧ wv = w3)
      case atStart => exact ⟨0, 0, by omega, rfl, rfl, rfl, Lib.hid rfl, by omega, rfl⟩
      case round =>
        obtain ⟨k, us, hgk, rfl, rfl, rfl, HU, hu, rfl⟩ := hrel
        obtain ⟨y, hy⟩ : ∃ y, dotF ks ss k = y := ⟨_, rfl⟩
        have hd := HDD.out k (by omega)
        rw [hy] at hd ⊢
        obtain ⟨d0, d1⟩ := hd
        have HY := Lib.hid hy
        clear hy
        by_cases hkl : k < L
        · have hkl' : (k : Int) < (L : Int) := by omega
          have c1 := HSC.out k hkl
          have c2 := HC.out k (by rw [HLL.out]; exact hkl)
          rw [← HL3.out.cell (p := ⟨g, off + k, none⟩) hg] at c2
          have hsx := HSS.out k hkl
          have hkx := HK.out.each k (by rw [HLL.out]; exact hkl)
          have HDN := Lib.hid (show dotF ks ss (k + 1) = y + ss.getD k 0 * ks.getD k 0 by rw [dotF, HY.out])
          have HUN := Lib.hid (show useF ss (k + 1) = us + (if ss.getD k 0 = 0 then 0 else 1) by rw [useF, HU.out])
          generalize ss.getD k 0 = x at c1 hsx HDN HUN
          generalize ks.getD k 0 = q at c2 hkx HDN
          obtain ⟨x0, x1⟩ := hsx
          obtain ⟨q0, q1⟩ := hkx
          by_cases hz : x = 0
          · have hzb : (x == 0) = true := by simp [hz]
            have HD2 := Lib.hid (show dotF ks ss (k + 1) = y by rw [HDN.out, hz]; simp)
            have HU2 := Lib.hid (show useF ss (k + 1) = us by rw [HUN.out, if_pos hz]; rfl)
            clear hz
            go_wp2
            go_roundg (L - (k + 1))
            case measure => omega
            case rel => exact ⟨k + 1, us, by omega, by go_num, by rw [HD2.out], rfl, HU2, hu, rfl⟩
          · have hzb : (x == 0) = false := by simp [hz]
            have HU2 := Lib.hid (show useF ss (k + 1) = us + 1 by rw [HUN.out, if_neg hz])
            by_cases heq : us + 1 = few
            · have hfb : ((us : Int) + 1 == (few : Int)) = true := by simp; omega
              have HB := Lib.hid (HSKIP.out (fun h => by
                have := useF_mono ss (k + 1) (L - (k + 1))
                rw [show k + 1 + (L - (k + 1)) = L by omega, HU2.out] at this
                omega))
              clear heq hz
              go_wp2
              go_roundg (M - (m + 1))
              case measure => omega
              case rel => exact ⟨m + 1, few, bi, by omega, by go_num, rfl, f0, f1, HB, HB3, HL3⟩
            · have hfb : ((us : Int) + 1 == (few : Int)) = false := by simp; omega
              have hqx : -99 ≤ x * q ∧ x * q ≤ 99 := by
                have : x = -1 ∨ x = 0 ∨ x = 1 := by omega
                rcases this with e | e | e <;> rw [e] <;> omega
              obtain ⟨qx0, qx1⟩ := hqx
              clear hz
              go_wp2
              go_roundg (L - (k + 1))
              case measure => omega
              case rel => exact ⟨k + 1, us + 1, by omega, by go_num, by rw [HDN.out], by go_num, HU2, by omega, rfl⟩
        · obtain rfl : k = L := by omega
          have hge : ¬ (k : Int) < (k : Int) := by omega
          by_cases hyn : y = n
          · have hyb : (y == n) = true := by simp [hyn]
            have hup := HUP.out (by rw [HY.out]; exact hyn)
            rw [HU.out] at hup
            have HB := Lib.hid (HSTEP.out (by rw [HY.out]; exact hyn) (by rw [HU.out]; exact hu))
            rw [HU.out] at HB
            obtain ⟨up0, up1⟩ := hup
            have HBN := Lib.hid (show BestI _ w.heap.size (.slice (some ⟨gs, 0, none⟩) k k) k (some m) from ⟨⟨gs, rfl⟩, by rw [HSSE.out]; exact HM3.out⟩)
            clear hyn
            go_wp2
            go_roundg (M - (m + 1))
            case measure => omega
            case rel => exact ⟨m + 1, us, some m, by omega, by go_num, rfl, up0, by omega, HB, HBN, HL3⟩
          · have hyb : (y == n) = false := by simp [hyn]
            have HB := Lib.hid (HSKIP.out (fun h => hyn (by rw [← HY.out]; exact h.1)))
            clear hyn
            go_wp2
            go_roundg (M - (m + 1))
            case measure => omega
            case rel => exact ⟨m + 1, few, bi, by omega, by go_num, rfl, f0, f1, HB, HB3, HL3⟩
    · obtain rfl : m = M := by omega
      have hge : ¬ (m : Int) < (m : Int) := by omega
      have HLA := Lib.hid hgm
      cases bi with
      | none =>
        obtain rfl : u6 = .slice none 0 0 := HBI.out
        go_wp2
        try rw [Exit.noGoto_ret]
        go_ret2
        refine ⟨_, by rw [HBE.out]; rfl, by rw [HBE.out]; exact HBI.out, HW.out⟩
      | some i =>
        obtain ⟨⟨gb, rfl⟩, hmi⟩ := HBI.out
        have HMI := Lib.hid hmi
        clear hmi
        go_wp2
        try rw [Exit.noGoto_ret]
        go_ret2
        refine ⟨_, by rw [HBE.out]; rfl, by rw [HBE.out]; exact ⟨⟨gb, rfl⟩, HMI.out⟩, HW.out⟩
end Go.Proofs.Ytghpacgbkknhbaa
