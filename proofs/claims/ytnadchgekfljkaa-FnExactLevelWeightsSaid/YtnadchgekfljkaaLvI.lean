/- What the program hands down for level weights: its closure, and its numbers. -/
import Derived.Test.YtnadchgekfljkaaLvQ
import Derived.Test.YtnadchgekfljkaaRod5
import Derived.Test.YtnadchgekfljkaaRod7
namespace Go.Proofs.Ytnadchgekfljkaa
open Go.RowKit
/-- A weight at an end, from that of its rod. -/
def stepW (S : RodF) (T : Nat) (x : Int) : Int := Int.tdiv x (S.ar (2 * (T / 2)) + S.ar (2 * (T / 2) + 1)) * S.ar (otE T)
theorem stepW_nat {m : MobV} (hf : MobF m) (T : Nat) (hT : T < 2 * m.am.length) (x : Nat) : stepW (rodF m) T (x : Int) = ((x / bothN m (T / 2) * armN m (otE T) : Nat) : Int) := by
  show Int.tdiv (x : Int) (avM m (2 * (T / 2)) + avM m (2 * (T / 2) + 1)) * avM m (otE T) = _
  rw [both_cast hf _ (by omega), arm_cast hf _ (otE_lt hT), Int.natCast_mul, Int.ofNat_tdiv]
theorem numH_wn {m : MobV} (hf : MobF m) (P : Nat) : ∀ T, T ≤ 2 * m.am.length → ∀ j, numH (rodF m) (stepW (rodF m)) (P : Int) T j = ((wnR m P T j : Nat) : Int) := by
  intro T
  induction T with
  | zero =>
    intro _ j
    show (if j = 0 then (P : Int) else 0) = ((if j = 0 then P else 0 : Nat) : Int)
    split <;> rfl
  | succ T ih =>
    intro hT j
    have ih := ih (by omega)
    have hb := be_rodF hf T (by omega)
    have hh := (hf.ends T (by omega)).2
    rw [wnR_succ]
    by_cases h0 : (rodF m).be T = 0
    · rw [numH_none _ _ _ _ _ h0, ih j, if_neg (fun h => by have := hb.1 h0; omega)]
    · rw [numH_some _ _ _ _ _ h0]
      have hneg : hvM m T < 0 := by
        have : ¬ 0 < hvM m T := fun h => h0 (hb.2 h)
        omega
      have hbe : (rodF m).be T = (-hvM m T).toNat := rfl
      rw [hbe]
      by_cases e : j = (-hvM m T).toNat
      · rw [if_pos e, if_pos ⟨hneg, e.symm⟩]
        show stepW (rodF m) T (numH (rodF m) (stepW (rodF m)) (P : Int) T (T / 2)) = _
        rw [ih, stepW_nat hf T (by omega)]
        rfl
      · rw [if_neg e, if_neg (fun h => e h.2.symm), ih]
theorem outH_wn {m : MobV} (hf : MobF m) (P T : Nat) (hT : T < 2 * m.am.length) : outH (rodF m) (stepW (rodF m)) (P : Int) T = ((wnE m P T : Nat) : Int) := by
  show stepW (rodF m) T (numH (rodF m) (stepW (rodF m)) (P : Int) T (T / 2)) = _
  rw [numH_wn hf P T (by omega), stepW_nat hf T hT]
  rfl
set_option maxRecDepth 100000 in
theorem wClo_any (S : RodF) (n B : Nat) (b : Nat → Nat) (nu : Nat → Int) (i e : Nat) (x y : Int) (w : World) (hi : i < n) (he : e < 2) (H : RodsIn w B 0 n b nu S) (ha : ∀ t, t < 2 * n → 0 ≤ S.ar t ∧ S.ar t ≤ 24)
    (hb : 1 ≤ S.ar (2 * i) + S.ar (2 * i + 1)) (hx : 0 ≤ x ∧ x ≤ 200000000) (hy : stepW S (2 * i + e) x = y) :
    Calls Try.prog 102 #[.pointer (some ⟨b i, 0, none⟩), .int .i64 (e : Int), .int .i64 x] w fun r w' => r = .returned (.int .i64 y) ∧ ∃ d, w' = w.drewN d := by
  have ca := (H.rod i (by omega) hi).arm (1 - e) (by omega)
  have hlt := (H.rod i (by omega) hi).lt
  have ho : otE (2 * i + e) = 2 * i + (1 - e) := by unfold otE; omega
  have hay := ha (2 * i + (1 - e)) (by omega)
  have hal := ha (2 * i) (by omega)
  have har := ha (2 * i + 1) (by omega)
  have LE := Lib.hid (fun k => Calls.quiet_of (n := k) (length_any i (w.drewN k) hi ha (H.lo (drewN_lo w k))))
  have OT := Lib.hid (fun w => other_is e he w)
  unfold stepW at hy
  rw [show (2 * i + e) / 2 = i by omega, ho] at hy
  have he1 : 1 - e < 2 := by omega
  have he1' : ((1 - e : Nat) : Int) < 2 := by omega
  have hal2 : S.ar (2 * i + (1 - e)) ≤ S.ar (2 * i) + S.ar (2 * i + 1) := by
    rcases (show e = 0 ∨ e = 1 by omega) with rfl | rfl
    · simp only [Nat.sub_zero]; omega
    · simp only [Nat.sub_self, Nat.add_zero]; omega
  generalize S.ar (2 * i) + S.ar (2 * i + 1) = l at *
  generalize S.ar (2 * i + (1 - e)) = a at *
  generalize 1 - e = f at *
  obtain ⟨q, hq⟩ : ∃ q, Int.tdiv x l = q := ⟨_, rfl⟩
  rw [hq] at hy
  have hq0 : 0 ≤ q := by rw [← hq]; exact Int.tdiv_nonneg hx.1 (by omega)
  have hq1 : q ≤ x := by rw [← hq, Int.tdiv_eq_ediv_of_nonneg hx.1]; exact Int.ediv_le_self _ hx.1
  have hl0 : ¬ l = 0 := by omega
  have hy0 : 0 ≤ y := by rw [← hy]; exact Int.mul_nonneg hq0 hay.1
  have hy1 : y ≤ x := by
    rw [← hy]
    refine Int.le_trans (Int.mul_le_mul_of_nonneg_left hal2 hq0) ?_
    rw [← hq, Int.tdiv_eq_ediv_of_nonneg hx.1]
    exact Int.ediv_mul_le x hl0
  have hw1 : IntKind.i64.wrap q = q := wrap_mid q (by omega) (by omega)
  have hw2 : IntKind.i64.wrap (q * a) = y := by rw [hy]; exact wrap_mid y (by omega) (by omega)
  clear H ho
  go_enter Try.func102, Try.ntmps102
  go_wp2
  go_quiet ((first | (go_at_call 103; exact Calls.quiet_of_same (OT.out _)) | (go_at_call 100; exact LE.out _)))
  go_wp2
  go_ret
  exact ⟨rfl, nq, rfl⟩
end Go.Proofs.Ytnadchgekfljkaa
