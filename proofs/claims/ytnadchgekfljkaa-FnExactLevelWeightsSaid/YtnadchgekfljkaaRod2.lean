/- The contracts of the program's rods: weights, pulls, turns. -/
import Derived.Test.YtnadchgekfljkaaRod1
import Derived.Test.YtnadchgekfljkaaA2
namespace Go.Proofs.Ytnadchgekfljkaa
open Go.RowKit
theorem rodsOf_no (v : Value) (m : MobV) (w : World) (hv : MobRow w v m) (hs : SmallM m) (hb : BndM m) (hf : goodB m = false) :
    Calls Try.prog 90 #[v] w fun e w' => e = .returned (.tuple #[.slice none 0 0, .bool false]) ∧ Below w.heap.size w w' := by
  have IM := Lib.hid (fun w1 (l : Below w.heap.size w w1) => isMobile_any v m w1 (hv.lo l) hs hb)
  rw [hf] at IM
  obtain ⟨a, b, c, d, rfl⟩ := hv.form
  generalize m.am.length = n at *
  generalize m.hu.length = k at *
  clear hv hs hb hf
  obtain ⟨W, hW⟩ : ∃ W, w.alloc (.cells #[.slice a n c, .slice b k d] 27) = W := ⟨_, rfl⟩
  have LW := Lib.hid (show Below w.heap.size w W by rw [← hW]; exact (Below.refl _ _).alloc (Nat.le_refl _) _)
  have BX := Lib.hid (show Box2 W w.heap.size (.slice a n c) (.slice b k d) by rw [← hW]; exact box2_new _ _ _ _)
  have IM1 := Lib.hid (IM.out W LW.out)
  clear IM
  obtain ⟨_, u0, u1⟩ := BX.out
  go_enter Try.func90, Try.ntmps90
  go_wp2_with fail
  clear hW u0 u1
  refine IM1.out.mono ?_
  rintro e w1 ⟨rfl, l1⟩
  have L1 := Lib.hid (lo_on LW.out l1)
  clear l1 IM1
  go_wp2
  go_ret2
  exact ⟨rfl, L1.out⟩
theorem weightAt_step {n B : Nat} {b : Nat → Nat} {nu : Nat → Int} {S : RodF} {W : Nat → Int} (K : WtR n S W) (i e : Nat) (w : World) (hi : i < n) (he : e < 2) (H : RodsIn w B 0 n b nu S)
    (hw : ∀ q, i < q → q < n → Calls Try.prog 82 #[.pointer (some ⟨b q, 0, none⟩)] w fun r w'' => r = .returned (.int .i64 (W q)) ∧ ∃ d, w'' = w.drewN d) :
    Calls Try.prog 108 #[.pointer (some ⟨b i, 0, none⟩), .int .i64 (e : Int)] w fun r w' => r = .returned (.int .i64 (atR S W (2 * i + e))) ∧ ∃ d, w' = w.drewN d := by
  have cb := (H.rod i (by omega) hi).below e he
  have cl := (H.rod i (by omega) hi).leaf e he
  have hlt := (H.rod i (by omega) hi).lt
  have he' : (e : Int) < 2 := by omega
  have hdn := K.down (2 * i + e) (by omega)
  rw [show (2 * i + e) / 2 = i by omega] at hdn
  unfold atR
  generalize S.le (2 * i + e) = x at *
  generalize S.be (2 * i + e) = q at *
  clear H K
  by_cases h0 : q = 0
  · subst h0
    rw [ptrR_none _ rfl] at cb
    rw [if_pos rfl]
    clear hw hdn
    go_enter Try.func108, Try.ntmps108
    go_wp2
    go_ret
    exact ⟨rfl, 0, rfl⟩
  · have C := Lib.hid (hw q (hdn h0).1 (hdn h0).2)
    rw [ptrR_some _ h0] at cb
    rw [if_neg h0]
    generalize W q = z at *
    clear hw hdn
    go_enter Try.func108, Try.ntmps108
    go_wp2_with fail
    refine C.out.mono ?_
    rintro r w1 ⟨rfl, d, rfl⟩
    go_wp2
    go_ret
    exact ⟨rfl, d, rfl⟩
theorem weight_all {n B : Nat} {b : Nat → Nat} {nu : Nat → Int} {S : RodF} {W : Nat → Int} (K : WtR n S W) : ∀ (k i : Nat) (w : World), n ≤ i + k → i < n → RodsIn w B 0 n b nu S →
    Calls Try.prog 82 #[.pointer (some ⟨b i, 0, none⟩)] w fun r w'' => r = .returned (.int .i64 (W i)) ∧ ∃ d, w'' = w.drewN d := by
  intro k
  induction k with
  | zero => intro i w h1 h2; omega
  | succ k ih =>
    intro i w h1 hi H
    have A0 := Lib.hid (fun w1 (h : ∃ d, w1 = w.drewN d) => weightAt_step K i 0 w1 hi (by omega) (by obtain ⟨d, rfl⟩ := h; exact H.lo (drewN_lo w d)) (fun q hq1 hq2 => ih q w1 (by omega) hq2 (by obtain ⟨d, rfl⟩ := h; exact H.lo (drewN_lo w d))))
    have A1 := Lib.hid (fun w1 (h : ∃ d, w1 = w.drewN d) => weightAt_step K i 1 w1 hi (by omega) (by obtain ⟨d, rfl⟩ := h; exact H.lo (drewN_lo w d)) (fun q hq1 hq2 => ih q w1 (by omega) hq2 (by obtain ⟨d, rfl⟩ := h; exact H.lo (drewN_lo w d))))
    have hE := K.eq i hi
    have b0 := K.at_bnd (2 * i) (by omega)
    have b1 := K.at_bnd (2 * i + 1) (by omega)
    simp only [Nat.add_zero] at A0
    rw [hE]
    generalize atR S W (2 * i) = x at *
    generalize atR S W (2 * i + 1) = y at *
    obtain ⟨a0, a1⟩ := b0
    obtain ⟨c0, c1⟩ := b1
    clear ih H K hE
    go_enter Try.func82, Try.ntmps82
    go_wp2_with fail
    refine (A0.out _ ⟨0, rfl⟩).mono ?_
    rintro r w1 ⟨rfl, d, rfl⟩
    go_wp2_with fail
    refine (A1.out _ ⟨_, rfl⟩).mono ?_
    rintro r w1 ⟨rfl, d', rfl⟩
    go_wp2
    go_ret
    exact ⟨rfl, d + d', by simp⟩
theorem weight_any {n B : Nat} {b : Nat → Nat} {nu : Nat → Int} {S : RodF} {W : Nat → Int} (K : WtR n S W) (i : Nat) (w : World) (hi : i < n) (H : RodsIn w B 0 n b nu S) :
    Calls Try.prog 82 #[.pointer (some ⟨b i, 0, none⟩)] w fun r w'' => r = .returned (.int .i64 (W i)) ∧ ∃ d, w'' = w.drewN d := weight_all K n i w (by omega) hi H
theorem weightAt_any {n B : Nat} {b : Nat → Nat} {nu : Nat → Int} {S : RodF} {W : Nat → Int} (K : WtR n S W) (i e : Nat) (w : World) (hi : i < n) (he : e < 2) (H : RodsIn w B 0 n b nu S) :
    Calls Try.prog 108 #[.pointer (some ⟨b i, 0, none⟩), .int .i64 (e : Int)] w fun r w' => r = .returned (.int .i64 (atR S W (2 * i + e))) ∧ ∃ d, w' = w.drewN d :=
  weightAt_step K i e w hi he H (fun q _ hq => weight_any K q w hq H)
theorem pull_any {n B : Nat} {b : Nat → Nat} {nu : Nat → Int} {S : RodF} {W : Nat → Int} (K : WtR n S W) (i e : Nat) (w : World) (hi : i < n) (he : e < 2) (ha : 0 ≤ S.ar (2 * i + e) ∧ S.ar (2 * i + e) ≤ 24) (H : RodsIn w B 0 n b nu S) :
    Calls Try.prog 111 #[.pointer (some ⟨b i, 0, none⟩), .int .i64 (e : Int)] w fun r w' => r = .returned (.int .i64 (S.ar (2 * i + e) * atR S W (2 * i + e))) ∧ ∃ d, w' = w.drewN d := by
  have C := Lib.hid (fun n => Calls.quiet_of (n := n) (weightAt_any K i e (w.drewN n) hi he (H.lo (drewN_lo w n))))
  have ca := (H.rod i (by omega) hi).arm e he
  have hlt := (H.rod i (by omega) hi).lt
  have he' : (e : Int) < 2 := by omega
  have hb := K.at_bnd (2 * i + e) (by omega)
  generalize S.ar (2 * i + e) = x at *
  generalize atR S W (2 * i + e) = z at *
  have hm0 : 0 ≤ x * z := Int.mul_nonneg ha.1 hb.1
  have hm1 : x * z ≤ 24 * 6336 := Int.mul_le_mul ha.2 hb.2 hb.1 (by omega)
  have hw := wrap_mid (x * z) (by omega) (by omega)
  clear H K hm0 hm1
  go_enter Try.func111, Try.ntmps111
  go_wp2
  go_quiet ((go_at_call 108; exact C.out _))
  go_wp2
  go_ret
  exact ⟨rfl, _, rfl⟩
theorem pull_bnd {n : Nat} {S : RodF} {W : Nat → Int} (K : WtR n S W) (t : Nat) (ht : t < 2 * n) (ha : 0 ≤ S.ar t ∧ S.ar t ≤ 24) : 0 ≤ S.ar t * atR S W t ∧ S.ar t * atR S W t ≤ 152064 := by
  have hb := K.at_bnd t ht
  generalize S.ar t = x at *
  generalize atR S W t = z at *
  have hm0 : 0 ≤ x * z := Int.mul_nonneg ha.1 hb.1
  have hm1 : x * z ≤ 24 * 6336 := Int.mul_le_mul ha.2 hb.2 hb.1 (by omega)
  omega
def turnR (S : RodF) (W : Nat → Int) (i : Nat) : Int := S.ar (2 * i + 1) * atR S W (2 * i + 1) - S.ar (2 * i) * atR S W (2 * i)
theorem turn_any {n B : Nat} {b : Nat → Nat} {nu : Nat → Int} {S : RodF} {W : Nat → Int} (K : WtR n S W) (i : Nat) (w : World) (hi : i < n) (ha : ∀ t, t < 2 * n → 0 ≤ S.ar t ∧ S.ar t ≤ 24) (H : RodsIn w B 0 n b nu S) :
    Calls Try.prog 85 #[.pointer (some ⟨b i, 0, none⟩)] w fun r w' => r = .returned (.int .i64 (turnR S W i)) ∧ ∃ d, w' = w.drewN d := by
  have A0 := Lib.hid (fun w1 (h : ∃ d, w1 = w.drewN d) => pull_any K i 0 w1 hi (by omega) (ha _ (by omega)) (by obtain ⟨d, rfl⟩ := h; exact H.lo (drewN_lo w d)))
  have A1 := Lib.hid (fun w1 (h : ∃ d, w1 = w.drewN d) => pull_any K i 1 w1 hi (by omega) (ha _ (by omega)) (by obtain ⟨d, rfl⟩ := h; exact H.lo (drewN_lo w d)))
  have b0 := pull_bnd K (2 * i) (by omega) (ha _ (by omega))
  have b1 := pull_bnd K (2 * i + 1) (by omega) (ha _ (by omega))
  simp only [Nat.add_zero] at A0
  unfold turnR
  generalize S.ar (2 * i) * atR S W (2 * i) = x at *
  generalize S.ar (2 * i + 1) * atR S W (2 * i + 1) = y at *
  obtain ⟨a0, a1⟩ := b0
  obtain ⟨c0, c1⟩ := b1
  clear H K ha
  go_enter Try.func85, Try.ntmps85
  go_wp2_with fail
  refine (A1.out _ ⟨0, rfl⟩).mono ?_
  rintro r w1 ⟨rfl, d, rfl⟩
  go_wp2_with fail
  refine (A0.out _ ⟨_, rfl⟩).mono ?_
  rintro r w1 ⟨rfl, d', rfl⟩
  go_wp2
  go_ret
  exact ⟨rfl, d + d', by simp⟩
theorem length_any {n B : Nat} {b : Nat → Nat} {nu : Nat → Int} {S : RodF} (i : Nat) (w : World) (hi : i < n) (ha : ∀ t, t < 2 * n → 0 ≤ S.ar t ∧ S.ar t ≤ 24) (H : RodsIn w B 0 n b nu S) :
    Calls Try.prog 100 #[.pointer (some ⟨b i, 0, none⟩)] w fun r w' => r = .returned (.int .i64 (S.ar (2 * i) + S.ar (2 * i + 1))) ∧ ∃ d, w' = w.drewN d := by
  have c0 := (H.rod i (by omega) hi).arm 0 (by omega)
  have c1 := (H.rod i (by omega) hi).arm 1 (by omega)
  have hlt := (H.rod i (by omega) hi).lt
  obtain ⟨a0, a1⟩ := ha (2 * i) (by omega)
  obtain ⟨a2, a3⟩ := ha (2 * i + 1) (by omega)
  simp only [Nat.add_zero] at c0 c1
  generalize S.ar (2 * i) = x at *
  generalize S.ar (2 * i + 1) = y at *
  have hw := wrap_mid (x + y) (by omega) (by omega)
  clear H ha
  go_enter Try.func100, Try.ntmps100
  go_wp2
  go_quiet (fail)
  go_wp2
  go_ret
  exact ⟨rfl, _, rfl⟩
end Go.Proofs.Ytnadchgekfljkaa
