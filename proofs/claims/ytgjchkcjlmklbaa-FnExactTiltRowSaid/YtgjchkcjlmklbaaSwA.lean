/- The contract of the program's TiltRow. -/
import Derived.Test.YtgjchkcjlmklbaaSwS
import Derived.Test.YtgjchkcjlmklbaaSw1
namespace Go.Proofs.Ytgjchkcjlmklbaa
open Go.RowKit
/-- Signs that are all 1 or -1. -/
noncomputable def oneB (ss : List Int) : Bool := propB (∀ i, i < ss.length → ss.getD i 0 = 1 ∨ ss.getD i 0 = -1)
theorem one_parts (ss : List Int) : oneB ss = (signsB ss && !ss.contains 0) := by
  unfold oneB
  by_cases hs : SignsF ss
  case neg =>
    rw [propB_no (fun f => hs (fun j hj => by rcases f j hj with e | e <;> rw [e] <;> decide)), show signsB ss = false from propB_no hs]; rfl
  rw [show signsB ss = true from propB_yes hs, Bool.true_and]
  cases hc : ss.contains 0 with
  | true =>
    refine propB_no (fun f => ?_)
    rw [hasI_no (fun j hj e => by rcases f j hj with h | h <;> rw [e] at h <;> exact absurd h (by decide))] at hc
    exact absurd hc (by decide)
  | false => exact propB_yes (fun i hi => by
      have h1 := hs i hi
      have h2 : ss.getD i 0 ≠ 0 := fun e => by rw [hasI_yes hi e] at hc; exact absurd hc (by decide)
      omega)
theorem tilt_split (ws qs ss : List Int) : tiltB ws qs ss = (armB ws qs && (oneB ss && ((ss.length : Int) == (ws.length : Int)))) := by
  unfold tiltB
  congr 1
  by_cases hl : ss.length = ws.length
  case neg =>
    rw [propB_no (fun f => hl f.1), show ((ss.length : Int) == (ws.length : Int)) = false by simp; omega, Bool.and_false]
  rw [hl, beq_self_eq_true, Bool.and_true]
  unfold oneB TiltF
  congr 1
  simp [hl]
theorem place_in {s q : Int} (hs : s = 1 ∨ s = -1) (hq : 1 ≤ q ∧ q ≤ 6) : (-6 ≤ s * q ∧ s * q ≤ 6) ∧ (24 ≤ 30 + s * q ∧ 30 + s * q ≤ 36) := by
  rcases hs with e | e <;> rw [e] <;> omega
set_option maxRecDepth 100000 in
set_option maxHeartbeats 3200000 in
theorem tiltRowI_yes (u v x : Value) (ws qs ss : List Int) (w : World) (hu : IntRow w u ws) (hv : IntRow w v qs) (hx : IntRow w x ss) (hn : ws.length ≤ 2000000) (hm : qs.length ≤ 2000000) (hs : ss.length ≤ 2000000) (h : tiltB ws qs ss = true) :
    Calls Try.prog 45 #[u, v, x] w fun e w' => ∃ y, e = .returned (.tuple #[y, .bool true]) ∧ MineL w' w.heap.size w'.heap.size y (rowW ws (placesW qs ss)) ∧ Below w.heap.size w w' := by
  obtain ⟨⟨⟨hw, ha⟩, hl⟩, hsl, hsg⟩ := (tiltB_iff ws qs ss).1 h
  have hh := (tilt_split ws qs ss).symm.trans h
  rw [one_parts, Bool.and_eq_true, Bool.and_eq_true, Bool.and_eq_true] at hh
  obtain ⟨hA, ⟨hS, hC⟩, _⟩ := hh
  have h12 := hw.short
  have A := Lib.hid (haveArms_is u v ws qs true hA w hu hv hn hm)
  have AS := Lib.hid (fun w1 (l : Below w.heap.size w w1) => areSigns_any x ss w1 (hx.lo l) hs)
  rw [hS] at AS
  have CN := Lib.hid (fun w1 (l : Below w.heap.size w w1) => containsI_any x ss 0 w1 (hx.lo l) hs)
  rw [show ss.contains 0 = false by simpa using hC] at CN
  have MK := Lib.hid (fun n hn u => make_ints n hn u)
  have WA := Lib.hid (fun y w1 (l : Below w.heap.size w w1) (hy : IntRow w1 y (placesW qs ss)) => weightsAt_any u y ws (placesW qs ss) w1 (hu.lo l) hy h12 (by rw [placesW_len]; exact hl))
  have PL := Lib.hid (show (placesW qs ss).length = ss.length by rw [placesW_len]; omega)
  have PA := Lib.hid (fun i (h : i < ss.length) => placesW_at qs ss i (by omega))
  have PI := Lib.hid (fun i (h : i < ss.length) => place_in (hsg i h) (ha i (by omega)))
  generalize rowW ws (placesW qs ss) = RW at *
  generalize placesW qs ss = PS at *
  obtain ⟨a, c, rfl, _⟩ := hu
  obtain ⟨a1, c1, rfl, hv⟩ := hv
  obtain ⟨a2, c2, rfl, hx⟩ := hx
  rw [← hsl] at A WA h12 ⊢
  rw [hl, ← hsl] at hv A ⊢
  obtain ⟨n, hnn⟩ : ∃ n, ss.length = n := ⟨_, rfl⟩
  have hqq : qs.length = n := by omega
  have hss := hnn
  rw [hnn] at A AS CN WA PL PA PI h12 hx hv hs ⊢
  clear hw ha h hnn hn hm hA hS hC hsl hl hsg
  go_enter Try.func45, Try.ntmps45
  go_wp2_with fail
  refine A.out.mono ?_
  rintro e w1 ⟨rfl, l1⟩
  have S1 := Lib.hid (AS.out w1 l1)
  have L1 := Lib.hid l1
  clear l1 A AS
  go_wp2_with fail
  refine S1.out.mono ?_
  rintro e w2 ⟨rfl, l2⟩
  have L2 := Lib.hid (lo_on L1.out l2)
  have C2 := Lib.hid (CN.out w2 L2.out)
  clear l2 S1 CN L1
  go_wp2_with fail
  refine C2.out.mono ?_
  rintro e w3 ⟨rfl, hww⟩
  subst hww
  have l3 := L2.out
  have HMK := MK.out n (by omega) w3
  have hs1 := l3.size
  clear MK C2 L2
  have L3 := Lib.hid l3
  clear l3
  go_wp2
  go_loopw [36] (fun i wr => ∃ k : Nat, k ≤ n ∧ i = .int .i64 k ∧ Hid (∀ j, j < k → wr.cell? ⟨w3.heap.size, j, none⟩ = some (.int .i64 (PS.getD j 0))) ∧ Hid (∀ j, k ≤ j → j < n → wr.cell? ⟨w3.heap.size, j, none⟩ = some (.int .i64 0)) ∧ Hid (∀ j, wr.frozen? ⟨w3.heap.size, j, none⟩ = false) ∧ Hid (Below w3.heap.size w3 wr) ∧ w3.heap.size + 1 ≤ wr.heap.size) (fun i _ => n - (intOf i).toNat)
  case atStart => exact ⟨0, Nat.zero_le _, rfl, Lib.hid (fun j h => by omega), Lib.hid (fun j _ h => by rw [World.cell?_alloc_at _ _ _ _ rfl]; exact made_int _ _ h), Lib.hid (fun j => World.frozen?_alloc_at _ _ _ _ rfl), Lib.hid ((Below.refl _ _).alloc (Nat.le_refl _) _), by simp⟩
  case round =>
    obtain ⟨k, hk, rfl, H1, H2, H3, HB, hs2⟩ := hrel
    clear HMK
    by_cases hlt : k < n
    · have hlt' : (k : Int) < (n : Int) := by omega
      rcases hx with e0 | ⟨g, off, rfl, hg, hc⟩
      · exact absurd (show n = 0 by have := hss; rw [e0] at this; simpa using this.symm) (by omega)
      rcases hv with e0 | ⟨g2, off2, rfl, hg2, hc2⟩
      · exact absurd (show n = 0 by have := hqq; rw [e0] at this; simpa using this.symm) (by omega)
      have c1 := hc k hlt
      have c2 := hc2 k hlt
      rw [← (L3.out.trans (HB.out.mono L3.out.size)).cell (p := ⟨g, off + k, none⟩) hg] at c1
      rw [← (L3.out.trans (HB.out.mono L3.out.size)).cell (p := ⟨g2, off2 + k, none⟩) hg2] at c2
      have pi := PI.out k hlt
      have pa := PA.out k hlt
      generalize ss.getD k 0 = s at c1 pi pa
      generalize qs.getD k 0 = q at c2 pi pa
      obtain ⟨p, hp⟩ : ∃ p, s * q = p := ⟨_, rfl⟩
      rw [hp] at pi pa
      obtain ⟨⟨p1, p2⟩, p3, p4⟩ := pi
      have hw1 : IntKind.i64.wrap (s * q) = p := by rw [hp, IntKind.wrap_i64]; omega
      have hw2 : IntKind.i64.wrap (30 + p) = 30 + p := by rw [IntKind.wrap_i64]; omega
      have hw3 : RowKit.wrap64 (s * q) = p := by rw [hp]; exact Go.IntWalk.wrap64_in _ (by omega)
      have hw4 : RowKit.wrap64 (30 + p) = 30 + p := Go.IntWalk.wrap64_in _ (by omega)
      have z1 := H2.out k (Nat.le_refl _) hlt
      have f1 := H3.out k
      have TS := Lib.hid (one_set wr w3.heap.size k (.int .i64 (30 + p)) z1)
      have HX := Lib.hid pa
      clear hc hc2 pa p1 p2 p3 p4 hp
      go_wp2
      go_roundw
      case rel =>
        obtain ⟨t1, t3⟩ := TS.out
        refine ⟨k + 1, by omega, by go_num, Lib.hid (fun j hj => ?_), Lib.hid (fun j hj hjn => ?_), Lib.hid (fun j => ?_), Lib.hid (HB.out.setCell (p := ⟨w3.heap.size, k, none⟩) (Nat.le_refl _) _), by simp; omega⟩
        · by_cases e : j = k
          · subst e; rw [HX.out]; exact t1
          · rw [t3 _ e]; exact H1.out j (by omega)
        · rw [t3 _ (by omega)]; exact H2.out j (by omega) hjn
        · rw [World.frozen?_setCell]; exact H3.out j
      case measure => simp [intOf]; omega
    · obtain rfl : k = n := by omega
      have hge : ¬ (k : Int) < (k : Int) := by omega
      have R := Lib.hid (show IntRow wr (.slice (some ⟨w3.heap.size, 0, none⟩) k k) PS from ⟨_, _, by rw [PL.out], .inr ⟨_, _, rfl, by omega, fun j hj => by rw [PL.out] at hj; rw [Nat.zero_add]; exact H1.out j hj⟩⟩)
      have LW := Lib.hid (lo_on L3.out HB.out)
      have W1 := Lib.hid (WA.out _ wr LW.out R.out)
      clear H1 H2 H3 HB WA PA PI L3
      go_wp2_with fail
      refine W1.out.mono ?_
      rintro e w4 ⟨y, rfl, m4, l4⟩
      have M4 := Lib.hid (m4.mono9 LW.out.size)
      have L4 := Lib.hid (lo_on LW.out l4)
      clear m4 l4 W1
      go_wp2
      go_ret2
      exact ⟨_, rfl, M4.out, L4.out⟩
end Go.Proofs.Ytgjchkcjlmklbaa
