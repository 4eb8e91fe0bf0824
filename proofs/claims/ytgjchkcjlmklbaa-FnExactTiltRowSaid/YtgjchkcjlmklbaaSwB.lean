/- The contracts of TiltRow: where it fails, and the model's. -/
import Derived.Test.YtgjchkcjlmklbaaSwA
import Derived.Test.YtgjchkcjlmklbaaSw5
import Derived.Test.YtgjchkcjlmklbaaSw3
import Derived.Test.YtgjchkcjlmklbaaSw7
namespace Go.Proofs.Ytgjchkcjlmklbaa
open Go.RowKit
set_option maxRecDepth 100000 in
set_option maxHeartbeats 3200000 in
theorem tiltRowI_no (u v x : Value) (ws qs ss : List Int) (w : World) (hu : IntRow w u ws) (hv : IntRow w v qs) (hx : IntRow w x ss) (hn : ws.length ≤ 2000000) (hm : qs.length ≤ 2000000) (hs : ss.length ≤ 2000000) (h : tiltB ws qs ss = false) :
    Calls Try.prog 45 #[u, v, x] w fun e w' => e = .returned (.tuple #[.slice none 0 0, .bool false]) ∧ Below w.heap.size w w' := by
  have hh := (tilt_split ws qs ss).symm.trans h
  rw [one_parts] at hh
  have A := Lib.hid (haveArms_is u v ws qs _ rfl w hu hv hn hm)
  have AS := Lib.hid (fun w1 (l : Below w.heap.size w w1) => areSigns_any x ss w1 (hx.lo l) hs)
  have CN := Lib.hid (fun w1 (l : Below w.heap.size w w1) => containsI_any x ss 0 w1 (hx.lo l) hs)
  generalize armB ws qs = b1 at *
  generalize signsB ss = b2 at *
  generalize ss.contains 0 = b3 at *
  obtain ⟨a, c, rfl, _⟩ := hu
  obtain ⟨a2, c2, rfl, _⟩ := hx
  clear hv h hn hm hs
  cases b1 with
  | false =>
    clear AS CN hh
    go_enter Try.func45, Try.ntmps45
    go_wp2_with fail
    refine A.out.mono ?_
    rintro e w1 ⟨rfl, l1⟩
    have L1 := Lib.hid l1
    clear l1 A
    go_wp2
    go_ret2
    exact ⟨rfl, L1.out⟩
  | true =>
  obtain ⟨q, hq⟩ : ∃ q, ((ss.length : Int) == (ws.length : Int)) = q := ⟨_, rfl⟩
  rw [hq] at hh
  cases q with
  | false =>
    have hne : ((ss.length : Int) != (ws.length : Int)) = true := by simp only [bne, hq]; rfl
    clear AS CN hh hq
    go_enter Try.func45, Try.ntmps45
    go_wp2_with fail
    refine A.out.mono ?_
    rintro e w1 ⟨rfl, l1⟩
    have L1 := Lib.hid l1
    clear l1 A
    go_wp2
    go_ret2
    exact ⟨rfl, L1.out⟩
  | true =>
  have hne : ((ss.length : Int) != (ws.length : Int)) = false := by simp only [bne, hq]; rfl
  clear hq
  cases b2 with
  | false =>
    clear CN hh
    go_enter Try.func45, Try.ntmps45
    go_wp2_with fail
    refine A.out.mono ?_
    rintro e w1 ⟨rfl, l1⟩
    have S1 := Lib.hid (AS.out w1 l1)
    have L1 := Lib.hid l1
    clear l1 A AS
    go_wp2_with fail
    refine S1.out.mono ?_
    rintro e w2 ⟨rfl, l2⟩
    have L2 := Lib.hid (lo_on L1.out l2)
    clear l2 S1 L1
    go_wp2
    go_ret2
    exact ⟨rfl, L2.out⟩
  | true =>
  cases b3 with
  | false => exact absurd hh (by decide)
  | true =>
    clear hh
    go_enter Try.func45, Try.ntmps45
    go_wp2_with fail
    refine A.out.mono ?_
    rintro e w1 ⟨rfl, l1⟩
    have S1 := Lib.hid (AS.out w1 l1)
    have L1 := Lib.hid l1
    clear l1 A AS
    go_wp2_with fail
    refine S1.out.mono ?_
    rintro e w2 ⟨rfl, l2⟩
    have L2 := Lib.hid (lo_on L1.out l2)
    have C2 := Lib.hid (CN.out w2 L2.out)
    clear l2 S1 L1 CN
    go_wp2_with fail
    refine C2.out.mono ?_
    rintro e w3 ⟨rfl, hww⟩
    subst hww
    clear C2
    go_wp2
    go_ret2
    exact ⟨rfl, L2.out⟩
theorem tiltRowI_any (u v x : Value) (ws qs ss : List Int) (w : World) (hu : IntRow w u ws) (hv : IntRow w v qs) (hx : IntRow w x ss) (hn : ws.length ≤ 2000000) (hm : qs.length ≤ 2000000) (hs : ss.length ≤ 2000000) :
    Calls Try.prog 45 #[u, v, x] w fun e w' => ∃ y, e = .returned (.tuple #[y, .bool (tiltB ws qs ss)]) ∧ MineL w' w.heap.size w'.heap.size y (tiltR ws qs ss) ∧ Below w.heap.size w w' := by
  unfold tiltR
  cases h : tiltB ws qs ss with
  | true => rw [if_pos rfl]; exact tiltRowI_yes u v x ws qs ss w hu hv hx hn hm hs h
  | false =>
    rw [if_neg (by decide)]
    refine (tiltRowI_no u v x ws qs ss w hu hv hx hn hm hs h).mono ?_
    rintro e w' ⟨rfl, l⟩
    exact ⟨_, rfl, mineL_nil _ _ _ _ _, l⟩
theorem two_has (z : Int) : ([1, -1] : List Int).contains z = (decide (z = 1) || decide (z = -1)) := by
  rw [Bool.eq_iff_iff]; simp
set_option maxRecDepth 100000 in
set_option maxHeartbeats 1600000 in
theorem l9Are_any (v : Value) (ss : List Int) (n : Int) (w : World) (hv : IntRow w v ss) (hn : ss.length ≤ 2000000) :
    Calls Try.prog 129 #[v, .int .i64 n] w fun e w' => e = .returned (.bool (oneB ss && ((ss.length : Int) == n))) ∧ Below w.heap.size w w' := by
  have HYES := Lib.hid (fun (h : ∀ i, i < ss.length → ss.getD i 0 = 1 ∨ ss.getD i 0 = -1) => show oneB ss = true from propB_yes h)
  have HNO := Lib.hid (fun i (hi : i < ss.length) (h : ¬ (ss.getD i 0 = 1 ∨ ss.getD i 0 = -1)) => show oneB ss = false from propB_no (fun f => h (f i hi)))
  have HAS := Lib.hid (fun (v : Value) (z : Int) (w1 : World) (hr : IntRow w1 v [1, -1]) => l1Has_any v [1, -1] z w1 hr (by simp))
  have TW := Lib.hid two_has
  generalize oneB ss = b1 at *
  obtain ⟨a, c, rfl, hr⟩ := hv
  obtain ⟨e, he⟩ : ∃ e, ((ss.length : Int) == n) = e := ⟨_, rfl⟩
  rw [he]
  go_enter Try.func129, Try.ntmps129
  go_wp2
  go_loopw [5] (fun i wr => ∃ k : Nat, k ≤ ss.length ∧ i = .int .i64 k ∧ Hid (∀ j, j < k → ss.getD j 0 = 1 ∨ ss.getD j 0 = -1) ∧ Hid (Below w.heap.size w wr)) (fun i _ => ss.length - (intOf i).toNat)
  case atStart => exact ⟨0, Nat.zero_le _, rfl, Lib.hid (fun j h => by omega), Lib.hid (Below.refl _ _)⟩
  case round =>
    obtain ⟨k, hk, rfl, HL, HB⟩ := hrel
    by_cases hlt : k < ss.length
    · rcases hr with h | ⟨g, off, rfl, hg, hc⟩
      · subst h; simp at hlt
      have hlt' : (k : Int) < (ss.length : Int) := by omega
      have c1 := hc k hlt
      rw [← HB.out.cell (p := ⟨g, off + k, none⟩) hg] at c1
      have l1 : Below wr.heap.size wr (wr.alloc (.cells #[.int .i64 1, .int .i64 (-1)] 3)) := (Below.refl _ _).alloc (Nat.le_refl _) _
      rw [← l1.cell (p := ⟨g, off + k, none⟩) (Nat.lt_of_lt_of_le hg HB.out.size)] at c1
      have HNk := Lib.hid (HNO.out k hlt)
      have HLk := Lib.hid (fun (h : ss.getD k 0 = 1 ∨ ss.getD k 0 = -1) => show ∀ j, j < k + 1 → ss.getD j 0 = 1 ∨ ss.getD j 0 = -1 from fun j hj => by
        by_cases e : j = k
        · subst e; exact h
        · exact HL.out j (by omega))
      generalize ss.getD k 0 = z at c1 HNk HLk
      have R2 : IntRow (wr.alloc (.cells #[.int .i64 1, .int .i64 (-1)] 3)) (.slice (some ⟨wr.heap.size, 0, none⟩) 2 2) [1, -1] := ⟨_, _, rfl, .inr ⟨_, _, rfl, by simp, fun j hj => by
        have h0 := cell_two_new9 wr (.int .i64 1) (.int .i64 (-1)) 3
        match j, hj with
        | 0, _ => exact h0 0 _ rfl
        | 1, _ => exact h0 1 _ rfl⟩⟩
      have HR2 := Lib.hid R2
      have HL1 := Lib.hid (lo_on HB.out l1)
      clear hc R2 l1 HB
      go_wp2_with fail
      refine (HAS.out _ z _ HR2.out).mono ?_
      rintro e1 w1 ⟨rfl, hww⟩
      subst hww
      rw [TW.out]
      by_cases hz : z = 1 ∨ z = -1
      · have hq : (decide (z = 1) || decide (z = -1)) = true := by simpa using hz
        have HLn := Lib.hid (HLk.out hz)
        clear hz HR2
        rw [hq]
        go_wp2
        go_roundw
        case rel => exact ⟨k + 1, by omega, by go_num, HLn, HL1⟩
        case measure => simp [intOf]; omega
      · have hq : (decide (z = 1) || decide (z = -1)) = false := by simpa using hz
        have HF := Lib.hid (HNk.out hz)
        clear hz HR2
        rw [hq]
        go_wp2
        go_ret
        exact ⟨by rw [HF.out]; rfl, HL1.out⟩
    · obtain rfl : k = ss.length := by omega
      have hge : ¬ (ss.length : Int) < (ss.length : Int) := by omega
      have HF := Lib.hid (HYES.out HL.out)
      go_wp2
      go_ret
      exact ⟨by rw [HF.out]; rfl, HB.out⟩
end Go.Proofs.Ytgjchkcjlmklbaa
