/- Whether a struct is a pile, and a number one of its bricks: the contracts of the model's and the program's. -/
import Derived.Test.YthihamjgfemacaaPile1
namespace Go.Proofs.Ythihamjgfemacaa
open Go.RowKit
set_option maxRecDepth 100000 in
set_option maxHeartbeats 1600000 in
theorem l4Pile_any (v : Value) (p : PileV) (w : World) (hv : PileRow w v p) (hs : SmallP p) :
    Calls Try.prog 112 #[v] w fun e w' => e = .returned (.bool (pileB p)) ∧ Below w.heap.size w w' := by
  obtain ⟨a, b, rfl, h1, h2⟩ := hv
  obtain ⟨a1, a2, rfl, h1⟩ := h1
  obtain ⟨b1, b2, rfl, h2⟩ := h2
  obtain ⟨hs1, hs2⟩ := hs
  obtain ⟨q1, hq1⟩ : ∃ q, (decide (1 ≤ p.wd) && decide (p.wd ≤ 24)) = q := ⟨_, rfl⟩
  obtain ⟨q2, hq2⟩ : ∃ q, (decide (1 ≤ (p.ls.length : Int)) && decide ((p.ls.length : Int) ≤ 8)) = q := ⟨_, rfl⟩
  have Q1 := Lib.hid (fun w => l1In_is p.wd 1 24 q1 hq1 w)
  have Q2 := Lib.hid (fun w => l1In_is p.ls.length 1 8 q2 hq2 w)
  have HZ := Lib.hid (show sizesB p.wd p.ls.length = (q1 && q2) by unfold sizesB; rw [hq1, hq2])
  clear hq1 hq2
  cases q1 with
  | false =>
    have HF := Lib.hid (pileB_size (p := p) (by rw [HZ.out]; rfl))
    go_enter Try.func112, Try.ntmps112
    go_wp2_with fail
    refine (Q1.out _).mono ?_
    rintro e w' ⟨rfl, rfl⟩
    go_wp2
    go_ret
    exact ⟨by rw [HF.out]; rfl, (Below.refl _ _).alloc (Nat.le_refl _) _⟩
  | true =>
    cases q2 with
    | false =>
      have HF := Lib.hid (pileB_size (p := p) (by rw [HZ.out]; rfl))
      go_enter Try.func112, Try.ntmps112
      go_wp2_with fail
      refine (Q1.out _).mono ?_
      rintro e w' ⟨rfl, rfl⟩
      go_wp2_with fail
      refine (Q2.out _).mono ?_
      rintro e w' ⟨rfl, rfl⟩
      go_wp2
      go_ret
      exact ⟨by rw [HF.out]; rfl, (Below.refl _ _).alloc (Nat.le_refl _) _⟩
    | true =>
      by_cases hsame : p.ws.length = p.ls.length
      · have hlb : p.ls.length ≤ 8 := by
          have := HZ.out
          rw [Bool.true_and] at this
          unfold sizesB at this
          simp only [Bool.and_eq_true, decide_eq_true_eq] at this
          omega
        have hb : ((p.ws.length : Int) != (p.ls.length : Int)) = false := by rw [hsame]; simp
        have HSM := Lib.hid hsame
        obtain ⟨m, hm⟩ : ∃ m, p.ws.length = m := ⟨_, rfl⟩
        rw [hm] at hb HSM ⊢
        have HM := Lib.hid hm
        clear hm hsame
        go_enter Try.func112, Try.ntmps112
        go_wp2_with fail
        refine (Q1.out _).mono ?_
        rintro e w' ⟨rfl, rfl⟩
        go_wp2_with fail
        refine (Q2.out _).mono ?_
        rintro e w' ⟨rfl, rfl⟩
        go_wp2
        have BX := Lib.hid (box3_new w (.int .i64 p.wd) (.slice a1 p.ls.length a2) (.slice b1 m b2) 63)
        go_loopw [4] (fun i wr => ∃ k : Nat, k ≤ p.ls.length ∧ i = .int .i64 k ∧ Hid (∀ j, j < k → brickOk p j = true) ∧ Hid (Below w.heap.size w wr) ∧ Hid (Box3 wr w.heap.size (.int .i64 p.wd) (.slice a1 p.ls.length a2) (.slice b1 m b2))) (fun i _ => p.ls.length - (intOf i).toNat)
        case atStart => exact ⟨0, Nat.zero_le _, rfl, Lib.hid (fun j h => by omega), Lib.hid ((Below.refl _ _).alloc (Nat.le_refl _) _), BX⟩
        case round =>
          obtain ⟨k, hk, rfl, HL, HW, HBX⟩ := hrel
          clear BX Q1 Q2
          by_cases hlt : k < p.ls.length
          · rcases h1 with h | ⟨g, off, rfl, hg, hc⟩
            · rw [h] at hlt; simp at hlt
            rcases h2 with h | ⟨g', off', rfl, hg', hc'⟩
            · have := HM.out; have := HSM.out; rw [h] at *; simp at *; omega
            have c1 := hc k hlt
            have hlt2 : k < p.ws.length := by have := HM.out; have := HSM.out; omega
            have hltm : k < m := by have := HSM.out; omega
            have c2 := hc' k hlt2
            rw [← HW.out.cell (p := ⟨g, off + k, none⟩) hg] at c1
            rw [← HW.out.cell (p := ⟨g', off' + k, none⟩) hg'] at c2
            obtain ⟨_, x0, x1, x2⟩ := HBX.out
            have hlt' : (k : Int) < (p.ls.length : Int) := by omega
            have hltm' : (k : Int) < (m : Int) := by omega
            have HX := Lib.hid (show ∀ r s, (decide (-99 ≤ p.ls.getD k 0) && decide (p.ls.getD k 0 ≤ 99)) = r → (decide (1 ≤ p.ws.getD k 0) && decide (p.ws.getD k 0 ≤ 99)) = s → brickOk p k = (r && s) from fun r s hr hs => by unfold brickOk; rw [hr, hs])
            generalize p.ls.getD k 0 = x at c1 HX
            generalize p.ws.getD k 0 = y at c2 HX
            obtain ⟨r, hr⟩ : ∃ r, (decide (-99 ≤ x) && decide (x ≤ 99)) = r := ⟨_, rfl⟩
            obtain ⟨s, hsr⟩ : ∃ s, (decide (1 ≤ y) && decide (y ≤ 99)) = s := ⟨_, rfl⟩
            have R1 := Lib.hid (fun w => l1In_is x (-99) 99 r hr w)
            have R2 := Lib.hid (fun w => l1In_is y 1 99 s hsr w)
            have HXR := Lib.hid (HX.out r s hr hsr)
            clear hc hc' HX hr hsr
            cases r with
            | false =>
              have HF := Lib.hid (pileB_brick hlt (by rw [HXR.out]; rfl))
              go_wp2_with fail
              refine (R1.out _).mono ?_
              rintro e w' ⟨rfl, rfl⟩
              go_wp2
              go_ret
              exact ⟨by rw [HF.out]; rfl, HW.out⟩
            | true =>
              cases s with
              | false =>
                have HF := Lib.hid (pileB_brick hlt (by rw [HXR.out]; rfl))
                go_wp2_with fail
                refine (R1.out _).mono ?_
                rintro e w' ⟨rfl, rfl⟩
                go_wp2_with fail
                refine (R2.out _).mono ?_
                rintro e w' ⟨rfl, rfl⟩
                go_wp2
                go_ret
                exact ⟨by rw [HF.out]; rfl, HW.out⟩
              | true =>
                go_wp2_with fail
                refine (R1.out _).mono ?_
                rintro e w' ⟨rfl, rfl⟩
                go_wp2_with fail
                refine (R2.out _).mono ?_
                rintro e w' ⟨rfl, rfl⟩
                go_wp2
                go_roundw
                case rel =>
                  refine ⟨k + 1, by omega, by go_num, Lib.hid (fun j hj => ?_), HW, HBX⟩
                  by_cases e : j = k
                  · subst e; exact HXR.out
                  · exact HL.out j (by omega)
                case measure => simp [intOf]; omega
          · obtain rfl : k = p.ls.length := by omega
            have hge : ¬ (p.ls.length : Int) < (p.ls.length : Int) := by omega
            have HF := Lib.hid (pileB_yes (by rw [HZ.out]; rfl) (by have := HM.out; have := HSM.out; omega) HL.out)
            go_wp2
            go_ret
            exact ⟨by rw [HF.out]; rfl, HW.out⟩
      · have hb : ((p.ws.length : Int) != (p.ls.length : Int)) = true := by
          rw [bne_iff_ne]; omega
        have HF := Lib.hid (pileB_same hsame)
        clear hsame
        go_enter Try.func112, Try.ntmps112
        go_wp2_with fail
        refine (Q1.out _).mono ?_
        rintro e w' ⟨rfl, rfl⟩
        go_wp2_with fail
        refine (Q2.out _).mono ?_
        rintro e w' ⟨rfl, rfl⟩
        go_wp2
        go_ret
        exact ⟨by rw [HF.out]; rfl, (Below.refl _ _).alloc (Nat.le_refl _) _⟩
/-- A number is that of a brick. -/
noncomputable def brickB (p : PileV) (i : Int) : Bool := pileB p && (decide (0 ≤ i) && decide (i < p.ls.length))
theorem brickB_iff (p : PileV) (i : Int) : brickB p i = true ↔ PileF p ∧ ∃ k : Nat, i = k ∧ k < p.ls.length := by
  unfold brickB
  rw [Bool.and_eq_true, Bool.and_eq_true, decide_eq_true_eq, decide_eq_true_eq]
  unfold pileB
  rw [propB_iff]
  exact ⟨fun ⟨h, a, b⟩ => ⟨h, i.toNat, by omega, by omega⟩, fun ⟨h, k, e, hk⟩ => ⟨h, by omega, by omega⟩⟩
set_option maxHeartbeats 800000 in
theorem isBrick_any (v : Value) (p : PileV) (i : Int) (w : World) (hv : PileRow w v p) (hs : SmallP p) :
    Calls Try.prog 107 #[v, .int .i64 i] w fun e w' => e = .returned (.bool (brickB p i)) ∧ Below w.heap.size w w' := by
  obtain ⟨a, b, c, d, rfl⟩ := hv.form
  have AL := Lib.hid ((Below.refl w.heap.size w).alloc (Nat.le_refl _) (.cells #[.int .i64 p.wd, .slice a p.ls.length c, .slice b p.ws.length d] 63))
  have BX := Lib.hid (box3_new w (.int .i64 p.wd) (.slice a p.ls.length c) (.slice b p.ws.length d) 63)
  have D := Lib.hid (isPile_any _ p _ (hv.lo AL.out) hs)
  obtain ⟨q, hq⟩ : ∃ q, pileB p = q := ⟨_, rfl⟩
  have HQ := Lib.hid (show brickB p i = (q && (decide (0 ≤ i) && decide (i < p.ls.length))) by unfold brickB; rw [hq])
  obtain ⟨r0, hr0⟩ : ∃ r, brickB p i = r := ⟨_, rfl⟩
  rw [hr0] at HQ ⊢
  rw [hq] at D
  have hs1 := hs.1
  clear hv hs hq hr0
  cases q with
  | false =>
    go_enter Try.func107, Try.ntmps107
    go_wp2_with fail
    refine D.out.mono ?_
    rintro e w1 ⟨rfl, l1⟩
    have L := Lib.hid (lo_on AL.out l1)
    clear l1 D
    go_wp2
    go_ret
    exact ⟨by rw [HQ.out]; rfl, L.out⟩
  | true =>
    by_cases h1 : 0 ≤ i
    · by_cases h2 : i < p.ls.length
      all_goals go_enter Try.func107, Try.ntmps107
      all_goals go_wp2_with fail
      all_goals refine D.out.mono ?_
      all_goals rintro e w1 ⟨rfl, l1⟩
      all_goals have L := Lib.hid (lo_on AL.out l1)
      all_goals obtain ⟨_, x0, x1, x2⟩ := BX.out.lo l1
      all_goals clear l1 D
      all_goals go_wp2
      all_goals go_ret
      all_goals exact ⟨by rw [HQ.out]; simp [h1, h2], L.out⟩
    · go_enter Try.func107, Try.ntmps107
      go_wp2_with fail
      refine D.out.mono ?_
      rintro e w1 ⟨rfl, l1⟩
      have L := Lib.hid (lo_on AL.out l1)
      obtain ⟨_, x0, x1, x2⟩ := BX.out.lo l1
      clear l1 D
      go_wp2
      go_ret
      exact ⟨by rw [HQ.out]; simp; omega, L.out⟩
set_option maxHeartbeats 800000 in
theorem l4Brick_any (v : Value) (p : PileV) (i : Int) (w : World) (hv : PileRow w v p) (hs : SmallP p) :
    Calls Try.prog 104 #[v, .int .i64 i] w fun e w' => e = .returned (.bool (brickB p i)) ∧ Below w.heap.size w w' := by
  obtain ⟨a, b, c, d, rfl⟩ := hv.form
  have AL := Lib.hid ((Below.refl w.heap.size w).alloc (Nat.le_refl _) (.cells #[.int .i64 p.wd, .slice a p.ls.length c, .slice b p.ws.length d] 63))
  have BX := Lib.hid (box3_new w (.int .i64 p.wd) (.slice a p.ls.length c) (.slice b p.ws.length d) 63)
  have D := Lib.hid (l4Pile_any _ p _ (hv.lo AL.out) hs)
  obtain ⟨q, hq⟩ : ∃ q, pileB p = q := ⟨_, rfl⟩
  have HQ := Lib.hid (show brickB p i = (q && (decide (0 ≤ i) && decide (i ≤ (p.ls.length : Int) - 1))) by
    unfold brickB
    rw [hq, show decide (i < (p.ls.length : Int)) = decide (i ≤ (p.ls.length : Int) - 1) by congr 1; simp only [eq_iff_iff]; omega])
  have R := Lib.hid (fun w => l1In_is i 0 ((p.ls.length : Int) - 1) _ rfl w)
  obtain ⟨r0, hr0⟩ : ∃ r, brickB p i = r := ⟨_, rfl⟩
  rw [hr0] at HQ ⊢
  rw [hq] at D
  have hs1 := hs.1
  clear hv hs hq hr0
  cases q with
  | false =>
    go_enter Try.func104, Try.ntmps104
    go_wp2_with fail
    refine D.out.mono ?_
    rintro e w1 ⟨rfl, l1⟩
    have L := Lib.hid (lo_on AL.out l1)
    clear l1 D
    go_wp2
    go_ret
    exact ⟨by rw [HQ.out]; rfl, L.out⟩
  | true =>
    rw [Bool.true_and] at HQ
    generalize (decide (0 ≤ i) && decide (i ≤ (p.ls.length : Int) - 1)) = q at R HQ
    go_enter Try.func104, Try.ntmps104
    go_wp2_with fail
    refine D.out.mono ?_
    rintro e w1 ⟨rfl, l1⟩
    have L := Lib.hid (lo_on AL.out l1)
    obtain ⟨_, x0, x1, x2⟩ := BX.out.lo l1
    clear l1 D
    go_wp2_with fail
    refine (R.out _).mono ?_
    rintro e w' ⟨rfl, rfl⟩
    go_wp2
    go_ret
    exact ⟨by rw [HQ.out]; rfl, L.out⟩
end Go.Proofs.Ythihamjgfemacaa
