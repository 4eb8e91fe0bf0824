/- Whether a struct is a pile: the contracts of the program's and the model's. -/
import Derived.Test.YthihamjgfemacaaPileLaw
import Derived.BigQuiet
namespace Go.Proofs.Ythihamjgfemacaa
open Go.RowKit
theorem isPileSize_is (a b : Int) (r : Bool) (h : (decide (1 ≤ a) && decide (a ≤ 24) && (decide (1 ≤ b) && decide (b ≤ 8))) = r) (w : World) : Calls Try.prog 132 #[.int .i64 a, .int .i64 b] w fun e w' => e = .returned (.bool r) ∧ w = w' := by
  subst h
  by_cases h1 : 1 ≤ a
  · by_cases h2 : a ≤ 24
    · by_cases h3 : 1 ≤ b
      · by_cases h4 : b ≤ 8
        all_goals go_enter Try.func132, Try.ntmps132
        all_goals go_wp2
        all_goals go_ret
        all_goals exact ⟨by simp [h1, h2, h3, h4], rfl⟩
      · go_enter Try.func132, Try.ntmps132
        go_wp2
        go_ret
        exact ⟨by simp; omega, rfl⟩
    · go_enter Try.func132, Try.ntmps132
      go_wp2
      go_ret
      exact ⟨by simp; omega, rfl⟩
  · go_enter Try.func132, Try.ntmps132
    go_wp2
    go_ret
    exact ⟨by simp; omega, rfl⟩
theorem isShift_is (p : Int) (r : Bool) (h : (decide (-99 ≤ p) && decide (p ≤ 99)) = r) (w : World) : Calls Try.prog 133 #[.int .i64 p] w fun e w' => e = .returned (.bool r) ∧ w = w' := by
  subst h
  by_cases h1 : -99 ≤ p
  · by_cases h2 : p ≤ 99
    all_goals go_enter Try.func133, Try.ntmps133
    all_goals go_wp2
    all_goals go_ret
    all_goals exact ⟨by simp [h1, h2], rfl⟩
  · go_enter Try.func133, Try.ntmps133
    go_wp2
    go_ret
    exact ⟨by simp; omega, rfl⟩
def brickOk (p : PileV) (j : Nat) : Bool := (decide (-99 ≤ p.ls.getD j 0) && decide (p.ls.getD j 0 ≤ 99)) && (decide (1 ≤ p.ws.getD j 0) && decide (p.ws.getD j 0 ≤ 99))
def sizesB (a b : Int) : Bool := decide (1 ≤ a) && decide (a ≤ 24) && (decide (1 ≤ b) && decide (b ≤ 8))
theorem pileB_yes {p : PileV} (h1 : sizesB p.wd p.ls.length = true) (h2 : p.ws.length = p.ls.length) (h : ∀ j, j < p.ls.length → brickOk p j = true) : pileB p = true := by
  refine propB_yes ?_
  unfold sizesB at h1
  simp only [Bool.and_eq_true, decide_eq_true_eq] at h1
  refine ⟨h1.1.1, h1.1.2, by omega, by omega, h2, fun j hj => ?_⟩
  have := h j hj
  unfold brickOk at this
  simp only [Bool.and_eq_true, decide_eq_true_eq] at this
  exact this
theorem pileB_size {p : PileV} (h : sizesB p.wd p.ls.length = false) : pileB p = false := propB_no (fun f => by
  have : sizesB p.wd p.ls.length = true := by
    have a := f.w1
    have b := f.w2
    have c := f.one
    have d := f.short
    unfold sizesB
    simp; omega
  rw [h] at this; cases this)
theorem pileB_same {p : PileV} (h : p.ws.length ≠ p.ls.length) : pileB p = false := propB_no (fun f => h f.same)
theorem pileB_brick {p : PileV} {j : Nat} (hj : j < p.ls.length) (h : brickOk p j = false) : pileB p = false := propB_no (fun f => by
  have : brickOk p j = true := by
    have := f.each j hj
    unfold brickOk
    simp only [Bool.and_eq_true, decide_eq_true_eq]
    exact this
  rw [h] at this; cases this)
set_option maxRecDepth 100000 in
set_option maxHeartbeats 1600000 in
theorem isPile_any (v : Value) (p : PileV) (w : World) (hv : PileRow w v p) (hs : SmallP p) :
    Calls Try.prog 114 #[v] w fun e w' => e = .returned (.bool (pileB p)) ∧ Below w.heap.size w w' := by
  obtain ⟨a, b, rfl, h1, h2⟩ := hv
  obtain ⟨a1, a2, rfl, h1⟩ := h1
  obtain ⟨b1, b2, rfl, h2⟩ := h2
  obtain ⟨hs1, hs2⟩ := hs
  have HS := Lib.hid (fun w => isPileSize_is p.wd p.ls.length _ rfl w)
  cases hsz : sizesB p.wd p.ls.length with
  | false =>
    unfold sizesB at hsz
    rw [hsz] at HS
    have HF := Lib.hid (pileB_size (show sizesB p.wd p.ls.length = false from hsz))
    clear hsz
    go_enter Try.func114, Try.ntmps114
    go_wp2_with fail
    refine (HS.out _).mono ?_
    rintro e w' ⟨rfl, rfl⟩
    go_wp2
    go_ret
    exact ⟨by rw [HF.out]; rfl, (Below.refl _ _).alloc (Nat.le_refl _) _⟩
  | true =>
    have HZ := Lib.hid hsz
    unfold sizesB at hsz
    rw [hsz] at HS
    clear hsz
    by_cases hsame : p.ws.length = p.ls.length
    · have hlb : p.ls.length ≤ 8 := by
        have := HZ.out
        unfold sizesB at this
        simp only [Bool.and_eq_true, decide_eq_true_eq] at this
        omega
      have hb : ((p.ws.length : Int) != (p.ls.length : Int)) = false := by rw [hsame]; simp
      have HSM := Lib.hid hsame
      obtain ⟨m, hm⟩ : ∃ m, p.ws.length = m := ⟨_, rfl⟩
      rw [hm] at hb HSM ⊢
      have HM := Lib.hid hm
      clear hm hsame
      go_enter Try.func114, Try.ntmps114
      go_wp2_with fail
      refine (HS.out _).mono ?_
      rintro e w' ⟨rfl, rfl⟩
      go_wp2
      have BX := Lib.hid (box3_new w (.int .i64 p.wd) (.slice a1 p.ls.length a2) (.slice b1 m b2) 63)
      go_loopw [24] (fun i wr => ∃ k : Nat, k ≤ p.ls.length ∧ i = .int .i64 k ∧ Hid (∀ j, j < k → brickOk p j = true) ∧ Hid (Below w.heap.size w wr) ∧ Hid (Box3 wr w.heap.size (.int .i64 p.wd) (.slice a1 p.ls.length a2) (.slice b1 m b2))) (fun i _ => p.ls.length - (intOf i).toNat)
      case atStart => exact ⟨0, Nat.zero_le _, rfl, Lib.hid (fun j h => by omega), Lib.hid ((Below.refl _ _).alloc (Nat.le_refl _) _), BX⟩
      case round =>
        obtain ⟨k, hk, rfl, HL, HW, HBX⟩ := hrel
        clear BX HS
        by_cases hlt : k < p.ls.length
        · rcases h1 with h | ⟨g, off, rfl, hg, hc⟩
          · rw [h] at hlt; simp at hlt
          rcases h2 with h | ⟨g', off', rfl, hg', hc'⟩
          · have := HM.out; have := HSM.out; rw [h] at *; simp at *; omega
          have c1 := hc k hlt
          have hlt2 : k < p.ws.length := by have := HM.out; have := HSM.out; omega
          have hltm : k < m := by have := HSM.out; omega
          have c2 := hc' k hlt2
          rw [← HW.out.cell (p := ⟨g, off + k, none⟩) hg] at c1
          rw [← HW.out.cell (p := ⟨g', off' + k, none⟩) hg'] at c2
          obtain ⟨_, x0, x1, x2⟩ := HBX.out
          have hlt' : (k : Int) < (p.ls.length : Int) := by omega
          have hltm' : (k : Int) < (m : Int) := by omega
          have HX := Lib.hid (show ∀ r s, (decide (-99 ≤ p.ls.getD k 0) && decide (p.ls.getD k 0 ≤ 99)) = r → (decide (1 ≤ p.ws.getD k 0) && decide (p.ws.getD k 0 ≤ 99)) = s → brickOk p k = (r && s) from fun r s hr hs => by unfold brickOk; rw [hr, hs])
          generalize p.ls.getD k 0 = x at c1 HX
          generalize p.ws.getD k 0 = y at c2 HX
          obtain ⟨r, hr⟩ : ∃ r, (decide (-99 ≤ x) && decide (x ≤ 99)) = r := ⟨_, rfl⟩
          obtain ⟨s, hsr⟩ : ∃ s, (decide (1 ≤ y) && decide (y ≤ 99)) = s := ⟨_, rfl⟩
          have R1 := Lib.hid (fun w => isShift_is x r hr w)
          have R2 := Lib.hid (fun w => isWeight_is y s hsr w)
          have HXR := Lib.hid (HX.out r s hr hsr)
          clear hc hc' HX hr hsr
          cases r with
          | false =>
            have HF := Lib.hid (pileB_brick hlt (by rw [HXR.out]; rfl))
            go_wp2_with fail
            refine (R1.out _).mono ?_
            rintro e w' ⟨rfl, rfl⟩
            go_wp2
            go_ret
            exact ⟨by rw [HF.out]; rfl, HW.out⟩
          | true =>
            cases s with
            | false =>
              have HF := Lib.hid (pileB_brick hlt (by rw [HXR.out]; rfl))
              go_wp2_with fail
              refine (R1.out _).mono ?_
              rintro e w' ⟨rfl, rfl⟩
              go_wp2_with fail
              refine (R2.out _).mono ?_
              rintro e w' ⟨rfl, rfl⟩
              go_wp2
              go_ret
              exact ⟨by rw [HF.out]; rfl, HW.out⟩
            | true =>
              go_wp2_with fail
              refine (R1.out _).mono ?_
              rintro e w' ⟨rfl, rfl⟩
              go_wp2_with fail
              refine (R2.out _).mono ?_
              rintro e w' ⟨rfl, rfl⟩
              go_wp2
              go_roundw
              case rel =>
                refine ⟨k + 1, by omega, by go_num, Lib.hid (fun j hj => ?_), HW, HBX⟩
                by_cases e : j = k
                · subst e; exact HXR.out
                · exact HL.out j (by omega)
              case measure => simp [intOf]; omega
        · obtain rfl : k = p.ls.length := by omega
          have hge : ¬ (p.ls.length : Int) < (p.ls.length : Int) := by omega
          have HF := Lib.hid (pileB_yes HZ.out (by have := HM.out; have := HSM.out; omega) HL.out)
          go_wp2
          go_ret
          exact ⟨by rw [HF.out]; rfl, HW.out⟩
    · have hb : ((p.ws.length : Int) != (p.ls.length : Int)) = true := by
        rw [bne_iff_ne]; omega
      have HF := Lib.hid (pileB_same hsame)
      clear hsame
      go_enter Try.func114, Try.ntmps114
      go_wp2_with fail
      refine (HS.out _).mono ?_
      rintro e w' ⟨rfl, rfl⟩
      go_wp2
      go_ret
      exact ⟨by rw [HF.out]; rfl, (Below.refl _ _).alloc (Nat.le_refl _) _⟩
end Go.Proofs.Ythihamjgfemacaa
