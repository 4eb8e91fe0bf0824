/- The contracts of both sides' SafeSets. -/
import Derived.Test.YtcfbnadefdcjaaaRg8
import Derived.Test.YtcfbnadefdcjaaaRfT
import Derived.Test.YtcfbnadefdcjaaaAsc1
namespace Go.Proofs.Ytcfbnadefdcjaaa
open Go.RowKit
/-- How many of the first numbers are those of safe sets. -/
def cntS (sf : List (Int × Int) → Bool) (row : List (Int × Int)) (k : Nat) : Nat := (List.range k).countP (fun c => sf (deckL row c))
theorem cntS_succ (sf : List (Int × Int) → Bool) (row : List (Int × Int)) (k : Nat) : cntS sf row (k + 1) = cntS sf row k + (if sf (deckL row k) = true then 1 else 0) := by
  unfold cntS
  rw [List.range_succ, List.countP_append]
  congr 1
  by_cases h : sf (deckL row k) = true <;> simp [h]
theorem cntS_le (sf : List (Int × Int) → Bool) (row : List (Int × Int)) (k : Nat) : cntS sf row k ≤ k := by
  unfold cntS
  exact Nat.le_trans List.countP_le_length (by simp)
/-- How many of the first lists are safe sets. -/
def cntL2 (sf : List (Int × Int) → Bool) (row : List (Int × Int)) (k : Nat) : Nat := ((everyF row.length).take k).countP (fun xs => sf (deckL row (codeF xs)))
theorem cntL2_succ (sf : List (Int × Int) → Bool) (row : List (Int × Int)) (k : Nat) (h : k < (everyF row.length).length) : cntL2 sf row (k + 1) = cntL2 sf row k + (if sf (deckL row (codeF ((everyF row.length).getD k []))) = true then 1 else 0) := by
  unfold cntL2
  rw [List.take_add_one, List.getElem?_eq_getElem h, List.countP_append]
  congr 1
  simp only [List.getD, List.getElem?_eq_getElem h, Option.getD_some, Option.toList_some]
  by_cases h2 : sf (deckL row (codeF (everyF row.length)[k])) = true <;> simp [h2]
theorem cntL2_le (sf : List (Int × Int) → Bool) (row : List (Int × Int)) (k : Nat) : cntL2 sf row k ≤ k := by
  unfold cntL2
  exact Nat.le_trans List.countP_le_length (by rw [List.length_take]; omega)
theorem cnt_same (sf : List (Int × Int) → Bool) {row : List (Int × Int)} (h8 : row.length ≤ 8) : cntL2 sf row (everyF row.length).length = cntS sf row (2 ^ row.length) := by
  have h := (code_perm h8).countP_eq (fun c => sf (deckL row c))
  rw [List.countP_map] at h
  unfold cntL2 cntS
  rw [List.take_length]
  exact h
def ssF (a b o : Int) (row : List (Int × Int)) : Nat := if cargoB a b o row = true then cntS (safeF a b o) row (2 ^ row.length) else 0
set_option maxRecDepth 100000 in
set_option maxHeartbeats 3200000 in
theorem specSets_any (a b o : Int) (v : Value) (row : List (Int × Int)) (w : World) (hr : LoadRow w v row) :
    Calls Try.prog 33 #[.agg #[.int .i64 a, .int .i64 b, .int .i64 o], v] w fun e w' => e = .returned (.tuple #[.int .i64 (ssF a b o row : Nat), .bool (cargoB a b o row)]) ∧ Below w.heap.size w w' := by
  unfold ssF
  have C1 := Lib.hid (fun w1 (l : Below w.heap.size w w1) => l10Cargo_any a b o v row w1 (hr.lo l))
  cases hcb : cargoB a b o row with
  | false =>
    rw [hcb] at C1
    obtain ⟨av, cv, rfl, _⟩ := hr
    clear hcb
    go_enter Try.func33, Try.ntmps33
    go_wp2_with fail
    refine (C1.out _ (below_one _ _)).mono ?_
    rintro e w1 ⟨rfl, l⟩
    have L1 := Lib.hid ((below_one w (.cells #[.int .i64 a, .int .i64 b, .int .i64 o] 25)).trans (l.mono (by simp)))
    clear l C1
    go_wp2
    go_ret2
    exact ⟨rfl, L1.out⟩
  | true =>
    rw [hcb] at C1
    obtain ⟨_, h8, _⟩ := (cargoB_iff _ _ _ _).1 hcb
    have SF := Lib.hid (fun c (hc : c < 256) w1 (l : Below w.heap.size w w1) => l10Safe_any a b o v row c w1 (hr.lo l) hcb hc)
    have CS := Lib.hid (fun k => cntS_succ (safeF a b o) row k)
    have CL := Lib.hid (fun k => cntS_le (safeF a b o) row k)
    have hp8 : 2 ^ row.length ≤ 256 := by have := Nat.pow_le_pow_right (n := 2) (by decide) h8; omega
    obtain ⟨K, hK⟩ : ∃ K, 2 ^ row.length = K := ⟨_, rfl⟩
    have hKI : ((2 : Int) ^ row.length) = (K : Int) := by rw [← hK]; simp
    rw [hK] at hp8
    simp only [if_true]
    rw [hK]
    have h0 : cntS (safeF a b o) row 0 = 0 := rfl
    have hl0 : (0 : Int) ≤ (row.length : Int) := by omega
    have hl64 : (row.length : Int) ≤ 64 := by omega
    have hw1 : IntKind.i64.wrap (K : Int) = K := by rw [IntKind.wrap_i64]; omega
    generalize hcn : cntS (safeF a b o) row = cn at *
    obtain ⟨sg, hsg⟩ : ∃ sg : Nat → Bool, ∀ c, safeF a b o (deckL row c) = sg c := ⟨fun c => safeF a b o (deckL row c), fun _ => rfl⟩
    have CS2 := Lib.hid (fun k => (CS.out k).trans (by rw [hsg k]))
    have SF2 := Lib.hid (fun c (hc : c < 256) w1 (l : Below w.heap.size w w1) => by have := SF.out c hc w1 l; rw [hsg c] at this; exact this)
    obtain ⟨av, cv, rfl, _⟩ := hr
    clear hcb CS SF hK hcn hsg
    go_enter Try.func33, Try.ntmps33
    go_wp2_with fail
    refine (C1.out _ (below_one _ _)).mono ?_
    rintro e w1 ⟨rfl, l⟩
    have L1 := Lib.hid ((below_one w (.cells #[.int .i64 a, .int .i64 b, .int .i64 o] 25)).trans (l.mono (by simp)))
    have BX := Lib.hid (show Cel3R w1 w.heap.size (.int .i64 a) (.int .i64 b) (.int .i64 o) from (cel3R_new w _ _ _ 25).lo l)
    clear l C1
    go_wp2
    go_loopw [6, 7] (fun x i wr => ∃ k : Nat, k ≤ K ∧ x = .int .i64 (cn k : Nat) ∧ i = .int .i64 k ∧ Hid (Below w1.heap.size w1 wr)) (fun _ i _ => K - (intOf i).toNat)
    case atStart => exact ⟨0, Nat.zero_le _, by rw [h0]; rfl, rfl, Lib.hid (Below.refl _ _)⟩
    case round =>
      obtain ⟨k, hk, rfl, rfl, HW⟩ := hrel
      by_cases hlt : k < K
      · have hlt' : (k : Int) < (K : Int) := by omega
        obtain ⟨_, k0, k1, k2⟩ := BX.out.lo HW.out
        have LQ := Lib.hid (lo_on L1.out HW.out)
        have S1 := Lib.hid (SF2.out k (by omega) wr LQ.out)
        have hcs := CS2.out k
        have hcl := CL.out k
        obtain ⟨x, hx⟩ : ∃ x, cn k = x := ⟨_, rfl⟩
        obtain ⟨y, hy⟩ : ∃ y, cn (k + 1) = y := ⟨_, rfl⟩
        have HY := Lib.hid hy
        rw [hx, hy] at hcs
        rw [hx] at hcl ⊢
        obtain ⟨r, hrr⟩ : ∃ r, sg k = r := ⟨_, rfl⟩
        rw [hrr] at S1 hcs
        clear hx hy hrr
        cases r with
        | false =>
          simp only [Bool.false_eq_true, if_false, Nat.add_zero] at hcs
          subst hcs
          go_wp2_with fail
          refine S1.out.mono ?_
          rintro e w2 ⟨rfl, l⟩
          have LZ := Lib.hid (lo_on HW.out l)
          clear l S1 k0 k1 k2
          go_wp2
          go_roundw
          case rel => exact ⟨k + 1, by omega, by rw [HY.out], by go_num, LZ⟩
          case measure => simp [intOf]; omega
        | true =>
          simp only [if_true] at hcs
          have hxy : (x : Int) + 1 = (y : Int) := by omega
          have HXY := Lib.hid hxy
          have hwx : IntKind.i64.wrap ((x : Int) + 1) = (y : Int) := by rw [hxy]; exact (wr_64 (by omega) (by omega)).1
          clear hcs hxy
          go_wp2_with fail
          refine S1.out.mono ?_
          rintro e w2 ⟨rfl, l⟩
          have LZ := Lib.hid (lo_on HW.out l)
          clear l S1 k0 k1 k2
          go_wp2
          go_roundw
          case rel => exact ⟨k + 1, by omega, by rw [HY.out], by go_num, LZ⟩
          case measure => simp [intOf]; omega
      · obtain rfl : k = K := by omega
        have hge : ¬ (k : Int) < (k : Int) := by omega
        have LZ := Lib.hid (lo_on L1.out HW.out)
        go_wp2
        go_ret2
        exact ⟨rfl, LZ.out⟩
end Go.Proofs.Ytcfbnadefdcjaaa
