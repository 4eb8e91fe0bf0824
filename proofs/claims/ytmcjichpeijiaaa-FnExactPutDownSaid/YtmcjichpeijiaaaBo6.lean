/- The contracts of both functions IsBody. -/
import Derived.Test.YtmcjichpeijiaaaBo5
namespace Go.Proofs.Ytmcjichpeijiaaa
open Go.RowKit Go.Maps
theorem sort_iff (xs : List (Int × Int)) : SortC xs ↔ SortW xs := by
  unfold SortC SortW
  induction xs with
  | nil => simp
  | cons x l ih =>
    rw [List.pairwise_cons, ← ih]
    constructor
    · intro h
      have h2 : ∀ j, j + 1 < l.length → bfC (l.getD (j + 1) (0, 0)) (l.getD j (0, 0)) = false := fun j hj => by simpa using h (j + 1) (by simp only [List.length_cons]; omega)
      refine ⟨fun y hy => ?_, h2⟩
      obtain ⟨k, hk, rfl⟩ := getD_mem hy
      clear hy
      induction k with
      | zero => simpa using h 0 (by simp only [List.length_cons]; omega)
      | succ k ihk =>
        have a1 := ihk (by omega)
        have a2 := h2 k hk
        rw [bfC_not] at *; omega
    · rintro ⟨h1, h2⟩ j hj
      simp only [List.length_cons] at hj
      cases j with
      | zero => simpa using h1 _ (mem_getD (show 0 < l.length by omega))
      | succ j => simpa using h2 j (by omega)
/-- The program's test of a body. -/
theorem bod_prog (xs : List (Int × Int)) : BodF xs ↔ (1 ≤ xs.length ∧ xs.length ≤ 12) ∧ (mnF Prod.fst xs = 0 ∧ mnF Prod.snd xs = 0) ∧ SortC xs ∧ xs.Nodup ∧ ConnC xs := by
  rw [sort_iff]
  constructor
  · intro h
    exact ⟨⟨h.one, h.short⟩, h.mins, h.rise.weak, h.rise.nodup, h.conn⟩
  · rintro ⟨⟨h1, h2⟩, ⟨h3, h4⟩, h5, h6, h7⟩
    exact bod_of_min h1 h2 (h5.rise h6) h3 h4 h7
def WfL (xs : List (Int × Int)) : Prop := ∀ c ∈ xs, WfC c
theorem nn_of {xs : List (Int × Int)} (hw : WfL xs) (h1 : mnF Prod.fst xs = 0) (h2 : mnF Prod.snd xs = 0) : ∀ c ∈ xs, NnC c := fun c hc => by
  have a1 := mnF_le Prod.fst xs c hc
  have a2 := mnF_le Prod.snd xs c hc
  have := hw c hc
  unfold WfC at this
  unfold NnC
  omega
set_option maxRecDepth 100000 in
set_option maxHeartbeats 1600000 in
theorem isBody_any (v : Value) (xs : List (Int × Int)) (w : World) (hr : LoadRow w v xs) (hw : WfL xs) (hn : xs.length ≤ 2000000) :
    Calls Try.prog 22 #[v] w fun e w' => e = .returned (.bool (bodB xs)) ∧ Below w.heap.size w w' := by
  have HY := Lib.hid (bod_prog xs)
  obtain ⟨b1, hb1⟩ : ∃ b, (decide (1 ≤ (xs.length : Int)) && decide ((xs.length : Int) ≤ 12)) = b := ⟨_, rfl⟩
  have C1 := Lib.hid (fun w => isCellCount_any (xs.length : Int) w)
  rw [hb1] at C1
  have HB1 := Lib.hid hb1
  have fin : ∀ r, (r = true ↔ BodF xs) → r = bodB xs := fun r h => by
    cases e : bodB xs with
    | true => exact h.2 ((bodB_iff xs).1 e)
    | false =>
      cases r with
      | false => rfl
      | true => rw [(bodB_iff xs).2 (h.1 rfl)] at e; cases e
  have FIN := Lib.hid fin
  clear fin hb1
  cases b1 with
  | false =>
    have HF := Lib.hid (FIN.out false ⟨fun h => by (cases h), fun h => by
      have h1 := h.one
      have h2 := h.short
      have := HB1.out
      simp at this
      omega⟩)
    obtain ⟨a, c, rfl, _⟩ := hr
    go_enter Try.func22, Try.ntmps22
    go_wp2_with fail
    refine (C1.out _).mono ?_
    rintro e w' ⟨rfl, rfl⟩
    go_wp2
    go_ret
    exact ⟨by rw [← HF.out]; rfl, Below.refl _ _⟩
  | true =>
    have h12 : 1 ≤ xs.length ∧ xs.length ≤ 12 := by have := HB1.out; simp at this; omega
    have CO := Lib.hid (cornerOf_any v xs w hr (by omega) (by omega))
    have ST := Lib.hid (fun w1 (l : Below w.heap.size w w1) => sortedC_any v xs w1 (hr.lo l) h12.1 (by omega))
    have HT := Lib.hid (fun w1 (l : Below w.heap.size w w1) (h1 : mnF Prod.fst xs = 0) (h2 : mnF Prod.snd xs = 0) => hangTogether_any v xs w1 (hr.lo l) (by omega) (nn_of hw h1 h2) (by omega))
    have HP := Lib.hid (propB_iff (SortC xs))
    have HQ := Lib.hid (hangB2_iff xs)
    obtain ⟨a, c, rfl, _⟩ := hr
    obtain ⟨m1, hm1⟩ : ∃ m, mnF Prod.fst xs = m := ⟨_, rfl⟩
    obtain ⟨m2, hm2⟩ : ∃ m, mnF Prod.snd xs = m := ⟨_, rfl⟩
    rw [hm1, hm2] at HT CO HY
    clear hm1 hm2
    generalize propB (SortC xs) = s at *
    generalize hangB2 xs = t at *
    have Q := fun (u : World) => eq_two m1 m2 0 0 u
    by_cases hm : m1 = 0 ∧ m2 = 0
    · obtain ⟨rfl, rfl⟩ := hm
      cases s with
      | false =>
        have HF := Lib.hid (FIN.out false ⟨fun h => by (cases h), fun h => by have := HP.out.2 (HY.out.1 h).2.2.1; cases this⟩)
        go_enter Try.func22, Try.ntmps22
        go_wp2_with fail
        refine (C1.out _).mono ?_
        rintro e w' ⟨rfl, rfl⟩
        go_wp2_with fail
        refine CO.out.mono ?_
        rintro e w1 ⟨rfl, l1⟩
        have L1 := Lib.hid l1
        go_wp2_with fail
        refine (ST.out w1 L1.out).mono ?_
        rintro e w2 ⟨rfl, l2⟩
        go_wp2
        go_ret
        exact ⟨by rw [← HF.out]; rfl, lo_on L1.out l2⟩
      | true =>
        have HF := Lib.hid (FIN.out t ⟨fun h => HY.out.2 ⟨h12, ⟨rfl, rfl⟩, HP.out.1 rfl, HQ.out.1 h⟩, fun h => HQ.out.2 (HY.out.1 h).2.2.2⟩)
        go_enter Try.func22, Try.ntmps22
        go_wp2_with fail
        refine (C1.out _).mono ?_
        rintro e w' ⟨rfl, rfl⟩
        go_wp2_with fail
        refine CO.out.mono ?_
        rintro e w1 ⟨rfl, l1⟩
        have L1 := Lib.hid l1
        go_wp2_with fail
        refine (ST.out w1 L1.out).mono ?_
        rintro e w2 ⟨rfl, l2⟩
        have L2 := Lib.hid (lo_on L1.out l2)
        go_wp2_with fail
        refine (HT.out w2 L2.out (by first | trivial | rfl) (by first | trivial | rfl)).mono ?_
        rintro e w3 ⟨rfl, l3⟩
        go_wp2
        go_ret
        exact ⟨by rw [← HF.out]; rfl, lo_on L2.out l3⟩
    · have hq : ((m1 == 0) && (m2 == 0)) = false := by
        cases e : ((m1 == 0) && (m2 == 0)) with
        | false => rfl
        | true => exact absurd (by simpa using e) hm
      rw [hq] at Q
      have HF := Lib.hid (FIN.out false ⟨fun h => by (cases h), fun h => (hm (HY.out.1 h).2.1).elim⟩)
      clear hm hq
      go_enter Try.func22, Try.ntmps22
      go_wp2_with fail
      refine (C1.out _).mono ?_
      rintro e w' ⟨rfl, rfl⟩
      go_wp2_with fail
      refine CO.out.mono ?_
      rintro e w1 ⟨rfl, l1⟩
      go_wp2
      go_ret
      exact ⟨by rw [← HF.out]; rfl, l1⟩
end Go.Proofs.Ytmcjichpeijiaaa
