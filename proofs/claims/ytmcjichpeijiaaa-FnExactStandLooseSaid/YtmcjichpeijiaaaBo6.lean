/- The least corner of cells; the contracts of both functions IsBody. The contracts of both functions IsBody. -/
import Derived.Test.YtmcjichpeijiaaaBo2
import Derived.Test.YtmcjichpeijiaaaBo4
import Derived.Test.YtmcjichpeijiaaaSpec1
namespace Go.Proofs.Ytmcjichpeijiaaa
open Go.RowKit Go.Maps
def Cel2 (w : World) (b : Nat) (o : Int × Int) : Prop := b < w.heap.size ∧ w.cell? ⟨b, 0, none⟩ = some (.int .i64 o.1) ∧ w.cell? ⟨b, 1, none⟩ = some (.int .i64 o.2) ∧ w.frozen? ⟨b, 0, none⟩ = false ∧ w.frozen? ⟨b, 1, none⟩ = false
theorem Cel2.lo {w w' : World} {b : Nat} {o : Int × Int} (h : Cel2 w b o) (l : Below w.heap.size w w') : Cel2 w' b o := by
  obtain ⟨h0, h1, h2, h3, h4⟩ := h
  exact ⟨Nat.lt_of_lt_of_le h0 l.size, by rw [l.cell (p := ⟨b, 0, none⟩) h0]; exact h1, by rw [l.cell (p := ⟨b, 1, none⟩) h0]; exact h2, by rw [l.frozen (p := ⟨b, 0, none⟩) h0]; exact h3, by rw [l.frozen (p := ⟨b, 1, none⟩) h0]; exact h4⟩
theorem cel2_new (w : World) (x y : Int) (t : TypeId) : Cel2 (w.alloc (.cells #[.int .i64 x, .int .i64 y] t)) w.heap.size (x, y) :=
  ⟨by simp, by rw [World.cell?_alloc_at _ _ _ _ rfl]; rfl, by rw [World.cell?_alloc_at _ _ _ _ rfl]; rfl, World.frozen?_alloc_at _ _ _ _ rfl, World.frozen?_alloc_at _ _ _ _ rfl⟩
/-- A fraction is stored. -/
theorem Cel2.put {w : World} {b : Nat} {o : Int × Int} (h : Cel2 w b o) (x y : Int) : Cel2 ((w.setCell ⟨b, 0, none⟩ (.int .i64 x)).setCell ⟨b, 1, none⟩ (.int .i64 y)) b (x, y) := by
  obtain ⟨h0, h1, h2, h3, h4⟩ := h
  have TS := two_set w b 0 (.int .i64 x) (.int .i64 y) h1 h2
  obtain ⟨q0, q1, _⟩ := TS
  rw [Nat.zero_add] at q0 q1
  exact ⟨by simpa using h0, q0, q1, by rw [World.frozen?_setCell, World.frozen?_setCell]; exact h3, by rw [World.frozen?_setCell, World.frozen?_setCell]; exact h4⟩
theorem Cel2.far {w : World} {b : Nat} {o : Int × Int} (h : Cel2 w b o) {c : Nat} (hc : b ≠ c) (u v : Value) : Cel2 ((w.setCell ⟨c, 0, none⟩ u).setCell ⟨c, 1, none⟩ v) b o := by
  obtain ⟨h0, h1, h2, h3, h4⟩ := h
  have ne : ∀ i j, (⟨c, i, none⟩ : Addr) ≠ ⟨b, j, none⟩ := fun i j hh => hc (congrArg Addr.block hh).symm
  refine ⟨by simpa using h0, ?_, ?_, by rw [World.frozen?_setCell, World.frozen?_setCell]; exact h3, by rw [World.frozen?_setCell, World.frozen?_setCell]; exact h4⟩
  · rw [World.cell?_setCell_other _ _ _ _ (ne 1 0), World.cell?_setCell_other _ _ _ _ (ne 0 0)]; exact h1
  · rw [World.cell?_setCell_other _ _ _ _ (ne 1 1), World.cell?_setCell_other _ _ _ _ (ne 0 1)]; exact h2
theorem corner_step (f : Int × Int → Int) (xs : List (Int × Int)) (k : Nat) (hk : k < xs.length) : mnF f (xs.take (max (k + 1) 1)) = if f (xs.getD k (0, 0)) < mnF f (xs.take (max k 1)) then f (xs.getD k (0, 0)) else mnF f (xs.take (max k 1)) := by
  by_cases h : k = 0
  · subst h
    cases xs with
    | nil => simp at hk
    | cons x l => simp [mnF]
  · rw [show max (k + 1) 1 = k + 1 by omega, show max k 1 = k by omega, mnF_take f xs k hk (by omega)]
    split <;> omega
set_option maxHeartbeats 1600000 in
theorem cornerOf_any (v : Value) (xs : List (Int × Int)) (w : World) (hr : LoadRow w v xs) (h0 : 0 < xs.length) (hn : xs.length ≤ 1000) :
    Calls Try.prog 79 #[v] w fun e w' => e = .returned (.agg #[.int .i64 (mnF Prod.fst xs), .int .i64 (mnF Prod.snd xs)]) ∧ Below w.heap.size w w' := by
  obtain ⟨a, c, rfl, hr⟩ := hr
  rcases hr with h | ⟨g, off, rfl, hg, hc⟩
  · subst h; simp at h0
  have HC := Lib.hid hc
  obtain ⟨c1, c2⟩ := hc 0 h0
  rw [Nat.zero_mul, Nat.add_zero] at c1 c2
  have h0' : (0 : Int) < (xs.length : Int) := by omega
  have C10 := Lib.hid (show mnF Prod.fst (xs.take (max 0 1)) = (xs.getD 0 (0, 0)).1 by cases xs with | nil => simp at h0 | cons x l => simp [mnF])
  have C20 := Lib.hid (show mnF Prod.snd (xs.take (max 0 1)) = (xs.getD 0 (0, 0)).2 by cases xs with | nil => simp at h0 | cons x l => simp [mnF])
  clear hc
  obtain ⟨p, hp⟩ : ∃ p, (xs.getD 0 (0, 0)).1 = p := ⟨_, rfl⟩
  obtain ⟨q, hq⟩ : ∃ q, (xs.getD 0 (0, 0)).2 = q := ⟨_, rfl⟩
  rw [hp] at c1 C10
  rw [hq] at c2 C20
  clear hp hq
  obtain ⟨W1, hW1⟩ : ∃ W1, w.alloc (.cells #[.int .i64 0, .int .i64 0] 29) = W1 := ⟨_, rfl⟩
  have c1' : W1.cell? ⟨g, off, none⟩ = some (.int .i64 p) := by rw [← hW1, (below_new w _).cell (p := ⟨g, off, none⟩) hg]; exact c1
  have c2' : W1.cell? ⟨g, off + 1, none⟩ = some (.int .i64 q) := by rw [← hW1, (below_new w _).cell (p := ⟨g, off + 1, none⟩) hg]; exact c2
  have R1 := Lib.hid (show Cel2 W1 w.heap.size (0, 0) by rw [← hW1]; exact cel2_new _ _ _ _)
  have L1 := Lib.hid (show Below w.heap.size w W1 by rw [← hW1]; exact below_new _ _)
  have hz1 : W1.heap.size = w.heap.size + 1 := by rw [← hW1]; simp
  have HZ1 := Lib.hid hz1
  clear hz1
  go_enter Try.func79, Try.ntmps79
  go_wp2
  clear hW1 c1 c2 c1' c2'
  have R2 := Lib.hid (R1.out.lo (below_new W1 (.cells #[.int .i64 p, .int .i64 q] 29)))
  have K2 := Lib.hid (show Cel2 (W1.alloc (.cells #[.int .i64 p, .int .i64 q] 29)) W1.heap.size (p, q) from cel2_new _ _ _ _)
  have L2 := Lib.hid (show Below w.heap.size w (W1.alloc (.cells #[.int .i64 p, .int .i64 q] 29)) from L1.out.alloc L1.out.size _)
  go_loopw [11] (fun x wr => ∃ k : Nat, k ≤ xs.length ∧ x = .int .i64 k ∧ Hid (Cel2 wr w.heap.size (0, 0)) ∧ Hid (Cel2 wr W1.heap.size (mnF Prod.fst (xs.take (max k 1)), mnF Prod.snd (xs.take (max k 1)))) ∧ Hid (Below w.heap.size w wr)) (fun x _ => xs.length - (intOf x).toNat)
  case atStart => exact ⟨0, Nat.zero_le _, rfl, R2, Lib.hid (by rw [C10.out, C20.out]; exact K2.out), L2⟩
  case round =>
    obtain ⟨k, hk, rfl, HR, HK, HL⟩ := hrel
    clear R1 R2 K2 L2 L1
    by_cases hlt : k < xs.length
    · have hlt' : (k : Int) < (xs.length : Int) := by omega
      obtain ⟨c1, c2⟩ := HC.out k hlt
      rw [← HL.out.cell (p := ⟨g, off + k * 2, none⟩) hg] at c1
      rw [← HL.out.cell (p := ⟨g, off + k * 2 + 1, none⟩) hg] at c2
      have S1 := Lib.hid (corner_step Prod.fst xs k hlt)
      have S2 := Lib.hid (corner_step Prod.snd xs k hlt)
      generalize mnF Prod.fst (xs.take (max k 1)) = m1 at S1 HK
      generalize mnF Prod.snd (xs.take (max k 1)) = m2 at S2 HK
      generalize (xs.getD k (0, 0)).1 = x1 at c1 S1
      generalize (xs.getD k (0, 0)).2 = x2 at c2 S2
      obtain ⟨WB, hWB⟩ : ∃ X, wr.alloc (.cells #[.int .i64 x1, .int .i64 x2] 29) = X := ⟨_, rfl⟩
      have BK := Lib.hid (show Cel2 WB W1.heap.size (m1, m2) by rw [← hWB]; exact HK.out.lo (below_new _ _))
      have BR := Lib.hid (show Cel2 WB w.heap.size (0, 0) by rw [← hWB]; exact HR.out.lo (below_new _ _))
      have LB := Lib.hid (show Below w.heap.size w WB by rw [← hWB]; exact HL.out.alloc HL.out.size _)
      obtain ⟨_, b1, b2, f1, f2⟩ := BK.out
      obtain ⟨_, e1, e2, _, _⟩ := (show Cel2 WB wr.heap.size (x1, x2) by rw [← hWB]; exact cel2_new _ _ _ _)
      simp only at b1 b2 e1 e2
      have hzz := HZ1.out
      have NK := Lib.hid (BK.out.put (if x1 < m1 then x1 else m1) (if x2 < m2 then x2 else m2))
      have NR := Lib.hid (BR.out.far (c := W1.heap.size) (by omega) (.int .i64 (if x1 < m1 then x1 else m1)) (.int .i64 (if x2 < m2 then x2 else m2)))
      have NL := Lib.hid ((LB.out.setCell (p := ⟨W1.heap.size, 0, none⟩) (by simp only; omega) (.int .i64 (if x1 < m1 then x1 else m1))).setCell (p := ⟨W1.heap.size, 1, none⟩) (by simp only; omega) (.int .i64 (if x2 < m2 then x2 else m2)))
      clear hzz HR HK HL BK BR LB
      by_cases h1 : x1 < m1
      · rw [if_pos h1] at S1 NK NR NL
        by_cases h2 : x2 < m2
        case' pos => rw [if_pos h2] at S2 NK NR NL
        case' neg => rw [if_neg h2] at S2 NK NR NL
        all_goals
          (go_wp2
           clear hWB
           go_roundw
           case rel => exact ⟨k + 1, by omega, by go_num, NR, Lib.hid (by rw [S1.out, S2.out]; exact NK.out), NL⟩
           case measure => simp [intOf]; omega)
      · rw [if_neg h1] at S1 NK NR NL
        by_cases h2 : x2 < m2
        case' pos => rw [if_pos h2] at S2 NK NR NL
        case' neg => rw [if_neg h2] at S2 NK NR NL
        all_goals
          (go_wp2
           clear hWB
           go_roundw
           case rel => exact ⟨k + 1, by omega, by go_num, NR, Lib.hid (by rw [S1.out, S2.out]; exact NK.out), NL⟩
           case measure => simp [intOf]; omega)
    · obtain rfl : k = xs.length := by omega
      have hge : ¬ (xs.length : Int) < (xs.length : Int) := by omega
      rw [show xs.take (max xs.length 1) = xs from List.take_of_length_le (by omega)] at HK
      obtain ⟨m1, hm1⟩ : ∃ m, mnF Prod.fst xs = m := ⟨_, rfl⟩
      obtain ⟨m2, hm2⟩ : ∃ m, mnF Prod.snd xs = m := ⟨_, rfl⟩
      rw [hm1, hm2] at HK
      have HM1 := Lib.hid hm1
      have HM2 := Lib.hid hm2
      clear hm1 hm2
      obtain ⟨_, b1, b2, _, _⟩ := HK.out
      obtain ⟨_, e1, e2, f1, f2⟩ := HR.out
      simp only at b1 b2 e1 e2
      have NR := HR.out.put m1 m2
      have NL := Lib.hid ((HL.out.setCell (p := ⟨w.heap.size, 0, none⟩) (Nat.le_refl _) (.int .i64 m1)).setCell (p := ⟨w.heap.size, 1, none⟩) (Nat.le_refl _) (.int .i64 m2))
      go_wp2
      obtain ⟨_, r1, r2, _, _⟩ := NR
      simp only at r1 r2
      exact bodyPost_ret (v := .agg #[.int .i64 m1, .int .i64 m2]) (by simp [results, Try.results79, go_sem, r1, r2]) rfl ⟨by rw [HM1.out, HM2.out], NL.out⟩
end Go.Proofs.Ytmcjichpeijiaaa
namespace Go.Proofs.Ytmcjichpeijiaaa
open Go.RowKit Go.Maps
theorem sort_iff (xs : List (Int × Int)) : SortC xs ↔ SortW xs := by
  unfold SortC SortW
  induction xs with
  | nil => simp
  | cons x l ih =>
    rw [List.pairwise_cons, ← ih]
    constructor
    · intro h
      have h2 : ∀ j, j + 1 < l.length → bfC (l.getD (j + 1) (0, 0)) (l.getD j (0, 0)) = false := fun j hj => by simpa using h (j + 1) (by simp only [List.length_cons]; omega)
      refine ⟨fun y hy => ?_, h2⟩
      obtain ⟨k, hk, rfl⟩ := getD_mem hy
      clear hy
      induction k with
      | zero => simpa using h 0 (by simp only [List.length_cons]; omega)
      | succ k ihk =>
        have a1 := ihk (by omega)
        have a2 := h2 k hk
        rw [bfC_not] at *; omega
    · rintro ⟨h1, h2⟩ j hj
      simp only [List.length_cons] at hj
      cases j with
      | zero => simpa using h1 _ (mem_getD (show 0 < l.length by omega))
      | succ j => simpa using h2 j (by omega)
/-- The program's test of a body. -/
theorem bod_prog (xs : List (Int × Int)) : BodF xs ↔ (1 ≤ xs.length ∧ xs.length ≤ 12) ∧ (mnF Prod.fst xs = 0 ∧ mnF Prod.snd xs = 0) ∧ SortC xs ∧ xs.Nodup ∧ ConnC xs := by
  rw [sort_iff]
  constructor
  · intro h
    exact ⟨⟨h.one, h.short⟩, h.mins, h.rise.weak, h.rise.nodup, h.conn⟩
  · rintro ⟨⟨h1, h2⟩, ⟨h3, h4⟩, h5, h6, h7⟩
    exact bod_of_min h1 h2 (h5.rise h6) h3 h4 h7
def WfL (xs : List (Int × Int)) : Prop := ∀ c ∈ xs, WfC c
theorem nn_of {xs : List (Int × Int)} (hw : WfL xs) (h1 : mnF Prod.fst xs = 0) (h2 : mnF Prod.snd xs = 0) : ∀ c ∈ xs, NnC c := fun c hc => by
  have a1 := mnF_le Prod.fst xs c hc
  have a2 := mnF_le Prod.snd xs c hc
  have := hw c hc
  unfold WfC at this
  unfold NnC
  omega
set_option maxRecDepth 100000 in
set_option maxHeartbeats 1600000 in
theorem isBody_any (v : Value) (xs : List (Int × Int)) (w : World) (hr : LoadRow w v xs) (hw : WfL xs) (hn : xs.length ≤ 2000000) :
    Calls Try.prog 22 #[v] w fun e w' => e = .returned (.bool (bodB xs)) ∧ Below w.heap.size w w' := by
  have HY := Lib.hid (bod_prog xs)
  obtain ⟨b1, hb1⟩ : ∃ b, (decide (1 ≤ (xs.length : Int)) && decide ((xs.length : Int) ≤ 12)) = b := ⟨_, rfl⟩
  have C1 := Lib.hid (fun w => isCellCount_any (xs.length : Int) w)
  rw [hb1] at C1
  have HB1 := Lib.hid hb1
  have fin : ∀ r, (r = true ↔ BodF xs) → r = bodB xs := fun r h => by
    cases e : bodB xs with
    | true => exact h.2 ((bodB_iff xs).1 e)
    | false =>
      cases r with
      | false => rfl
      | true => rw [(bodB_iff xs).2 (h.1 rfl)] at e; cases e
  have FIN := Lib.hid fin
  clear fin hb1
  cases b1 with
  | false =>
    have HF := Lib.hid (FIN.out false ⟨fun h => by (cases h), fun h => by
      have h1 := h.one
      have h2 := h.short
      have := HB1.out
      simp at this
      omega⟩)
    obtain ⟨a, c, rfl, _⟩ := hr
    go_enter Try.func22, Try.ntmps22
    go_wp2_with fail
    refine (C1.out _).mono ?_
    rintro e w' ⟨rfl, rfl⟩
    go_wp2
    go_ret
    exact ⟨by rw [← HF.out]; rfl, Below.refl _ _⟩
  | true =>
    have h12 : 1 ≤ xs.length ∧ xs.length ≤ 12 := by have := HB1.out; simp at this; omega
    have CO := Lib.hid (cornerOf_any v xs w hr (by omega) (by omega))
    have ST := Lib.hid (fun w1 (l : Below w.heap.size w w1) => sortedC_any v xs w1 (hr.lo l) h12.1 (by omega))
    have HT := Lib.hid (fun w1 (l : Below w.heap.size w w1) (h1 : mnF Prod.fst xs = 0) (h2 : mnF Prod.snd xs = 0) => hangTogether_any v xs w1 (hr.lo l) (by omega) (nn_of hw h1 h2) (by omega))
    have HP := Lib.hid (propB_iff (SortC xs))
    have HQ := Lib.hid (hangB2_iff xs)
    obtain ⟨a, c, rfl, _⟩ := hr
    obtain ⟨m1, hm1⟩ : ∃ m, mnF Prod.fst xs = m := ⟨_, rfl⟩
    obtain ⟨m2, hm2⟩ : ∃ m, mnF Prod.snd xs = m := ⟨_, rfl⟩
    rw [hm1, hm2] at HT CO HY
    clear hm1 hm2
    generalize propB (SortC xs) = s at *
    generalize hangB2 xs = t at *
    have Q := fun (u : World) => eq_two m1 m2 0 0 u
    by_cases hm : m1 = 0 ∧ m2 = 0
    · obtain ⟨rfl, rfl⟩ := hm
      cases s with
      | false =>
        have HF := Lib.hid (FIN.out false ⟨fun h => by (cases h), fun h => by have := HP.out.2 (HY.out.1 h).2.2.1; cases this⟩)
        go_enter Try.func22, Try.ntmps22
        go_wp2_with fail
        refine (C1.out _).mono ?_
        rintro e w' ⟨rfl, rfl⟩
        go_wp2_with fail
        refine CO.out.mono ?_
        rintro e w1 ⟨rfl, l1⟩
        have L1 := Lib.hid l1
        go_wp2_with fail
        refine (ST.out w1 L1.out).mono ?_
        rintro e w2 ⟨rfl, l2⟩
        go_wp2
        go_ret
        exact ⟨by rw [← HF.out]; rfl, lo_on L1.out l2⟩
      | true =>
        have HF := Lib.hid (FIN.out t ⟨fun h => HY.out.2 ⟨h12, ⟨rfl, rfl⟩, HP.out.1 rfl, HQ.out.1 h⟩, fun h => HQ.out.2 (HY.out.1 h).2.2.2⟩)
        go_enter Try.func22, Try.ntmps22
        go_wp2_with fail
        refine (C1.out _).mono ?_
        rintro e w' ⟨rfl, rfl⟩
        go_wp2_with fail
        refine CO.out.mono ?_
        rintro e w1 ⟨rfl, l1⟩
        have L1 := Lib.hid l1
        go_wp2_with fail
        refine (ST.out w1 L1.out).mono ?_
        rintro e w2 ⟨rfl, l2⟩
        have L2 := Lib.hid (lo_on L1.out l2)
        go_wp2_with fail
        refine (HT.out w2 L2.out (by first | trivial | rfl) (by first | trivial | rfl)).mono ?_
        rintro e w3 ⟨rfl, l3⟩
        go_wp2
        go_ret
        exact ⟨by rw [← HF.out]; rfl, lo_on L2.out l3⟩
    · have hq : ((m1 == 0) && (m2 == 0)) = false := by
        cases e : ((m1 == 0) && (m2 == 0)) with
        | false => rfl
        | true => exact absurd (by simpa using e) hm
      rw [hq] at Q
      have HF := Lib.hid (FIN.out false ⟨fun h => by (cases h), fun h => (hm (HY.out.1 h).2.1).elim⟩)
      clear hm hq
      go_enter Try.func22, Try.ntmps22
      go_wp2_with fail
      refine (C1.out _).mono ?_
      rintro e w' ⟨rfl, rfl⟩
      go_wp2_with fail
      refine CO.out.mono ?_
      rintro e w1 ⟨rfl, l1⟩
      go_wp2
      go_ret
      exact ⟨by rw [← HF.out]; rfl, l1⟩
end Go.Proofs.Ytmcjichpeijiaaa
