/- The contracts of the model's IsBody. What the rows of this chapter ask of the cells that came in; the model's IsBody. -/
import Derived.Test.YtmcjichpeijiaaaBo6
import Derived.Test.YtmcjichpeijiaaaIn
import Derived.OpenShut
namespace Go.Proofs.Ytmcjichpeijiaaa
open Go.RowKit Go.Maps
theorem l1Least_any (a b : Int) (w : World) : Calls Try.prog 113 #[.int .i64 a, .int .i64 b] w fun e w' => e = .returned (.int .i64 (if a < b then a else b)) ∧ w = w' := by
  by_cases h : a < b
  case' pos => rw [if_pos h]
  case' neg => rw [if_neg h]
  all_goals go_enter Try.func113, Try.ntmps113
  all_goals go_wp2
  all_goals go_ret
  all_goals exact ⟨rfl, rfl⟩
/-- What the model has looked at of the first k cells. -/
structure RunB (xs : List (Int × Int)) (k : Nat) : Prop where
  box : ∀ j, j < k → (0 ≤ (xs.getD j (0, 0)).1 ∧ (xs.getD j (0, 0)).1 ≤ 12) ∧ 0 ≤ (xs.getD j (0, 0)).2 ∧ (xs.getD j (0, 0)).2 ≤ 12
  rise : ∀ j, j + 1 < k → bfC (xs.getD j (0, 0)) (xs.getD (j + 1) (0, 0)) = true
theorem RunB.next {xs : List (Int × Int)} {k : Nat} (h : RunB xs k) (hb : (0 ≤ (xs.getD k (0, 0)).1 ∧ (xs.getD k (0, 0)).1 ≤ 12) ∧ 0 ≤ (xs.getD k (0, 0)).2 ∧ (xs.getD k (0, 0)).2 ≤ 12) (hr : k = 0 ∨ ∃ m, k = m + 1 ∧ bfC (xs.getD m (0, 0)) (xs.getD k (0, 0)) = true) : RunB xs (k + 1) := by
  refine ⟨fun j hj => ?_, fun j hj => ?_⟩
  · by_cases e : j = k
    · subst e; exact hb
    · exact h.box j (by omega)
  · by_cases e : j + 1 = k
    · rcases hr with h0 | ⟨m, hm, hb2⟩
      · omega
      · rw [e, show j = m by omega]; exact hb2
    · exact h.rise j (by omega)
theorem BodF.run {xs : List (Int × Int)} (h : BodF xs) : RunB xs xs.length :=
  ⟨fun j hj => by have := h.hi _ (mem_getD hj); omega, (rise_iff xs).1 h.rise⟩
theorem run_bod {xs : List (Int × Int)} (h : RunB xs xs.length) (h1 : 1 ≤ xs.length) (h2 : xs.length ≤ 12) (hx : mnF Prod.fst xs = 0) (hy : mnF Prod.snd xs = 0) : BodF xs ↔ ConnC xs :=
  ⟨fun k => k.conn, fun k => bod_of_min h1 h2 ((rise_iff xs).2 h.rise) hx hy k⟩
theorem min_swap (m x : Int) : (if m < x then m else x) = if x < m then x else m := by split <;> split <;> omega
theorem in_yes {x a b : Int} (h : a ≤ x ∧ x ≤ b) : (decide (a ≤ x) && decide (x ≤ b)) = true := by simp [h]
theorem in_no {x a b : Int} (h : ¬ (a ≤ x ∧ x ≤ b)) : (decide (a ≤ x) && decide (x ≤ b)) = false := by simp; omega
set_option maxRecDepth 100000 in
set_option maxHeartbeats 6400000 in
theorem l8Body_any (v : Value) (xs : List (Int × Int)) (w : World) (hr : LoadRow w v xs) :
    Calls Try.prog 76 #[v] w fun e w' => e = .returned (.bool (bodB xs)) ∧ Below w.heap.size w w' := by
  have HYE := Lib.hid (fun h : BodF xs => show bodB xs = true from (bodB_iff xs).2 h)
  have HNO := Lib.hid (fun h : ¬ BodF xs => show bodB xs = false by cases e : bodB xs with | false => rfl | true => exact absurd ((bodB_iff xs).1 e) h)
  generalize bodB xs = r at *
  by_cases h12 : 1 ≤ xs.length ∧ xs.length ≤ 12
  case neg =>
    have C1 := Lib.hid (fun w => l1In_is (xs.length : Int) 1 12 false (in_no (by omega)) w)
    have HF := Lib.hid (HNO.out (fun h => h12 ⟨h.one, h.short⟩))
    obtain ⟨a, c, rfl, _⟩ := hr
    clear h12
    go_enter Try.func76, Try.ntmps76
    go_wp2_with fail
    refine (C1.out _).mono ?_
    rintro e w' ⟨rfl, rfl⟩
    go_wp2
    go_ret
    exact ⟨by rw [HF.out]; rfl, Below.refl _ _⟩
  have C1 := Lib.hid (fun w => l1In_is (xs.length : Int) 1 12 true (in_yes (by omega)) w)
  have HR := Lib.hid hr
  have HRUN := Lib.hid (fun h : BodF xs => h.run)
  obtain ⟨a, c, rfl, hr⟩ := hr
  rcases hr with h | ⟨g, off, rfl, hg, hc⟩
  · subst h; simp at h12
  have HC := Lib.hid hc
  obtain ⟨c1, c2⟩ := hc 0 (by omega)
  rw [Nat.zero_mul, Nat.add_zero] at c1 c2
  have h0' : (0 : Int) < (xs.length : Int) := by omega
  have C10 := Lib.hid (show mnF Prod.fst (xs.take (max 0 1)) = (xs.getD 0 (0, 0)).1 by cases xs with | nil => simp at h12 | cons x l => simp [mnF])
  have C20 := Lib.hid (show mnF Prod.snd (xs.take (max 0 1)) = (xs.getD 0 (0, 0)).2 by cases xs with | nil => simp at h12 | cons x l => simp [mnF])
  clear hc
  obtain ⟨p, hp⟩ : ∃ p, (xs.getD 0 (0, 0)).1 = p := ⟨_, rfl⟩
  obtain ⟨q, hq⟩ : ∃ q, (xs.getD 0 (0, 0)).2 = q := ⟨_, rfl⟩
  rw [hp] at c1 C10
  rw [hq] at c2 C20
  clear hp hq
  go_enter Try.func76, Try.ntmps76
  go_wp2_with fail
  refine (C1.out _).mono ?_
  rintro e w' ⟨rfl, rfl⟩
  go_wp2
  go_region
  go_wp2
  go_loopw [3, 4, 5] (fun x y i wr => ∃ k : Nat, k ≤ xs.length ∧ i = .int .i64 k ∧ x = .int .i64 (mnF Prod.fst (xs.take (max k 1))) ∧ y = .int .i64 (mnF Prod.snd (xs.take (max k 1))) ∧ Hid (RunB xs k) ∧ Hid (Below w.heap.size w wr)) (fun _ _ i _ => xs.length - (intOf i).toNat)
  case atStart => exact ⟨0, Nat.zero_le _, rfl, by rw [C10.out], by rw [C20.out], Lib.hid ⟨fun j hj => by omega, fun j hj => by omega⟩, Lib.hid (by first | exact Below.refl _ _ | exact lo_drewN (Below.refl _ _) _ | exact drw_b _)⟩
  case round =>
    obtain ⟨k, hk, rfl, rfl, rfl, HRB, HL⟩ := hrel
    clear c1 c2 C1
    by_cases hlt : k < xs.length
    · have hlt' : (k : Int) < (xs.length : Int) := by omega
      obtain ⟨c1, c2⟩ := HC.out k hlt
      have hgr : g < wr.heap.size := Nat.lt_of_lt_of_le hg HL.out.size
      rw [← HL.out.cell (p := ⟨g, off + k * 2, none⟩) hg] at c1
      rw [← HL.out.cell (p := ⟨g, off + k * 2 + 1, none⟩) hg] at c2
      have S1 := Lib.hid (corner_step Prod.fst xs k hlt)
      have S2 := Lib.hid (corner_step Prod.snd xs k hlt)
      have HBX := Lib.hid (fun h : BodF xs => (HRUN.out h).box k hlt)
      have HRI := Lib.hid (fun (h : BodF xs) => (HRUN.out h).rise)
      have HNX := Lib.hid (fun hb hr => HRB.out.next (k := k) hb hr)
      obtain ⟨x, hx⟩ : ∃ x, xs.getD k (0, 0) = x := ⟨_, rfl⟩
      rw [hx] at c1 c2 S1 S2 HBX HNX
      obtain ⟨x1, x2⟩ := x
      simp only at c1 c2 S1 S2
      by_cases b1 : 0 ≤ x1 ∧ x1 ≤ 12
      case neg =>
        have A1 := Lib.hid (fun w => l1In_q x1 0 12 false (in_no b1) w)
        have HF := Lib.hid (HNO.out (fun h => b1 (HBX.out h).1))
        have HX := Lib.hid hx
        clear b1 hx S1 S2
        go_wp2_with fail
        go_quiet ((go_at_call 83; with_reducible exact quiet_all A1.out _))
        go_wp2
        go_ret
        exact ⟨by rw [HF.out]; rfl, lo_drewN HL.out _⟩
      have A1 := Lib.hid (fun w => l1In_q x1 0 12 true (in_yes b1) w)
      by_cases b2 : 0 ≤ x2 ∧ x2 ≤ 12
      case neg =>
        have A2 := Lib.hid (fun w => l1In_q x2 0 12 false (in_no b2) w)
        have HF := Lib.hid (HNO.out (fun h => b2 (HBX.out h).2))
        have HX := Lib.hid hx
        clear b1 b2 hx S1 S2
        go_wp2_with fail
        go_quiet ((go_at_call 83; first | with_reducible exact quiet_all A1.out _ | with_reducible exact quiet_all A2.out _))
        go_wp2
        go_ret
        exact ⟨by rw [HF.out]; rfl, lo_drewN HL.out _⟩
      have A2 := Lib.hid (fun w => l1In_q x2 0 12 true (in_yes b2) w)
      have HNX2 := Lib.hid (HNX.out ⟨b1, b2⟩)
      generalize mnF Prod.fst (xs.take (max k 1)) = m1 at S1 ⊢
      generalize mnF Prod.snd (xs.take (max k 1)) = m2 at S2 ⊢
      by_cases h0 : k = 0
      · subst h0
        have HRn := Lib.hid (HNX2.out (.inl rfl))
        have M1 := Lib.hid (fun w => l1Least_any m1 x1 w)
        have M2 := Lib.hid (fun w => l1Least_any m2 x2 w)
        rw [min_swap, ← S1.out] at M1
        rw [min_swap, ← S2.out] at M2
        obtain ⟨n1, hn1⟩ : ∃ n1, mnF Prod.fst (xs.take (max (0 + 1) 1)) = n1 := ⟨_, rfl⟩
        obtain ⟨n2, hn2⟩ : ∃ n2, mnF Prod.snd (xs.take (max (0 + 1) 1)) = n2 := ⟨_, rfl⟩
        rw [hn1] at M1
        rw [hn2] at M2
        have N1 := Lib.hid hn1
        have N2 := Lib.hid hn2
        clear hn1 hn2 S1 S2
        have HX := Lib.hid hx
        rw [Nat.zero_mul, Nat.add_zero] at c1 c2
        clear b1 b2 hx HNX HNX2
        go_wp2_with fail
        go_quiet ((go_at_call 83; first | with_reducible exact quiet_all A1.out _ | with_reducible exact quiet_all A2.out _))
        go_wp2_with fail
        refine (M1.out _).mono ?_
        rintro e w1 ⟨rfl, rfl⟩
        go_wp2_with fail
        refine (M2.out _).mono ?_
        rintro e w1 ⟨rfl, rfl⟩
        go_wp2
        go_roundw
        case rel =>
          refine ⟨0 + 1, by omega, by go_num, ?_, ?_, HRn, Lib.hid (lo_drewN HL.out _)⟩
          · rw [N1.out]
          · rw [N2.out]
        case measure => simp [intOf]; omega
      · obtain ⟨m, hm⟩ : ∃ m, k = m + 1 := ⟨k - 1, by omega⟩
        have hkm : (k : Int) - 1 = (m : Int) := by omega
        have hpos : (0 : Int) < (k : Int) := by omega
        have hwq : IntKind.i64.wrap (m : Int) = (m : Int) := by rw [IntKind.wrap_i64]; omega
        have hdec : decide (0 < k) = true := decide_eq_true (by omega)
        have hml : (m : Int) < (xs.length : Int) := by omega
        have hmw : IntKind.i64.wrap ((k : Int) - 1) = (m : Int) := by rw [IntKind.wrap_i64]; omega
        obtain ⟨c3, c4⟩ := HC.out m (by omega)
        rw [← HL.out.cell (p := ⟨g, off + m * 2, none⟩) hg] at c3
        rw [← HL.out.cell (p := ⟨g, off + m * 2 + 1, none⟩) hg] at c4
        obtain ⟨b, hb⟩ : ∃ b, bfC (xs.getD m (0, 0)) (x1, x2) = b := ⟨_, rfl⟩
        have HRn := Lib.hid (fun h : b = true => HNX2.out (.inr ⟨m, hm, by rw [hb]; exact h⟩))
        have HFn := Lib.hid (fun h : b = false => HNO.out (fun hB => by
          have := HRI.out hB m (by omega)
          rw [← hm, hx, hb, h] at this
          cases this))
        have CB := Lib.hid (fun w => l8Before_any (xs.getD m (0, 0)).1 (xs.getD m (0, 0)).2 x1 x2 w)
        rw [show bfC ((xs.getD m (0, 0)).1, (xs.getD m (0, 0)).2) (x1, x2) = b from hb] at CB
        generalize (xs.getD m (0, 0)).1 = y1 at c3 CB
        generalize (xs.getD m (0, 0)).2 = y2 at c4 CB
        have M1 := Lib.hid (fun w => l1Least_any m1 x1 w)
        have M2 := Lib.hid (fun w => l1Least_any m2 x2 w)
        rw [min_swap, ← S1.out] at M1
        rw [min_swap, ← S2.out] at M2
        obtain ⟨n1, hn1⟩ : ∃ n1, mnF Prod.fst (xs.take (max (k + 1) 1)) = n1 := ⟨_, rfl⟩
        obtain ⟨n2, hn2⟩ : ∃ n2, mnF Prod.snd (xs.take (max (k + 1) 1)) = n2 := ⟨_, rfl⟩
        rw [hn1] at M1
        rw [hn2] at M2
        have N1 := Lib.hid hn1
        have N2 := Lib.hid hn2
        clear hn1 hn2 S1 S2
        have HX := Lib.hid hx
        have HMK := Lib.hid hm
        clear b1 b2 hx HNX HNX2 hb h0 hm
        have c1' := c1
        have c2' := c2
        go_wp2_with fail
        go_region_held3 (fun w' => w'.cell? ⟨g, off + k * 2, none⟩ = some (.int .i64 x1) ∧ w'.cell? ⟨g, off + k * 2 + 1, none⟩ = some (.int .i64 x2) ∧ w'.cell? ⟨g, off + m * 2, none⟩ = some (.int .i64 y1) ∧ w'.cell? ⟨g, off + m * 2 + 1, none⟩ = some (.int .i64 y2))
          (first | exact ⟨(hl.cell (p := ⟨g, off + k * 2, none⟩) hgr).trans c1, (hl.cell (p := ⟨g, off + k * 2 + 1, none⟩) hgr).trans c2, (hl.cell (p := ⟨g, off + m * 2, none⟩) hgr).trans c3, (hl.cell (p := ⟨g, off + m * 2 + 1, none⟩) hgr).trans c4⟩ | go_keep)
          (first
            | (go_at_call 83; (first | with_reducible refine (A1.out _).mono ?_ | with_reducible refine (A2.out _).mono ?_); rintro e w1 ⟨rfl, rfl⟩)
            | (go_at_call 136; refine (CB.out _).mono ?_; rintro e w1 ⟨rfl, hl⟩))
        have LN := Lib.hid (show Below w.heap.size w w1 from lo_on HL.out (lo_on (drw_b wr) hl))
        have d1 := (lo_on (drw_b wr) hl).cell (p := ⟨g, off + k * 2, none⟩) hgr
        have d2 := (lo_on (drw_b wr) hl).cell (p := ⟨g, off + k * 2 + 1, none⟩) hgr
        rw [c1'] at d1
        rw [c2'] at d2
        clear hl c1 c2 c3 c4 c1' c2'
        cases b with
        | false =>
          have HF := Lib.hid (HFn.out rfl)
          go_wp2
          go_ret
          exact ⟨by rw [HF.out]; rfl, LN.out⟩
        | true =>
          have HRr := Lib.hid (HRn.out rfl)
          go_wp2_with fail
          refine (M1.out _).mono ?_
          rintro e w2 ⟨rfl, rfl⟩
          go_wp2_with fail
          refine (M2.out _).mono ?_
          rintro e w2 ⟨rfl, rfl⟩
          go_wp2
          go_roundw
          case rel =>
            refine ⟨k + 1, by omega, by go_num, ?_, ?_, HRr, LN⟩
            · rw [N1.out]
            · rw [N2.out]
          case measure => simp [intOf]; omega
    · obtain rfl : k = xs.length := by omega
      have hge : ¬ (xs.length : Int) < (xs.length : Int) := by omega
      rw [show xs.take (max xs.length 1) = xs from List.take_of_length_le (by omega)]
      have HG := Lib.hid (fun hx hy => run_bod HRB.out h12.1 h12.2 hx hy)
      have HMI := Lib.hid (fun h : BodF xs => h.mins)
      have CH := Lib.hid (fun (hx : mnF Prod.fst xs = 0) (hy : mnF Prod.snd xs = 0) => l8Hangs_any _ xs wr (HR.out.lo HL.out) (by omega) (((rise_iff xs).2 HRB.out.rise).nodup) (fun c hc => by
        obtain ⟨j, hj, rfl⟩ := getD_mem hc
        have := HRB.out.box j hj
        unfold SmC; omega) (by omega))
      have HCN := Lib.hid (connB_iff xs)
      generalize connB xs = t at *
      obtain ⟨m1, hm1⟩ : ∃ m, mnF Prod.fst xs = m := ⟨_, rfl⟩
      obtain ⟨m2, hm2⟩ : ∃ m, mnF Prod.snd xs = m := ⟨_, rfl⟩
      rw [hm1, hm2] at HG HMI CH ⊢
      clear hm1 hm2
      by_cases e1 : m1 = 0
      · subst e1
        by_cases e2 : m2 = 0
        · subst e2
          have HF := Lib.hid (show t = r from by
            have hh := HG.out rfl rfl
            cases t with
            | true => exact (HYE.out (hh.2 (HCN.out.1 rfl))).symm
            | false => exact (HNO.out (fun h => by have := HCN.out.2 (hh.1 h); cases this)).symm)
          have CH2 := Lib.hid (CH.out rfl rfl)
          clear CH
          go_wp2_with fail
          refine CH2.out.mono ?_
          rintro e w2 ⟨rfl, l2⟩
          go_wp2
          go_ret
          exact ⟨by rw [← HF.out]; rfl, lo_on HL.out l2⟩
        · have HF := Lib.hid (HNO.out (fun h => e2 (HMI.out h).2))
          have e2' : (m2 == 0) = false := by simpa using e2
          go_wp2
          go_ret
          exact ⟨by rw [HF.out]; rfl, HL.out⟩
      · have HF := Lib.hid (HNO.out (fun h => e1 (HMI.out h).1))
        have e1' : (m1 == 0) = false := by simpa using e1
        go_wp2
        go_ret
        exact ⟨by rw [HF.out]; rfl, HL.out⟩
end Go.Proofs.Ytmcjichpeijiaaa
namespace Go.Proofs.Ytmcjichpeijiaaa
open Go.RowKit Go.Maps
theorem pairs_wf {w : World} {a : Option Addr} {len cap : Nat} {zs : List (Int × Int)} (h : IsPairs .i64 w a len cap zs) : WfL zs := by
  obtain ⟨hl, _, _, hd⟩ := h
  intro c hc
  obtain ⟨k, hk, rfl⟩ := getD_mem hc
  rcases hd with ⟨_, h0, _⟩ | ⟨x, _, hp⟩
  · omega
  · have := hp k (by omega)
    exact ⟨bounds_i64 this.wf1, bounds_i64 this.wf2⟩
theorem specIsBody_any (v : Value) (xs : List (Int × Int)) (w : World) (hr : LoadRow w v xs) :
    Calls Try.prog 20 #[v] w fun e w' => e = .returned (.bool (bodB xs)) ∧ Below w.heap.size w w' := by
  have C := Lib.hid (l8Body_any v xs w hr)
  generalize bodB xs = r at *
  clear hr
  go_enter Try.func20, Try.ntmps20
  go_wp2_with fail
  refine C.out.mono ?_
  rintro e w1 ⟨rfl, l1⟩
  go_wp2
  go_ret
  exact ⟨rfl, l1⟩
end Go.Proofs.Ytmcjichpeijiaaa
