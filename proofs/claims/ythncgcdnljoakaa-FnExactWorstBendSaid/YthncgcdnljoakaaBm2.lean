/- The contracts of the model's and of the program's tests of rows on beams. -/
import Derived.Test.YthncgcdnljoakaaBm1
import Derived.Test.YthncgcdnljoakaaSpec1
namespace Go.Proofs.Ythncgcdnljoakaa
open Go.RowKit
theorem onB_parts (p : BeamV) (xs : List (Int × Int)) : onB p xs = (beamB p && rowB xs && onL p xs) := rfl
theorem onL_iff (p : BeamV) (xs : List (Int × Int)) : onL p xs = true ↔ ∀ j, j < xs.length → (xs.getD j (0, 0)).1 ≤ p.l := by
  unfold onL
  rw [List.all_eq_true]
  simp only [decide_eq_true_eq]
  exact ⟨fun h j hj => h _ (mem_getD hj), fun h x hx => by obtain ⟨j, hj, rfl⟩ := getD_mem hx; exact h j hj⟩
theorem onL_no {p : BeamV} {xs : List (Int × Int)} (j : Nat) (hj : j < xs.length) (h : p.l < (xs.getD j (0, 0)).1) : onL p xs = false := by
  cases hq : onL p xs with
  | false => rfl
  | true => have := (onL_iff p xs).1 hq j hj; omega
set_option maxRecDepth 100000 in
set_option maxHeartbeats 1600000 in
theorem l6On_any (p : BeamV) (v : Value) (xs : List (Int × Int)) (w : World) (hr : LoadRow w v xs) :
    Calls Try.prog 78 #[.agg #[.int .i64 p.l, .int .i64 p.a, .int .i64 p.b], v] w fun e w' => e = .returned (.bool (onB p xs)) ∧ Below w.heap.size w w' := by
  rw [onB_parts]
  have C := Lib.hid (fun w => l6Beam_any p w)
  have R := Lib.hid (fun w1 (l : Below w.heap.size w w1) => l2Row_any v xs w1 (hr.lo l))
  have HY := Lib.hid (onL_iff p xs)
  have HN := Lib.hid (fun j hj h => onL_no (p := p) (xs := xs) j hj h)
  have HS := Lib.hid (fun h : rowB xs = true => ((rowB_iff xs).1 h).short)
  generalize onL p xs = q at *
  generalize beamB p = b1 at *
  obtain ⟨b2, hb2⟩ : ∃ r, rowB xs = r := ⟨_, rfl⟩
  rw [hb2] at R HS ⊢
  clear hb2
  obtain ⟨l, a, b⟩ := p
  simp only at C HY HN ⊢
  obtain ⟨av, c, rfl, hr⟩ := hr
  obtain ⟨W, hW⟩ : ∃ W, w.alloc (.cells #[.int .i64 l, .int .i64 a, .int .i64 b] 25) = W := ⟨_, rfl⟩
  have LW := Lib.hid (show Below w.heap.size w W by rw [← hW]; exact below_new _ _)
  have BX := Lib.hid (show Cel3 W w.heap.size (.int .i64 l) (.int .i64 a) (.int .i64 b) by rw [← hW]; exact cel3_new _ _ _ _ _)
  obtain ⟨_, u0, u1, u2⟩ := BX.out
  cases b1 with
  | false =>
    go_enter Try.func78, Try.ntmps78
    go_wp2_with fail
    clear hW
    refine (C.out W).mono ?_
    rintro e w1 ⟨rfl, l1⟩
    go_wp2
    go_ret
    exact ⟨rfl, lo_on LW.out l1⟩
  | true =>
    cases b2 with
    | false =>
      go_enter Try.func78, Try.ntmps78
      go_wp2_with fail
      clear hW
      refine (C.out W).mono ?_
      rintro e w1 ⟨rfl, l1⟩
      have L1 := Lib.hid (lo_on LW.out l1)
      clear l1
      go_wp2_with fail
      refine (R.out w1 L1.out).mono ?_
      rintro e w' ⟨rfl, rfl⟩
      go_wp2
      go_ret
      exact ⟨rfl, L1.out⟩
    | true =>
      have h12 := HS.out rfl
      rw [show (true && true && q) = q by cases q <;> rfl]
      go_enter Try.func78, Try.ntmps78
      go_wp2_with fail
      clear hW
      refine (C.out W).mono ?_
      rintro e w1 ⟨rfl, l1⟩
      have L1 := Lib.hid (lo_on LW.out l1)
      have B1 := Lib.hid (BX.out.lo l1)
      clear l1 u0 u1 u2 BX
      go_wp2_with fail
      refine (R.out w1 L1.out).mono ?_
      rintro e w' ⟨rfl, rfl⟩
      clear C R HS
      go_wp2
      go_loopw [5] (fun i wr => ∃ k : Nat, k ≤ xs.length ∧ i = .int .i64 k ∧ Hid (∀ j, j < k → (xs.getD j (0, 0)).1 ≤ l) ∧ Hid (Below w1.heap.size w1 wr)) (fun i _ => xs.length - (intOf i).toNat)
      case atStart => exact ⟨0, Nat.zero_le _, rfl, Lib.hid (fun j h => by omega), Lib.hid (Below.refl _ _)⟩
      case round =>
        obtain ⟨k, hk, rfl, HL, HB⟩ := hrel
        by_cases hlt : k < xs.length
        · rcases hr with h | ⟨g, off, rfl, hg, hc⟩
          · subst h; simp at hlt
          have h1 := (hc k hlt).1
          rw [← (lo_on L1.out HB.out).cell (p := ⟨g, off + k * 2, none⟩) hg] at h1
          obtain ⟨_, x0, _, _⟩ := B1.out.lo HB.out
          have hlt' : (k : Int) < (xs.length : Int) := by omega
          have HK := Lib.hid (fun h => HN.out k hlt h)
          obtain ⟨x, hx⟩ : ∃ x, (xs.getD k (0, 0)).1 = x := ⟨_, rfl⟩
          rw [hx] at h1 HK
          have HX := Lib.hid hx
          clear hx hc
          by_cases hle : x ≤ l
          · have hn : ¬ l < x := by omega
            go_wp2
            go_quiet (fail)
            go_wp2
            go_roundw
            case rel =>
              refine ⟨k + 1, by omega, by go_num, Lib.hid (fun j hj => ?_), Lib.hid (lo_drewN HB.out _)⟩
              by_cases e : j = k
              · subst e; rw [HX.out]; exact hle
              · exact HL.out j (by omega)
            case measure => simp [intOf]; omega
          · have hn : l < x := by omega
            have HF := Lib.hid (HK.out hn)
            clear HK
            go_wp2
            go_quiet (fail)
            go_wp2
            go_ret
            exact ⟨by rw [HF.out]; rfl, lo_drewN (lo_on L1.out HB.out) _⟩
        · obtain rfl : k = xs.length := by omega
          have hge : ¬ (xs.length : Int) < (xs.length : Int) := by omega
          have HF := Lib.hid (HY.out.2 HL.out)
          go_wp2
          go_ret
          exact ⟨by rw [HF.out]; rfl, lo_on L1.out HB.out⟩
theorem l6On_is (p : BeamV) (v : Value) (xs : List (Int × Int)) (r : Bool) (h : onB p xs = r) (w : World) (hr : LoadRow w v xs) :
    Calls Try.prog 78 #[.agg #[.int .i64 p.l, .int .i64 p.a, .int .i64 p.b], v] w fun e w' => e = .returned (.bool r) ∧ Below w.heap.size w w' := by
  subst h
  exact l6On_any p v xs w hr
theorem onClo_any (x q l : Int) (B : Nat) (w : World) (c0 : w.cell? ⟨B, 0, none⟩ = some (.int .i64 l)) :
    Calls Try.prog 128 #[.agg #[.int .i64 x, .int .i64 q], .pointer (some ⟨B, 0, none⟩)] w fun e w' => e = .returned (.bool (decide (l < x))) ∧ Below w.heap.size w w' := by
  have c1 : (w.alloc (.cells #[.int .i64 x, .int .i64 q] 78)).cell? ⟨B, 0, none⟩ = some (.int .i64 l) := by rw [(below_new w _).cell (p := ⟨B, 0, none⟩) (cell_lt c0)]; exact c0
  by_cases h : l < x
  all_goals go_enter Try.func128, Try.ntmps128
  all_goals go_wp2
  all_goals go_ret
  all_goals exact ⟨by simp [h], below_new _ _⟩
set_option maxRecDepth 100000 in
set_option maxHeartbeats 1600000 in
theorem indexOn_any (B : Nat) (l : Int) (v : Value) (xs : List (Int × Int)) (w : World) (hr : LoadRow w v xs) (h12 : xs.length ≤ 12) (c0 : w.cell? ⟨B, 0, none⟩ = some (.int .i64 l)) (r : Bool) (hY : (∀ j, j < xs.length → (xs.getD j (0, 0)).1 ≤ l) → r = false) (hN : ∀ j, j < xs.length → l < (xs.getD j (0, 0)).1 → r = true) :
    Calls Try.prog 159 #[v, .func (.func 128) #[] #[.pointer (some ⟨B, 0, none⟩)]] w fun e w' => (∃ z : Int, e = .returned (.int .i64 z) ∧ decide (0 ≤ z) = r) ∧ Below w.heap.size w w' := by
  have CL := Lib.hid (fun x q (w1 : World) (L : Below w.heap.size w w1) => onClo_any x q l B w1 (by rw [L.cell (p := ⟨B, 0, none⟩) (cell_lt c0)]; exact c0))
  have HY := Lib.hid hY
  have HN := Lib.hid hN
  clear hY hN c0
  obtain ⟨av, c, rfl, hr⟩ := hr
  go_enter Try.func159, Try.ntmps159
  go_wp2
  go_loopw [8] (fun i wr => ∃ k : Nat, k ≤ xs.length ∧ i = .int .i64 k ∧ Hid (∀ j, j < k → (xs.getD j (0, 0)).1 ≤ l) ∧ Hid (Below w.heap.size w wr)) (fun i _ => xs.length - (intOf i).toNat)
  case atStart => exact ⟨0, Nat.zero_le _, rfl, Lib.hid (fun j h => by omega), Lib.hid (Below.refl _ _)⟩
  case round =>
    obtain ⟨k, hk, rfl, HL, HB⟩ := hrel
    by_cases hlt : k < xs.length
    · rcases hr with h | ⟨g, off, rfl, hg, hc⟩
      · subst h; simp at hlt
      obtain ⟨h1, h2⟩ := hc k hlt
      rw [← HB.out.cell (p := ⟨g, off + k * 2, none⟩) hg] at h1
      rw [← HB.out.cell (p := ⟨g, off + k * 2 + 1, none⟩) hg] at h2
      have hlt' : (k : Int) < (xs.length : Int) := by omega
      have HK := Lib.hid (fun h => HN.out k hlt h)
      obtain ⟨x, hx⟩ : ∃ x, xs.getD k (0, 0) = x := ⟨_, rfl⟩
      rw [hx] at h1 h2 HK
      have HX := Lib.hid hx
      clear hx hc
      obtain ⟨x, q⟩ := x
      simp only at h1 h2 HK
      have CK := Lib.hid (CL.out x q wr HB.out)
      by_cases hle : x ≤ l
      · rw [show decide (l < x) = false by simp; omega] at CK
        go_wp2_with (go_at_call 128; refine (CK.out).mono ?_; rintro e w1 ⟨rfl, l1⟩; have LL := Lib.hid (lo_on HB.out l1); clear l1 CK)
        go_roundw
        case rel =>
          refine ⟨k + 1, by omega, by go_num, Lib.hid (fun j hj => ?_), LL⟩
          by_cases e : j = k
          · subst e; rw [HX.out]; exact hle
          · exact HL.out j (by omega)
        case measure => simp [intOf]; omega
      · rw [show decide (l < x) = true by simp; omega] at CK
        have HF := Lib.hid (HK.out (by omega))
        go_wp2_with (go_at_call 128; refine (CK.out).mono ?_; rintro e w1 ⟨rfl, l1⟩; have LL := Lib.hid (lo_on HB.out l1); clear l1 CK HK)
        go_ret
        exact ⟨⟨_, rfl, by rw [HF.out]; simp⟩, LL.out⟩
    · obtain rfl : k = xs.length := by omega
      have hge : ¬ (xs.length : Int) < (xs.length : Int) := by omega
      have HF := Lib.hid (HY.out HL.out)
      clear CL HN
      go_wp2
      go_ret
      exact ⟨⟨_, rfl, by rw [HF.out]; rfl⟩, HB.out⟩
set_option maxHeartbeats 800000 in
theorem containsOn_any (B : Nat) (l : Int) (v : Value) (xs : List (Int × Int)) (w : World) (hr : LoadRow w v xs) (h12 : xs.length ≤ 12) (c0 : w.cell? ⟨B, 0, none⟩ = some (.int .i64 l)) (r : Bool) (hY : (∀ j, j < xs.length → (xs.getD j (0, 0)).1 ≤ l) → r = false) (hN : ∀ j, j < xs.length → l < (xs.getD j (0, 0)).1 → r = true) :
    Calls Try.prog 127 #[v, .func (.func 128) #[] #[.pointer (some ⟨B, 0, none⟩)]] w fun e w' => e = .returned (.bool r) ∧ Below w.heap.size w w' := by
  have I := Lib.hid (indexOn_any B l v xs w hr h12 c0 r hY hN)
  clear hr c0 hY hN h12
  go_enter Try.func127, Try.ntmps127
  go_wp2_with fail
  refine I.out.mono ?_
  rintro e w1 ⟨⟨z, rfl, hz⟩, l1⟩
  have HZ := Lib.hid hz
  have L1 := Lib.hid l1
  clear hz l1 I
  go_wp2
  go_ret
  exact ⟨by rw [← HZ.out]; rfl, L1.out⟩
set_option maxRecDepth 100000 in
set_option maxHeartbeats 1600000 in
theorem isOn_any (p : BeamV) (v : Value) (xs : List (Int × Int)) (w : World) (hr : LoadRow w v xs) :
    Calls Try.prog 81 #[.agg #[.int .i64 p.l, .int .i64 p.a, .int .i64 p.b], v] w fun e w' => e = .returned (.bool (onB p xs)) ∧ Below w.heap.size w w' := by
  rw [onB_parts]
  have C := Lib.hid (fun w => isBeam_any p w)
  have R := Lib.hid (fun w1 (l : Below w.heap.size w w1) => isRow_any v xs w1 (hr.lo l))
  have HY := Lib.hid (onL_iff p xs)
  have HN := Lib.hid (fun j hj h => onL_no (p := p) (xs := xs) j hj h)
  have K := Lib.hid (fun (hs : rowB xs = true) w1 (B : Nat) (L : Below w.heap.size w w1) (c0 : w1.cell? ⟨B, 0, none⟩ = some (.int .i64 p.l)) => containsOn_any B p.l v xs w1 (hr.lo L) ((rowB_iff xs).1 hs).short c0 (!onL p xs) (fun h => by rw [HY.out.2 h]; rfl) (fun j hj h => by rw [HN.out j hj h]; rfl))
  clear HY HN
  generalize onL p xs = q at *
  generalize beamB p = b1 at *
  generalize rowB xs = b2 at *
  obtain ⟨l, a, b⟩ := p
  simp only at C K ⊢
  obtain ⟨av, c, rfl, hr⟩ := hr
  obtain ⟨W, hW⟩ : ∃ W, w.alloc (.cells #[.int .i64 l, .int .i64 a, .int .i64 b] 25) = W := ⟨_, rfl⟩
  have LW := Lib.hid (show Below w.heap.size w W by rw [← hW]; exact below_new _ _)
  have BX := Lib.hid (show Cel3 W w.heap.size (.int .i64 l) (.int .i64 a) (.int .i64 b) by rw [← hW]; exact cel3_new _ _ _ _ _)
  obtain ⟨_, u0, u1, u2⟩ := BX.out
  cases b1 with
  | false =>
    go_enter Try.func81, Try.ntmps81
    go_wp2_with fail
    clear hW
    refine (C.out W).mono ?_
    rintro e w1 ⟨rfl, l1⟩
    go_wp2
    go_ret
    exact ⟨rfl, lo_on LW.out l1⟩
  | true =>
    cases b2 with
    | false =>
      go_enter Try.func81, Try.ntmps81
      go_wp2_with fail
      clear hW
      refine (C.out W).mono ?_
      rintro e w1 ⟨rfl, l1⟩
      have L1 := Lib.hid (lo_on LW.out l1)
      clear l1
      go_wp2_with fail
      refine (R.out w1 L1.out).mono ?_
      rintro e w2 ⟨rfl, l2⟩
      go_wp2
      go_ret
      exact ⟨rfl, lo_on L1.out l2⟩
    | true =>
      rw [show (true && true && q) = q by cases q <;> rfl]
      go_enter Try.func81, Try.ntmps81
      go_wp2_with fail
      clear hW
      refine (C.out W).mono ?_
      rintro e w1 ⟨rfl, l1⟩
      have L1 := Lib.hid (lo_on LW.out l1)
      have B1 := Lib.hid (BX.out.lo l1)
      clear l1 u0 u1 u2 BX
      go_wp2_with fail
      refine (R.out w1 L1.out).mono ?_
      rintro e w2 ⟨rfl, l2⟩
      have L2 := Lib.hid (lo_on L1.out l2)
      have KK := Lib.hid (K.out trivial w2 w.heap.size L2.out (B1.out.lo l2).2.1)
      clear l2 L1 B1 K R C
      go_wp2_with fail
      refine KK.out.mono ?_
      rintro e w3 ⟨rfl, l3⟩
      have L3 := Lib.hid (lo_on L2.out l3)
      clear l3 KK L2
      cases q
      all_goals
        (go_wp2
         go_ret
         exact ⟨rfl, L3.out⟩)
theorem isOn_is (p : BeamV) (v : Value) (xs : List (Int × Int)) (r : Bool) (h : onB p xs = r) (w : World) (hr : LoadRow w v xs) :
    Calls Try.prog 81 #[.agg #[.int .i64 p.l, .int .i64 p.a, .int .i64 p.b], v] w fun e w' => e = .returned (.bool r) ∧ Below w.heap.size w w' := by
  subst h
  exact isOn_any p v xs w hr
end Go.Proofs.Ythncgcdnljoakaa
