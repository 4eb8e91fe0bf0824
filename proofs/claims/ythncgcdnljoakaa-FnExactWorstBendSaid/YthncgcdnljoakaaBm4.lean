/- The contracts of both functions SupportTimes; the model's moment and side of a row, which draw alone. -/
import Derived.Test.YthncgcdnljoakaaBm3
namespace Go.Proofs.Ythncgcdnljoakaa
open Go.RowKit
theorem quiet_on {P : Program} {f : FuncId} {args : Array Value} {w : World} {v : Value} (h : ∀ m, Calls P f args (w.drewN m) fun e w' => e = .returned v ∧ ∃ q, w' = (w.drewN m).drewN q) (n x : Nat) :
    Calls P f args (w.drewN (n + x)) fun e w'' => e = .returned v ∧ ∃ y, w'' = w.drewN (n + y) :=
  (h (n + x)).mono fun _ _ ⟨he, q, hq⟩ => ⟨he, x + q, by rw [hq, World.drewN_drewN, Nat.add_assoc]⟩
theorem drewN_zero (w : World) : w.drewN 0 = w := rfl
set_option maxHeartbeats 800000 in
theorem l2Moment_q (v : Value) (xs : List (Int × Int)) (m : Int) (w : World) (hr : LoadRow w v xs) (hz : RowF xs) (m0 : 0 ≤ m) (m1 : m ≤ 60) :
    Calls Try.prog 84 #[v, .int .i64 m] w fun e w' => e = .returned (.int .i64 (momF m xs)) ∧ ∃ n, w' = w.drewN n := by
  obtain ⟨a, c, rfl, hr⟩ := hr
  have HZ := Lib.hid hz
  have hlen := hz.short
  clear hz
  go_enter Try.func84, Try.ntmps84
  go_wp2
  go_loopw [5, 6] (fun s i wr => ∃ k n : Nat, k ≤ xs.length ∧ i = .int .i64 k ∧ s = .int .i64 (momF m (xs.take k)) ∧ wr = w.drewN n) (fun _ i _ => xs.length - (intOf i).toNat)
  case atStart => exact ⟨0, 0, Nat.zero_le _, rfl, rfl, rfl⟩
  case round =>
    obtain ⟨k, n, hk, rfl, rfl, rfl⟩ := hrel
    by_cases hlt : k < xs.length
    · rcases hr with h | ⟨g, off, rfl, _, hc⟩
      · subst h; simp at hlt
      have h1 := (hc k hlt).1
      have h2 := (hc k hlt).2
      have hlt' : (k : Int) < (xs.length : Int) := by omega
      have hb := (rowF_bounds (rowF_take HZ.out k)).2.2.2 m m0 m1
      have hb2 := (rowF_bounds (rowF_take HZ.out (k + 1))).2.2.2 m m0 m1
      have hs := mom_take m xs k hlt
      have he := HZ.out.each _ (mem_getD hlt)
      obtain ⟨y, hy⟩ : ∃ y, momF m (xs.take k) = y := ⟨_, rfl⟩
      obtain ⟨z, hz⟩ : ∃ z, momF m (xs.take (k + 1)) = z := ⟨_, rfl⟩
      generalize xs.getD k (0, 0) = x at h1 h2 hs he
      obtain ⟨p, q⟩ := x
      simp only at h1 h2 hs he
      obtain ⟨⟨e0, e1⟩, e2, e3⟩ := he
      rw [hy] at hs hb ⊢
      rw [hz] at hs hb2
      obtain ⟨y0, y1⟩ := hb
      obtain ⟨z0, z1⟩ := hb2
      obtain ⟨t, ht⟩ : ∃ t, q * (p - m) = t := ⟨_, rfl⟩
      rw [ht] at hs
      have HY := Lib.hid hz
      clear hc hy hz
      have t0 : -9223372036854775808 ≤ q * (p - m) := by omega
      have t1 : q * (p - m) ≤ 9223372036854775807 := by omega
      go_wp2
      go_quiet (fail)
      go_wp2
      go_roundw
      case rel => exact ⟨k + 1, _, by omega, by go_num, by rw [HY.out, hs], rfl⟩
      case measure => simp [intOf]; omega
    · obtain rfl : k = xs.length := by omega
      have hge : ¬ (xs.length : Int) < (xs.length : Int) := by omega
      go_wp2
      go_ret
      exact ⟨rfl, n, rfl⟩
theorem l2Side_q (v : Value) (xs : List (Int × Int)) (a b : Int) (w : World) (hr : LoadRow w v xs) (hz : RowF xs) (a0 : 0 ≤ a) (a1 : a ≤ 60) (b0 : 0 ≤ b) (b1 : b ≤ 60) :
    Calls Try.prog 79 #[v, .int .i64 a, .int .i64 b] w fun e w' => e = .returned (.int .i64 (sideF a b xs)) ∧ ∃ n, w' = w.drewN n := by
  have M1 := Lib.hid (l2Moment_q v xs a w hr hz a0 a1)
  have M2 := Lib.hid (fun n => l2Moment_q v xs b (w.drewN n) (hr.lo (drewN_below w n)) hz b0 b1)
  clear hr hz a0 a1 b0 b1
  unfold sideF
  generalize momF a xs = m at *
  generalize momF b xs = n at *
  by_cases h1 : m < 0
  · rw [if_pos h1]
    go_enter Try.func79, Try.ntmps79
    go_wp2_with fail
    refine M1.out.mono ?_
    rintro e w1 ⟨rfl, d, rfl⟩
    go_wp2
    go_ret
    exact ⟨rfl, d, rfl⟩
  · rw [if_neg h1]
    by_cases h2 : 0 < n
    case' pos => rw [if_pos h2]
    case' neg => rw [if_neg h2]
    all_goals
      (go_enter Try.func79, Try.ntmps79
       go_wp2_with fail
       refine M1.out.mono ?_
       rintro e w1 ⟨rfl, d, rfl⟩
       have M3 := Lib.hid (M2.out d)
       clear M1 M2
       go_wp2_with fail
       refine M3.out.mono ?_
       rintro e w2 ⟨rfl, d2, rfl⟩
       go_wp2
       go_ret
       exact ⟨rfl, d + d2, rfl⟩)
set_option maxRecDepth 100000 in
set_option maxHeartbeats 1600000 in
theorem specSup_yes (p : BeamV) (v : Value) (xs : List (Int × Int)) (w : World) (hr : LoadRow w v xs) (hf : OnF p xs) :
    Calls Try.prog 28 #[.agg #[.int .i64 p.l, .int .i64 p.a, .int .i64 p.b], v] w fun e w' => e = .returned (.tuple #[.int .i64 (-momF p.b xs), .int .i64 (momF p.a xs), .bool true]) ∧ Below w.heap.size w w' := by
  have C := Lib.hid (fun w1 (l : Below w.heap.size w w1) => l6On_is p v xs true ((onB_iff p xs).2 hf) w1 (hr.lo l))
  have hb := rowF_bounds hf.row
  have h0 := hf.a0; have h1 := hf.ab; have h2 := hf.b1; have h3 := hf.l1
  have m1 := hb.2.2.2 p.a (by omega) (by omega)
  have m2 := hb.2.2.2 p.b (by omega) (by omega)
  have MB := Lib.hid (fun w1 (l : Below w.heap.size w w1) m => l2Moment_q v xs p.b (w1.drewN m) ((hr.lo l).lo (drewN_below w1 m)) hf.row (by omega) (by omega))
  have MA := Lib.hid (fun w1 (l : Below w.heap.size w w1) m => l2Moment_q v xs p.a (w1.drewN m) ((hr.lo l).lo (drewN_below w1 m)) hf.row (by omega) (by omega))
  clear hr hf hb
  generalize momF p.b xs = m at *
  generalize momF p.a xs = n at *
  obtain ⟨l, a, b⟩ := p
  simp only at *
  obtain ⟨W, hW⟩ : ∃ W, w.alloc (.cells #[.int .i64 l, .int .i64 a, .int .i64 b] 25) = W := ⟨_, rfl⟩
  have LW := Lib.hid (show Below w.heap.size w W by rw [← hW]; exact below_new _ _)
  have BX := Lib.hid (show Cel3 W w.heap.size (.int .i64 l) (.int .i64 a) (.int .i64 b) by rw [← hW]; exact cel3_new _ _ _ _ _)
  obtain ⟨_, u0, u1, u2⟩ := BX.out
  go_enter Try.func28, Try.ntmps28
  go_wp2_with fail
  clear hW
  refine (C.out W LW.out).mono ?_
  rintro e w1 ⟨rfl, l1⟩
  have L1 := Lib.hid (lo_on LW.out l1)
  obtain ⟨_, x0, x1, x2⟩ := BX.out.lo l1
  have QB := Lib.hid (MB.out w1 L1.out)
  have QA := Lib.hid (MA.out w1 L1.out)
  clear l1 u0 u1 u2 BX C MA MB
  go_wp2
  go_quiet ((go_at_call 84; first | with_reducible exact Calls.quiet_of (QB.out _) | with_reducible exact Calls.quiet_of (QA.out _) | with_reducible exact quiet_on QA.out _ _))
  go_wp2
  go_ret3
  exact ⟨rfl, lo_drewN L1.out _⟩
set_option maxHeartbeats 1600000 in
theorem specSup_no (p : BeamV) (v : Value) (xs : List (Int × Int)) (w : World) (hr : LoadRow w v xs) (hf : onB p xs = false) :
    Calls Try.prog 28 #[.agg #[.int .i64 p.l, .int .i64 p.a, .int .i64 p.b], v] w fun e w' => e = .returned (.tuple #[.int .i64 0, .int .i64 0, .bool false]) ∧ Below w.heap.size w w' := by
  have C := Lib.hid (fun w1 (l : Below w.heap.size w w1) => l6On_is p v xs false hf w1 (hr.lo l))
  clear hr hf
  obtain ⟨l, a, b⟩ := p
  simp only at *
  obtain ⟨W, hW⟩ : ∃ W, w.alloc (.cells #[.int .i64 l, .int .i64 a, .int .i64 b] 25) = W := ⟨_, rfl⟩
  have LW := Lib.hid (show Below w.heap.size w W by rw [← hW]; exact below_new _ _)
  have BX := Lib.hid (show Cel3 W w.heap.size (.int .i64 l) (.int .i64 a) (.int .i64 b) by rw [← hW]; exact cel3_new _ _ _ _ _)
  obtain ⟨_, u0, u1, u2⟩ := BX.out
  go_enter Try.func28, Try.ntmps28
  go_wp2_with fail
  clear hW
  refine (C.out W LW.out).mono ?_
  rintro e w1 ⟨rfl, l1⟩
  go_wp2
  go_ret3
  exact ⟨rfl, lo_on LW.out l1⟩
set_option maxRecDepth 100000 in
set_option maxHeartbeats 1600000 in
theorem sup_yes (p : BeamV) (v : Value) (xs : List (Int × Int)) (w : World) (hr : LoadRow w v xs) (hf : OnF p xs) :
    Calls Try.prog 29 #[.agg #[.int .i64 p.l, .int .i64 p.a, .int .i64 p.b], v] w fun e w' => e = .returned (.tuple #[.int .i64 (-momF p.b xs), .int .i64 (momF p.a xs), .bool true]) ∧ Below w.heap.size w w' := by
  have C := Lib.hid (fun w1 (l : Below w.heap.size w w1) => isOn_is p v xs true ((onB_iff p xs).2 hf) w1 (hr.lo l))
  have S := Lib.hid (fun w1 (l : Below w.heap.size w w1) => supF_any p v xs w1 (hr.lo l) hf)
  clear hr hf
  generalize momF p.b xs = m at *
  generalize momF p.a xs = n at *
  obtain ⟨l, a, b⟩ := p
  simp only at *
  obtain ⟨W, hW⟩ : ∃ W, w.alloc (.cells #[.int .i64 l, .int .i64 a, .int .i64 b] 25) = W := ⟨_, rfl⟩
  have LW := Lib.hid (show Below w.heap.size w W by rw [← hW]; exact below_new _ _)
  have BX := Lib.hid (show Cel3 W w.heap.size (.int .i64 l) (.int .i64 a) (.int .i64 b) by rw [← hW]; exact cel3_new _ _ _ _ _)
  obtain ⟨_, u0, u1, u2⟩ := BX.out
  go_enter Try.func29, Try.ntmps29
  go_wp2_with fail
  clear hW
  refine (C.out W LW.out).mono ?_
  rintro e w1 ⟨rfl, l1⟩
  have L1 := Lib.hid (lo_on LW.out l1)
  obtain ⟨_, x0, x1, x2⟩ := BX.out.lo l1
  have SS := Lib.hid (S.out w1 L1.out)
  clear l1 u0 u1 u2 BX C S
  go_wp2_with fail
  refine SS.out.mono ?_
  rintro e w2 ⟨rfl, l2⟩
  obtain ⟨W2, hW2⟩ : ∃ W2, w2.alloc (.cells #[.int .i64 a, .int .i64 (-m), .int .i64 b, .int .i64 n] 88) = W2 := ⟨_, rfl⟩
  have L2 := Lib.hid (show Below w.heap.size w W2 by rw [← hW2]; exact lo_on (lo_on L1.out l2) (below_new _ _))
  have BY := Lib.hid (show Cel4 W2 w2.heap.size (.int .i64 a) (.int .i64 (-m)) (.int .i64 b) (.int .i64 n) by rw [← hW2]; exact cel4_new _ _ _ _ _ _)
  obtain ⟨_, y0, y1, y2, y3⟩ := BY.out
  clear l2 SS x0 x1 x2
  go_wp2
  go_quiet (fail)
  clear hW2
  go_wp2
  go_ret3
  exact ⟨rfl, lo_drewN L2.out _⟩
set_option maxHeartbeats 1600000 in
theorem sup_no (p : BeamV) (v : Value) (xs : List (Int × Int)) (w : World) (hr : LoadRow w v xs) (hf : onB p xs = false) :
    Calls Try.prog 29 #[.agg #[.int .i64 p.l, .int .i64 p.a, .int .i64 p.b], v] w fun e w' => e = .returned (.tuple #[.int .i64 0, .int .i64 0, .bool false]) ∧ Below w.heap.size w w' := by
  have C := Lib.hid (fun w1 (l : Below w.heap.size w w1) => isOn_is p v xs false hf w1 (hr.lo l))
  clear hr hf
  obtain ⟨l, a, b⟩ := p
  simp only at *
  obtain ⟨W, hW⟩ : ∃ W, w.alloc (.cells #[.int .i64 l, .int .i64 a, .int .i64 b] 25) = W := ⟨_, rfl⟩
  have LW := Lib.hid (show Below w.heap.size w W by rw [← hW]; exact below_new _ _)
  have BX := Lib.hid (show Cel3 W w.heap.size (.int .i64 l) (.int .i64 a) (.int .i64 b) by rw [← hW]; exact cel3_new _ _ _ _ _)
  obtain ⟨_, u0, u1, u2⟩ := BX.out
  go_enter Try.func29, Try.ntmps29
  go_wp2_with fail
  clear hW
  refine (C.out W LW.out).mono ?_
  rintro e w1 ⟨rfl, l1⟩
  go_wp2
  go_ret3
  exact ⟨rfl, lo_on LW.out l1⟩
def supA (p : BeamV) (xs : List (Int × Int)) : Int := if onB p xs = true then -momF p.b xs else 0
def supB (p : BeamV) (xs : List (Int × Int)) : Int := if onB p xs = true then momF p.a xs else 0
theorem specSup_any (p : BeamV) (v : Value) (xs : List (Int × Int)) (w : World) (hr : LoadRow w v xs) :
    Calls Try.prog 28 #[.agg #[.int .i64 p.l, .int .i64 p.a, .int .i64 p.b], v] w fun e w' => e = .returned (.tuple #[.int .i64 (supA p xs), .int .i64 (supB p xs), .bool (onB p xs)]) ∧ Below w.heap.size w w' := by
  unfold supA supB
  cases h : onB p xs with
  | true => simpa using specSup_yes p v xs w hr ((onB_iff p xs).1 h)
  | false => simpa using specSup_no p v xs w hr h
theorem sup_any (p : BeamV) (v : Value) (xs : List (Int × Int)) (w : World) (hr : LoadRow w v xs) :
    Calls Try.prog 29 #[.agg #[.int .i64 p.l, .int .i64 p.a, .int .i64 p.b], v] w fun e w' => e = .returned (.tuple #[.int .i64 (supA p xs), .int .i64 (supB p xs), .bool (onB p xs)]) ∧ Below w.heap.size w w' := by
  unfold supA supB
  cases h : onB p xs with
  | true => simpa using sup_yes p v xs w hr ((onB_iff p xs).1 h)
  | false => simpa using sup_no p v xs w hr h
end Go.Proofs.Ythncgcdnljoakaa
