/- The contracts of the program's OneMove and OneSwap. -/
import Derived.Test.YtgjchkcjlmklbaaMvP
import Derived.Test.YtgjchkcjlmklbaaImpl2
import Derived.Test.YtgjchkcjlmklbaaGpJ
namespace Go.Proofs.Ytgjchkcjlmklbaa
open Go.RowKit
theorem mvI_no (v : Value) (xs : List (Int × Int)) (p : Int) (w : World) (hr : LoadRow w v xs) (h : offB xs p = false) (F : Value) (hF : F = .tuple #[.int .i64 0, .int .i64 0, .bool false]) :
    Calls Try.prog 58 #[v, .int .i64 p] w fun e w' => e = .returned F ∧ Below w.heap.size w w' := by
  subst hF
  have C : Calls Try.prog 82 #[v, .int .i64 p] w fun e w' => (∃ b, e = .returned (.tuple #[.int .i64 0, .bool b])) ∧ Below w.heap.size w w' := by
    by_cases hz : rpB xs p = true
    · obtain ⟨h1, h2, h3⟩ := (rpB_iff xs p).1 hz
      refine (momentAbout_yes v xs p w hr h1 h2 h3).mono ?_
      rintro e w' ⟨rfl, l⟩
      have hm : momF p xs = 0 := by
        by_cases hm : momF p xs = 0
        · exact hm
        · rw [(off_iff xs p).2 ⟨⟨h1, h2, h3⟩, hm⟩] at h; cases h
      exact ⟨⟨true, by rw [hm]⟩, l⟩
    · refine (momentAbout_no v xs p w hr (by rw [← rp_row]; simpa using hz)).mono ?_
      rintro e w' ⟨rfl, l⟩
      exact ⟨⟨false, rfl⟩, l⟩
  have CC := Lib.hid C
  clear C hr h
  go_enter Try.func58, Try.ntmps58
  go_wp2_with fail
  refine CC.out.mono ?_
  rintro e w1 ⟨⟨b, rfl⟩, l1⟩
  have L1 := Lib.hid l1
  clear l1 CC
  go_wp2
  go_ret3
  exact ⟨rfl, L1.out⟩
theorem swI_no (v : Value) (xs : List (Int × Int)) (p : Int) (w : World) (hr : LoadRow w v xs) (h : offB xs p = false) (F : Value) (hF : F = .tuple #[.int .i64 0, .int .i64 0, .bool false]) :
    Calls Try.prog 60 #[v, .int .i64 p] w fun e w' => e = .returned F ∧ Below w.heap.size w w' := by
  subst hF
  have C : Calls Try.prog 82 #[v, .int .i64 p] w fun e w' => (∃ b, e = .returned (.tuple #[.int .i64 0, .bool b])) ∧ Below w.heap.size w w' := by
    by_cases hz : rpB xs p = true
    · obtain ⟨h1, h2, h3⟩ := (rpB_iff xs p).1 hz
      refine (momentAbout_yes v xs p w hr h1 h2 h3).mono ?_
      rintro e w' ⟨rfl, l⟩
      have hm : momF p xs = 0 := by
        by_cases hm : momF p xs = 0
        · exact hm
        · rw [(off_iff xs p).2 ⟨⟨h1, h2, h3⟩, hm⟩] at h; cases h
      exact ⟨⟨true, by rw [hm]⟩, l⟩
    · refine (momentAbout_no v xs p w hr (by rw [← rp_row]; simpa using hz)).mono ?_
      rintro e w' ⟨rfl, l⟩
      exact ⟨⟨false, rfl⟩, l⟩
  have CC := Lib.hid C
  clear C hr h
  go_enter Try.func60, Try.ntmps60
  go_wp2_with fail
  refine CC.out.mono ?_
  rintro e w1 ⟨⟨b, rfl⟩, l1⟩
  have L1 := Lib.hid l1
  clear l1 CC
  go_wp2
  go_ret3
  exact ⟨rfl, L1.out⟩
set_option maxRecDepth 100000 in
set_option maxHeartbeats 3200000 in
theorem mvI_yes (v : Value) (xs : List (Int × Int)) (p : Int) (w : World) (hr : LoadRow w v xs) (h : offB xs p = true) :
    Calls Try.prog 58 #[v, .int .i64 p] w fun e w' => e = .returned (.tuple #[.int .i64 (mvI xs p), .int .i64 (mvT xs p), .bool (mvN xs p).isSome]) ∧ Below w.heap.size w w' := by
  obtain ⟨⟨h1, h2, h3⟩, hm⟩ := (off_iff xs p).1 h
  have MO := Lib.hid (momentAbout_yes v xs p w hr h1 h2 h3)
  have HY := Lib.hid (fun k hk hy hn => mv_at h (k := k) hk hy hn)
  have HN := Lib.hid (fun hn => mv_end (xs := xs) (p := p) hn)
  have HE := Lib.hid (fun k hk => row_at h1 (k := k) hk)
  obtain ⟨m0, m1⟩ := (rowF_bounds h1).2.2.2 p h2 h3
  have PL := Lib.hid (fun z w => isPlace_any z w)
  have h12 := h1.short
  obtain ⟨a, c, rfl, hr⟩ := hr
  generalize momF p xs = M at *
  generalize mvI xs p = R0 at *
  generalize mvT xs p = R1 at *
  generalize (mvN xs p).isSome = R2 at *
  have hq0 : (M == 0) = false := by simpa using hm
  have HM0 := Lib.hid m0
  have HM1 := Lib.hid m1
  clear h h1 h2 h3 hm m0 m1
  go_enter Try.func58, Try.ntmps58
  go_wp2_with fail
  refine MO.out.mono ?_
  rintro e w1 ⟨rfl, l1⟩
  have L1 := Lib.hid l1
  clear l1 MO
  go_wp2
  go_loopw [22] (fun i wr => ∃ k : Nat, k ≤ xs.length ∧ i = .int .i64 k ∧ Hid (∀ j, j < k → mvAt xs M j = false) ∧ Hid (Below w.heap.size w wr)) (fun i _ => xs.length - (intOf i).toNat)
  case atStart => exact ⟨0, Nat.zero_le _, rfl, Lib.hid (fun j h => by omega), L1⟩
  case round =>
    obtain ⟨k, hk, rfl, HP, HB⟩ := hrel
    by_cases hlt : k < xs.length
    · rcases hr with h | ⟨g, off, rfl, hg, hc⟩
      · subst h; simp at hlt
      obtain ⟨h1, h2⟩ := hc k hlt
      rw [← HB.out.cell (p := ⟨g, off + k * 2, none⟩) hg] at h1
      rw [← HB.out.cell (p := ⟨g, off + k * 2 + 1, none⟩) hg] at h2
      have hlt' : (k : Int) < (xs.length : Int) := by omega
      have he := HE.out k hlt
      have m0 := HM0.out
      have m1 := HM1.out
      have HYk := Lib.hid (fun (hy : mvAt xs M k = true) => HY.out k hlt hy HP.out)
      have HNk := Lib.hid (fun (hp : mvAt xs M k = false) => show ∀ j, j < k + 1 → mvAt xs M j = false from fun j hj => by
        by_cases e : j = k
        · rw [e]; exact hp
        · exact HP.out j (by omega))
      unfold mvAt toF at HYk HNk
      obtain ⟨x, hx⟩ : ∃ x, xs.getD k (0, 0) = x := ⟨_, rfl⟩
      rw [hx] at h1 h2 he HYk HNk
      obtain ⟨pl, n⟩ := x
      simp only at h1 h2 he HYk HNk
      obtain ⟨⟨e0, e1⟩, e2, e3⟩ := he
      obtain ⟨⟨d0, d1⟩, q0, q1⟩ := quo_small (n := n) m0 m1
      obtain ⟨d, hdd⟩ : ∃ d, Int.tdiv M n = d := ⟨_, rfl⟩
      obtain ⟨r, hrr⟩ : ∃ r, Int.tmod M n = r := ⟨_, rfl⟩
      rw [hdd] at d0 d1 HYk HNk
      rw [hrr] at q0 q1 HYk HNk
      have hn0 : ¬ n = 0 := by omega
      have hw1 : IntKind.i64.wrap d = d := by rw [IntKind.wrap_i64]; omega
      have hw2 : RowKit.wrap64 d = d := Go.IntWalk.wrap64_in d (by omega)
      have hw3 : IntKind.i64.wrap r = r := by rw [IntKind.wrap_i64]; omega
      have hw4 : RowKit.wrap64 r = r := Go.IntWalk.wrap64_in r (by omega)
      have hw5 : IntKind.i64.wrap (pl - d) = pl - d := by rw [IntKind.wrap_i64]; omega
      have hw6 : RowKit.wrap64 (pl - d) = pl - d := Go.IntWalk.wrap64_in _ (by omega)
      have t0 : -9223372036854775808 ≤ pl - d := by omega
      have t1 : pl - d ≤ 9223372036854775807 := by omega
      clear hx hc e0 e1 e2 e3 d0 d1 q0 q1 m0 m1
      have LN := Lib.hid (fun q => lo_drewN (HB.out.alloc HB.out.size (.cells #[.int .i64 pl, .int .i64 n] 84)) q)
      by_cases hr0 : r = 0
      · have hq : (r == 0) = true := by simp [hr0]
        rw [decide_eq_true hr0, Bool.true_and] at HYk HNk
        clear hr0
        by_cases hto : 0 ≤ pl - d ∧ pl - d ≤ 60
        · have P1 := Lib.hid (fun w => PL.out (pl - d) w)
          have ht : (decide (0 ≤ pl - d) && decide (pl - d ≤ 60)) = true := by rw [decide_eq_true hto.1, decide_eq_true hto.2]; rfl
          rw [ht] at HYk P1
          have HF := Lib.hid (HYk.out rfl)
          clear HYk HNk hto ht PL
          go_wp2
          go_quiet (fail)
          go_wp2_with fail
          refine (P1.out _).mono ?_
          rintro e w' ⟨rfl, rfl⟩
          go_wp2
          go_ret3
          exact ⟨by rw [HF.out.1, HF.out.2.1, HF.out.2.2]; rfl, LN.out _⟩
        · have P1 := Lib.hid (fun w => PL.out (pl - d) w)
          have ht : (decide (0 ≤ pl - d) && decide (pl - d ≤ 60)) = false := by simp; omega
          rw [ht] at HNk P1
          have HF := Lib.hid (HNk.out rfl)
          clear HYk HNk hto ht
          go_wp2
          go_quiet (fail)
          go_wp2_with fail
          refine (P1.out _).mono ?_
          rintro e w' ⟨rfl, rfl⟩
          go_wp2
          go_roundw
          case rel => exact ⟨k + 1, by omega, by go_num, HF, Lib.hid (LN.out _)⟩
          case measure => simp [intOf]; omega
      · have hq : (r == 0) = false := by simpa using hr0
        rw [decide_eq_false hr0, Bool.false_and] at HNk
        have HF := Lib.hid (HNk.out rfl)
        clear HYk HNk hr0
        go_wp2
        go_quiet (fail)
        go_wp2
        go_roundw
        case rel => exact ⟨k + 1, by omega, by go_num, HF, Lib.hid (LN.out _)⟩
        case measure => simp [intOf]; omega
    · obtain rfl : k = xs.length := by omega
      have hge : ¬ (xs.length : Int) < (xs.length : Int) := by omega
      have HF := Lib.hid (HN.out HP.out)
      go_wp2
      go_ret3
      exact ⟨by rw [HF.out.1, HF.out.2.1, HF.out.2.2]; rfl, HB.out⟩
set_option maxRecDepth 100000 in
set_option maxHeartbeats 6400000 in
theorem swI_yes (v : Value) (xs : List (Int × Int)) (p : Int) (w : World) (hr : LoadRow w v xs) (h : offB xs p = true) :
    Calls Try.prog 60 #[v, .int .i64 p] w fun e w' => e = .returned (.tuple #[.int .i64 (swI xs p), .int .i64 (swJ xs p), .bool (swN xs p).isSome]) ∧ Below w.heap.size w w' := by
  obtain ⟨⟨h1, h2, h3⟩, hm⟩ := (off_iff xs p).1 h
  have MO := Lib.hid (momentAbout_yes v xs p w hr h1 h2 h3)
  have HY := Lib.hid (fun i j hi hj hy hn hr => sw_at h (i := i) (j := j) hi hj hy hn hr)
  have HN := Lib.hid (fun hn => sw_end (xs := xs) (p := p) hn)
  have HE := Lib.hid (fun k hk => row_at h1 (k := k) hk)
  obtain ⟨m0, m1⟩ := (rowF_bounds h1).2.2.2 p h2 h3
  have h12 := h1.short
  obtain ⟨a, c, rfl, hr⟩ := hr
  generalize momF p xs = M at *
  generalize swI xs p = R0 at *
  generalize swJ xs p = R1 at *
  generalize (swN xs p).isSome = R2 at *
  have hq0 : (M == 0) = false := by simpa using hm
  have HM0 := Lib.hid m0
  have HM1 := Lib.hid m1
  clear h h1 h2 h3 hm m0 m1
  go_enter Try.func60, Try.ntmps60
  go_wp2_with fail
  refine MO.out.mono ?_
  rintro e w1 ⟨rfl, l1⟩
  have L1 := Lib.hid l1
  clear l1 MO
  go_wp2
  go_loopw [22] (fun i wr => ∃ k : Nat, k ≤ xs.length ∧ i = .int .i64 k ∧ Hid (∀ t, t < k → (swRow xs M t).isSome = false) ∧ Hid (Below w.heap.size w wr)) (fun i _ => xs.length - (intOf i).toNat)
  case atStart => exact ⟨0, Nat.zero_le _, rfl, Lib.hid (fun j h => by omega), L1⟩
  case round =>
    obtain ⟨k, hk, rfl, HP, HB⟩ := hrel
    obtain ⟨wq, rfl⟩ : ∃ wq : World, wq = wr := ⟨_, rfl⟩
    by_cases hlt : k < xs.length
    case neg =>
      obtain rfl : k = xs.length := by omega
      have hge : ¬ (xs.length : Int) < (xs.length : Int) := by omega
      have HF := Lib.hid (HN.out HP.out)
      go_wp2
      go_ret3
      exact ⟨by rw [HF.out.1, HF.out.2.1, HF.out.2.2]; rfl, HB.out⟩
    rcases hr with h | ⟨g, off, rfl, hg, hc⟩
    · subst h; simp at hlt
    have HC := Lib.hid hc
    obtain ⟨h1, h2⟩ := hc k hlt
    rw [← HB.out.cell (p := ⟨g, off + k * 2, none⟩) hg] at h1
    rw [← HB.out.cell (p := ⟨g, off + k * 2 + 1, none⟩) hg] at h2
    have hlt' : (k : Int) < (xs.length : Int) := by omega
    have HE1 := Lib.hid (HE.out k hlt)
    have HYk := Lib.hid (fun j (hj : j < xs.length) (hy : swAt xs M k j = true) hn => HY.out k j hlt hj hy hn HP.out)
    have HPk := Lib.hid (fun (hp : ∀ t, t < xs.length → swAt xs M k t = false) => show ∀ t, t < k + 1 → (swRow xs M t).isSome = false from fun t ht => by
      by_cases e : t = k
      · rw [e]; exact sw_row hp
      · exact HP.out t (by omega))
    have HSW := Lib.hid (fun j (hj : k < j) => show swAt xs M k j = decide (M + chgF xs k j = 0) by unfold swAt; rw [decide_eq_true hj, Bool.true_and])
    unfold chgF at HSW
    obtain ⟨x, hx⟩ : ∃ x, xs.getD k (0, 0) = x := ⟨_, rfl⟩
    rw [hx] at h1 h2 HE1 HSW
    obtain ⟨pl, n⟩ := x
    simp only at h1 h2 HSW
    obtain ⟨W1, hW1⟩ : ∃ W1, wq.alloc (.cells #[.int .i64 pl, .int .i64 n] 84) = W1 := ⟨_, rfl⟩
    have LW := Lib.hid (show Below w.heap.size w W1 by rw [← hW1]; exact HB.out.alloc HB.out.size _)
    have k0 : W1.cell? ⟨wq.heap.size, 0, none⟩ = some (.int .i64 pl) := by rw [← hW1, World.cell?_alloc_at _ _ _ _ rfl]; rfl
    have k1 : W1.cell? ⟨wq.heap.size, 1, none⟩ = some (.int .i64 n) := by rw [← hW1, World.cell?_alloc_at _ _ _ _ rfl]; rfl
    have hks : (k : Int) + 1 ≤ 9223372036854775807 := by omega
    clear hx hc HP HY
    go_wp2
    clear hW1 h1 h2
    go_loopw [11] (fun y ws => ∃ j d : Nat, k < j ∧ j ≤ xs.length ∧ y = .int .i64 j ∧ Hid (∀ t, t < j → swAt xs M k t = false) ∧ ws = W1.drewN d) (fun y _ => xs.length - (intOf y).toNat)
    case atStart => exact ⟨k + 1, 0, by omega, by omega, by go_num, Lib.hid (fun t h => sw_low (by omega)), rfl⟩
    case round =>
      obtain ⟨j, d, hkj, hj, rfl, HQ, rfl⟩ := hrel
      by_cases hjl : j < xs.length
      case neg =>
        obtain rfl : j = xs.length := by omega
        have hge : ¬ (xs.length : Int) < (xs.length : Int) := by omega
        have HF := Lib.hid (HPk.out HQ.out)
        have LD := Lib.hid (lo_drewN LW.out d)
        clear HYk HSW k0 k1
        go_wp2
        go_roundw
        case rel => exact ⟨k + 1, by omega, by go_num, HF, LD⟩
        case measure => simp [intOf]; omega
      have hjl' : (j : Int) < (xs.length : Int) := by omega
      obtain ⟨h3, h4⟩ := HC.out j hjl
      rw [← LW.out.cell (p := ⟨g, off + j * 2, none⟩) hg] at h3
      rw [← LW.out.cell (p := ⟨g, off + j * 2 + 1, none⟩) hg] at h4
      have he2 := HE.out j hjl
      have hsj := HSW.out j hkj
      have HYj := Lib.hid (fun (hy : swAt xs M k j = true) => HYk.out j hjl hy HQ.out)
      have HNj := Lib.hid (fun (hp : swAt xs M k j = false) => show ∀ t, t < j + 1 → swAt xs M k t = false from fun t ht => by
        by_cases e : t = j
        · rw [e]; exact hp
        · exact HQ.out t (by omega))
      rw [hsj] at HYj HNj
      clear hsj HYk HSW
      obtain ⟨x, hx⟩ : ∃ x, xs.getD j (0, 0) = x := ⟨_, rfl⟩
      rw [hx] at h3 h4 he2 HYj HNj
      obtain ⟨p2, n2⟩ := x
      simp only at h3 h4 he2 HYj HNj
      have hcb := chg_bound (x := (pl, n)) (y := (p2, n2)) HE1.out he2
      simp only at hcb
      obtain ⟨⟨u0, u1⟩, u2, u3⟩ := he2
      obtain ⟨⟨e0, e1⟩, e2, e3⟩ := HE1.out
      have m0 := HM0.out
      have m1 := HM1.out
      have a0 : -9223372036854775808 ≤ n - n2 := by omega
      have a1 : n - n2 ≤ 9223372036854775807 := by omega
      have b0 : -9223372036854775808 ≤ p2 - pl := by omega
      have b1 : p2 - pl ≤ 9223372036854775807 := by omega
      have c0 : -9223372036854775808 ≤ (n - n2) * (p2 - pl) := by omega
      have c1 : (n - n2) * (p2 - pl) ≤ 9223372036854775807 := by omega
      have d0 : -9223372036854775808 ≤ M + (n - n2) * (p2 - pl) := by omega
      have d1 : M + (n - n2) * (p2 - pl) ≤ 9223372036854775807 := by omega
      have hwa : IntKind.i64.wrap (n - n2) = n - n2 := by rw [IntKind.wrap_i64]; omega
      have hwb : IntKind.i64.wrap (p2 - pl) = p2 - pl := by rw [IntKind.wrap_i64]; omega
      have hwc : IntKind.i64.wrap ((n - n2) * (p2 - pl)) = (n - n2) * (p2 - pl) := by rw [IntKind.wrap_i64]; omega
      have hwd : IntKind.i64.wrap (M + (n - n2) * (p2 - pl)) = M + (n - n2) * (p2 - pl) := by rw [IntKind.wrap_i64]; omega
      clear hx hcb u0 u1 u2 u3 e0 e1 e2 e3 m0 m1
      by_cases hz : M + (n - n2) * (p2 - pl) = 0
      · have hq : (M + (n - n2) * (p2 - pl) == 0) = true := by simp [hz]
        have HF := Lib.hid (HYj.out (decide_eq_true hz))
        have LD := Lib.hid (fun q => lo_drewN (lo_drewN LW.out d) q)
        clear HYj HNj hz
        go_wp2
        go_quiet (fail)
        go_wp2
        go_ret3
        exact ⟨by rw [HF.out.1, HF.out.2.1, HF.out.2.2]; rfl, LD.out _⟩
      · have hq : (M + (n - n2) * (p2 - pl) == 0) = false := by simpa using hz
        have HF := Lib.hid (HNj.out (decide_eq_false hz))
        clear HYj HNj hz
        go_wp2
        go_quiet (fail)
        go_wp2
        go_roundw
        case rel => exact ⟨j + 1, d + nq, by omega, by omega, by go_num, HF, by simp⟩
        case measure => simp [intOf]; omega
theorem moveI_any (v : Value) (xs : List (Int × Int)) (p : Int) (w : World) (hr : LoadRow w v xs) :
    Calls Try.prog 58 #[v, .int .i64 p] w fun e w' => e = .returned (.tuple #[.int .i64 (mvI xs p), .int .i64 (mvT xs p), .bool (mvN xs p).isSome]) ∧ Below w.heap.size w w' := by
  cases h : offB xs p with
  | true => exact mvI_yes v xs p w hr h
  | false =>
    obtain ⟨⟨e1, e2, e3⟩, _⟩ := off_no h
    exact mvI_no v xs p w hr h _ (by rw [e1, e2, e3])
theorem swapI_any (v : Value) (xs : List (Int × Int)) (p : Int) (w : World) (hr : LoadRow w v xs) :
    Calls Try.prog 60 #[v, .int .i64 p] w fun e w' => e = .returned (.tuple #[.int .i64 (swI xs p), .int .i64 (swJ xs p), .bool (swN xs p).isSome]) ∧ Below w.heap.size w w' := by
  cases h : offB xs p with
  | true => exact swI_yes v xs p w hr h
  | false =>
    obtain ⟨_, e1, e2, e3⟩ := off_no h
    exact swI_no v xs p w hr h _ (by rw [e1, e2, e3])
end Go.Proofs.Ytgjchkcjlmklbaa
