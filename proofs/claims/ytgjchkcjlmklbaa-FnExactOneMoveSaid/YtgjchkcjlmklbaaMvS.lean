/- The contracts of the model's OneMove and OneSwap. -/
import Derived.Test.YtgjchkcjlmklbaaMvP
import Derived.Test.YtgjchkcjlmklbaaSpec1
import Derived.Test.YtgjchkcjlmklbaaSw1
namespace Go.Proofs.Ytgjchkcjlmklbaa
open Go.RowKit
theorem rp_rowM (row : List (Int × Int)) (p : Int) : rpB row p = (rowB row && (decide (0 ≤ p) && decide (p ≤ 60))) := by
  rw [Bool.eq_iff_iff, rpB_iff, Bool.and_eq_true, rowB_iff]
  simp
set_option maxRecDepth 100000 in
set_option maxHeartbeats 1600000 in
theorem mvS_no (v : Value) (xs : List (Int × Int)) (p : Int) (w : World) (hr : LoadRow w v xs) (h : offB xs p = false) (F : Value) (hF : F = .tuple #[.int .i64 0, .int .i64 0, .bool false]) :
    Calls Try.prog 57 #[v, .int .i64 p] w fun e w' => e = .returned F ∧ Below w.heap.size w w' := by
  subst hF
  have R := Lib.hid (l2Row_is v xs _ rfl w hr)
  have I := Lib.hid (fun w => l2In_is p _ rfl w)
  have MO := Lib.hid (fun (hz : rpB xs p = true) w1 (l : Below w.heap.size w w1) => l2Moment_any v xs p w1 (hr.lo l) ((rpB_iff xs p).1 hz).1 ((rpB_iff xs p).1 hz).2.1 ((rpB_iff xs p).1 hz).2.2)
  have HM := Lib.hid (fun (hz : rpB xs p = true) => show momF p xs = 0 by
    by_cases hm : momF p xs = 0
    · exact hm
    · rw [(off_iff xs p).2 ⟨(rpB_iff xs p).1 hz, hm⟩] at h; cases h)
  have HP := Lib.hid (rp_rowM xs p)
  generalize rpB xs p = r at *
  generalize momF p xs = M at *
  generalize rowB xs = b1 at *
  generalize (decide (0 ≤ p) && decide (p ≤ 60)) = b2 at *
  have hp := HP.out
  subst hp
  clear hr h
  cases b1 with
  | false =>
    clear I MO HM
    go_enter Try.func57, Try.ntmps57
    go_wp2_with fail
    refine R.out.mono ?_
    rintro e w' ⟨rfl, rfl⟩
    go_wp2
    go_ret3
    exact ⟨rfl, Below.refl _ _⟩
  | true =>
    cases b2 with
    | false =>
      clear MO HM
      go_enter Try.func57, Try.ntmps57
      go_wp2_with fail
      refine R.out.mono ?_
      rintro e w' ⟨rfl, rfl⟩
      go_wp2_with fail
      refine (I.out _).mono ?_
      rintro e w' ⟨rfl, rfl⟩
      go_wp2
      go_ret3
      exact ⟨rfl, Below.refl _ _⟩
    | true =>
      have hm := HM.out (by rfl)
      subst hm
      have MM := Lib.hid (fun w1 l => MO.out (by rfl) w1 l)
      clear MO HM
      go_enter Try.func57, Try.ntmps57
      go_wp2_with fail
      refine R.out.mono ?_
      rintro e w' ⟨rfl, rfl⟩
      go_wp2_with fail
      refine (I.out _).mono ?_
      rintro e w' ⟨rfl, rfl⟩
      go_wp2_with fail
      refine (MM.out _ (Below.refl _ _)).mono ?_
      rintro e w1 ⟨rfl, l1⟩
      have L1 := Lib.hid l1
      clear l1 MM
      go_wp2
      go_ret3
      exact ⟨rfl, L1.out⟩
set_option maxRecDepth 100000 in
set_option maxHeartbeats 1600000 in
theorem swS_no (v : Value) (xs : List (Int × Int)) (p : Int) (w : World) (hr : LoadRow w v xs) (h : offB xs p = false) (F : Value) (hF : F = .tuple #[.int .i64 0, .int .i64 0, .bool false]) :
    Calls Try.prog 59 #[v, .int .i64 p] w fun e w' => e = .returned F ∧ Below w.heap.size w w' := by
  subst hF
  have R := Lib.hid (l2Row_is v xs _ rfl w hr)
  have I := Lib.hid (fun w => l2In_is p _ rfl w)
  have MO := Lib.hid (fun (hz : rpB xs p = true) w1 (l : Below w.heap.size w w1) => l2Moment_any v xs p w1 (hr.lo l) ((rpB_iff xs p).1 hz).1 ((rpB_iff xs p).1 hz).2.1 ((rpB_iff xs p).1 hz).2.2)
  have HM := Lib.hid (fun (hz : rpB xs p = true) => show momF p xs = 0 by
    by_cases hm : momF p xs = 0
    · exact hm
    · rw [(off_iff xs p).2 ⟨(rpB_iff xs p).1 hz, hm⟩] at h; cases h)
  have HP := Lib.hid (rp_rowM xs p)
  generalize rpB xs p = r at *
  generalize momF p xs = M at *
  generalize rowB xs = b1 at *
  generalize (decide (0 ≤ p) && decide (p ≤ 60)) = b2 at *
  have hp := HP.out
  subst hp
  clear hr h
  cases b1 with
  | false =>
    clear I MO HM
    go_enter Try.func59, Try.ntmps59
    go_wp2_with fail
    refine R.out.mono ?_
    rintro e w' ⟨rfl, rfl⟩
    go_wp2
    go_ret3
    exact ⟨rfl, Below.refl _ _⟩
  | true =>
    cases b2 with
    | false =>
      clear MO HM
      go_enter Try.func59, Try.ntmps59
      go_wp2_with fail
      refine R.out.mono ?_
      rintro e w' ⟨rfl, rfl⟩
      go_wp2_with fail
      refine (I.out _).mono ?_
      rintro e w' ⟨rfl, rfl⟩
      go_wp2
      go_ret3
      exact ⟨rfl, Below.refl _ _⟩
    | true =>
      have hm := HM.out (by rfl)
      subst hm
      have MM := Lib.hid (fun w1 l => MO.out (by rfl) w1 l)
      clear MO HM
      go_enter Try.func59, Try.ntmps59
      go_wp2_with fail
      refine R.out.mono ?_
      rintro e w' ⟨rfl, rfl⟩
      go_wp2_with fail
      refine (I.out _).mono ?_
      rintro e w' ⟨rfl, rfl⟩
      go_wp2_with fail
      refine (MM.out _ (Below.refl _ _)).mono ?_
      rintro e w1 ⟨rfl, l1⟩
      have L1 := Lib.hid l1
      clear l1 MM
      go_wp2
      go_ret3
      exact ⟨rfl, L1.out⟩
set_option maxRecDepth 100000 in
set_option maxHeartbeats 6400000 in
theorem mvS_yes (v : Value) (xs : List (Int × Int)) (p : Int) (w : World) (hr : LoadRow w v xs) (h : offB xs p = true) :
    Calls Try.prog 57 #[v, .int .i64 p] w fun e w' => e = .returned (.tuple #[.int .i64 (mvI xs p), .int .i64 (mvT xs p), .bool (mvN xs p).isSome]) ∧ Below w.heap.size w w' := by
  obtain ⟨⟨h1, h2, h3⟩, hm⟩ := (off_iff xs p).1 h
  have R := Lib.hid (l2Row_is v xs true ((rowB_iff xs).2 h1) w hr)
  have I := Lib.hid (fun w => l2In_is p true (by rw [decide_eq_true h2, decide_eq_true h3]; rfl) w)
  have IT := Lib.hid (fun z r hz w => l2In_is z r hz w)
  have MO := Lib.hid (fun w1 (l : Below w.heap.size w w1) => l2Moment_any v xs p w1 (hr.lo l) h1 h2 h3)
  have HY := Lib.hid (fun k hk hy hn => mv_at h (k := k) hk hy hn)
  have HN := Lib.hid (fun hn => mv_end (xs := xs) (p := p) hn)
  have HE := Lib.hid (fun k hk => row_at h1 (k := k) hk)
  obtain ⟨m0, m1⟩ := (rowF_bounds h1).2.2.2 p h2 h3
  have h12 := h1.short
  obtain ⟨a, c, rfl, hr⟩ := hr
  generalize momF p xs = M at *
  generalize mvI xs p = R0 at *
  generalize mvT xs p = R1 at *
  generalize (mvN xs p).isSome = R2 at *
  have hq0 : (M == 0) = false := by simpa using hm
  have HM0 := Lib.hid m0
  have HM1 := Lib.hid m1
  clear h h1 h2 h3 hm m0 m1
  go_enter Try.func57, Try.ntmps57
  go_wp2_with fail
  refine R.out.mono ?_
  rintro e w' ⟨rfl, rfl⟩
  go_wp2_with fail
  refine (I.out _).mono ?_
  rintro e w' ⟨rfl, rfl⟩
  go_wp2_with fail
  refine (MO.out _ (Below.refl _ _)).mono ?_
  rintro e w1 ⟨rfl, l1⟩
  have L1 := Lib.hid l1
  clear l1 R I
  go_wp2
  go_loopw [7] (fun i wr => ∃ k : Nat, k ≤ xs.length ∧ i = .int .i64 k ∧ Hid (∀ j, j < k → mvAt xs M j = false) ∧ Hid (Below w.heap.size w wr)) (fun i _ => xs.length - (intOf i).toNat)
  case atStart => exact ⟨0, Nat.zero_le _, rfl, Lib.hid (fun j h => by omega), L1⟩
  case round =>
    obtain ⟨k, hk, rfl, HP, HB⟩ := hrel
    by_cases hlt : k < xs.length
    · rcases hr with h | ⟨g, off, rfl, hg, hc⟩
      · subst h; simp at hlt
      have hlt' : (k : Int) < (xs.length : Int) := by omega
      have MM := Lib.hid (MO.out wr HB.out)
      have HC := Lib.hid (hc k hlt)
      go_wp2_with fail
      refine MM.out.mono ?_
      rintro e w2 ⟨rfl, l2⟩
      have LB := Lib.hid (HB.out.trans (l2.mono HB.out.size))
      obtain ⟨h1, h2⟩ := HC.out
      rw [← LB.out.cell (p := ⟨g, off + k * 2, none⟩) hg] at h1
      rw [← LB.out.cell (p := ⟨g, off + k * 2 + 1, none⟩) hg] at h2
      have he := HE.out k hlt
      have m0 := HM0.out
      have m1 := HM1.out
      have HYk := Lib.hid (fun (hy : mvAt xs M k = true) => HY.out k hlt hy HP.out)
      have HNk := Lib.hid (fun (hp : mvAt xs M k = false) => show ∀ j, j < k + 1 → mvAt xs M j = false from fun j hj => by
        by_cases e : j = k
        · rw [e]; exact hp
        · exact HP.out j (by omega))
      unfold mvAt toF at HYk HNk
      clear l2 MM
      obtain ⟨x, hx⟩ : ∃ x, xs.getD k (0, 0) = x := ⟨_, rfl⟩
      rw [hx] at h1 h2 he HYk HNk
      obtain ⟨pl, n⟩ := x
      simp only at h1 h2 he HYk HNk
      obtain ⟨⟨e0, e1⟩, e2, e3⟩ := he
      obtain ⟨⟨d0, d1⟩, q0, q1⟩ := quo_small (n := n) m0 m1
      obtain ⟨d, hdd⟩ : ∃ d, Int.tdiv M n = d := ⟨_, rfl⟩
      obtain ⟨r, hrr⟩ : ∃ r, Int.tmod M n = r := ⟨_, rfl⟩
      rw [hdd] at d0 d1 HYk HNk
      rw [hrr] at q0 q1 HYk HNk
      have hn0 : ¬ n = 0 := by omega
      have hw1 : IntKind.i64.wrap d = d := by rw [IntKind.wrap_i64]; omega
      have hw2 : RowKit.wrap64 d = d := Go.IntWalk.wrap64_in d (by omega)
      have hw3 : IntKind.i64.wrap r = r := by rw [IntKind.wrap_i64]; omega
      have hw4 : RowKit.wrap64 r = r := Go.IntWalk.wrap64_in r (by omega)
      have hw5 : IntKind.i64.wrap (pl - d) = pl - d := by rw [IntKind.wrap_i64]; omega
      have hw6 : RowKit.wrap64 (pl - d) = pl - d := Go.IntWalk.wrap64_in _ (by omega)
      have t0 : -9223372036854775808 ≤ pl - d := by omega
      have t1 : pl - d ≤ 9223372036854775807 := by omega
      clear hx hc e0 e1 e2 e3 d0 d1 q0 q1 m0 m1
      have LN := Lib.hid (fun q => lo_drewN LB.out q)
      by_cases hr0 : r = 0
      · have hq : (r != 0) = false := by simp [hr0]
        rw [decide_eq_true hr0, Bool.true_and] at HYk HNk
        clear hr0
        by_cases hto : 0 ≤ pl - d ∧ pl - d ≤ 60
        · have ht : (decide (0 ≤ pl - d) && decide (pl - d ≤ 60)) = true := by rw [decide_eq_true hto.1, decide_eq_true hto.2]; rfl
          have P1 := Lib.hid (fun w => IT.out (pl - d) true ht w)
          rw [ht] at HYk
          have HF := Lib.hid (HYk.out rfl)
          clear HYk HNk hto ht IT
          go_wp2
          go_quiet (fail)
          go_wp2_with fail
          refine (P1.out _).mono ?_
          rintro e w' ⟨rfl, rfl⟩
          go_wp2
          go_ret3
          exact ⟨by rw [HF.out.1, HF.out.2.1, HF.out.2.2]; rfl, LN.out _⟩
        · have ht : (decide (0 ≤ pl - d) && decide (pl - d ≤ 60)) = false := by simp; omega
          have P1 := Lib.hid (fun w => IT.out (pl - d) false ht w)
          rw [ht] at HNk
          have HF := Lib.hid (HNk.out rfl)
          clear HYk HNk hto ht
          go_wp2
          go_quiet (fail)
          go_wp2_with fail
          refine (P1.out _).mono ?_
          rintro e w' ⟨rfl, rfl⟩
          go_wp2
          go_roundw
          case rel => exact ⟨k + 1, by omega, by go_num, HF, Lib.hid (LN.out _)⟩
          case measure => simp [intOf]; omega
      · have hq : (r != 0) = true := by simpa using hr0
        rw [decide_eq_false hr0, Bool.false_and] at HNk
        have HF := Lib.hid (HNk.out rfl)
        clear HYk HNk hr0
        go_wp2
        go_roundw
        case rel => exact ⟨k + 1, by omega, by go_num, HF, LB⟩
        case measure => simp [intOf]; omega
    · obtain rfl : k = xs.length := by omega
      have hge : ¬ (xs.length : Int) < (xs.length : Int) := by omega
      have HF := Lib.hid (HN.out HP.out)
      go_wp2
      go_ret3
      exact ⟨by rw [HF.out.1, HF.out.2.1, HF.out.2.2]; rfl, HB.out⟩
set_option maxRecDepth 100000 in
set_option maxHeartbeats 6400000 in
theorem swS_yes (v : Value) (xs : List (Int × Int)) (p : Int) (w : World) (hr : LoadRow w v xs) (h : offB xs p = true) :
    Calls Try.prog 59 #[v, .int .i64 p] w fun e w' => e = .returned (.tuple #[.int .i64 (swI xs p), .int .i64 (swJ xs p), .bool (swN xs p).isSome]) ∧ Below w.heap.size w w' := by
  obtain ⟨⟨h1, h2, h3⟩, hm⟩ := (off_iff xs p).1 h
  have R := Lib.hid (l2Row_is v xs true ((rowB_iff xs).2 h1) w hr)
  have I := Lib.hid (fun w => l2In_is p true (by rw [decide_eq_true h2, decide_eq_true h3]; rfl) w)
  have MO := Lib.hid (fun w1 (l : Below w.heap.size w w1) => l2Moment_any v xs p w1 (hr.lo l) h1 h2 h3)
  have HY := Lib.hid (fun i j hi hj hy hn hr => sw_at h (i := i) (j := j) hi hj hy hn hr)
  have HN := Lib.hid (fun hn => sw_end (xs := xs) (p := p) hn)
  have HE := Lib.hid (fun k hk => row_at h1 (k := k) hk)
  obtain ⟨m0, m1⟩ := (rowF_bounds h1).2.2.2 p h2 h3
  have h12 := h1.short
  obtain ⟨a, c, rfl, hr⟩ := hr
  generalize momF p xs = M at *
  generalize swI xs p = R0 at *
  generalize swJ xs p = R1 at *
  generalize (swN xs p).isSome = R2 at *
  have hq0 : (M == 0) = false := by simpa using hm
  have HM0 := Lib.hid m0
  have HM1 := Lib.hid m1
  clear h h1 h2 h3 hm m0 m1
  go_enter Try.func59, Try.ntmps59
  go_wp2_with fail
  refine R.out.mono ?_
  rintro e w' ⟨rfl, rfl⟩
  go_wp2_with fail
  refine (I.out _).mono ?_
  rintro e w' ⟨rfl, rfl⟩
  go_wp2_with fail
  refine (MO.out _ (Below.refl _ _)).mono ?_
  rintro e w1 ⟨rfl, l1⟩
  have L1 := Lib.hid l1
  clear l1 R I
  go_wp2
  go_loopw [7] (fun i wr => ∃ k : Nat, k ≤ xs.length ∧ i = .int .i64 k ∧ Hid (∀ t, t < k → (swRow xs M t).isSome = false) ∧ Hid (Below w.heap.size w wr)) (fun i _ => xs.length - (intOf i).toNat)
  case atStart => exact ⟨0, Nat.zero_le _, rfl, Lib.hid (fun j h => by omega), L1⟩
  case round =>
    obtain ⟨k, hk, rfl, HP, HB⟩ := hrel
    obtain ⟨wq, rfl⟩ : ∃ wq : World, wq = wr := ⟨_, rfl⟩
    by_cases hlt : k < xs.length
    case neg =>
      obtain rfl : k = xs.length := by omega
      have hge : ¬ (xs.length : Int) < (xs.length : Int) := by omega
      have HF := Lib.hid (HN.out HP.out)
      go_wp2
      go_ret3
      exact ⟨by rw [HF.out.1, HF.out.2.1, HF.out.2.2]; rfl, HB.out⟩
    rcases hr with h | ⟨g, off, rfl, hg, hc⟩
    · subst h; simp at hlt
    have HC := Lib.hid hc
    have hlt' : (k : Int) < (xs.length : Int) := by omega
    have HYk := Lib.hid (fun j (hj : j < xs.length) (hy : swAt xs M k j = true) hn => HY.out k j hlt hj hy hn HP.out)
    have HPk := Lib.hid (fun (hp : ∀ t, t < xs.length → swAt xs M k t = false) => show ∀ t, t < k + 1 → (swRow xs M t).isSome = false from fun t ht => by
      by_cases e : t = k
      · rw [e]; exact sw_row hp
      · exact HP.out t (by omega))
    have HSW := Lib.hid (fun j (hj : k < j) => show swAt xs M k j = decide (M + chgF xs k j = 0) by unfold swAt; rw [decide_eq_true hj, Bool.true_and])
    unfold chgF at HSW
    have hks : (k : Int) + 1 ≤ 9223372036854775807 := by omega
    clear hc HP HY
    go_wp2
    go_loopw [8] (fun y ws => ∃ j : Nat, k < j ∧ j ≤ xs.length ∧ y = .int .i64 j ∧ Hid (∀ t, t < j → swAt xs M k t = false) ∧ Hid (Below w.heap.size w ws)) (fun y _ => xs.length - (intOf y).toNat)
    case atStart => exact ⟨k + 1, by omega, by omega, by go_num, Lib.hid (fun t h => sw_low (by omega)), HB⟩
    case round =>
      obtain ⟨j, hkj, hj, rfl, HQ, HL⟩ := hrel
      by_cases hjl : j < xs.length
      case neg =>
        obtain rfl : j = xs.length := by omega
        have hge : ¬ (xs.length : Int) < (xs.length : Int) := by omega
        have HF := Lib.hid (HPk.out HQ.out)
        clear HYk HSW
        go_wp2
        go_roundw
        case rel => exact ⟨k + 1, by omega, by go_num, HF, HL⟩
        case measure => simp [intOf]; omega
      have hjl' : (j : Int) < (xs.length : Int) := by omega
      obtain ⟨h1, h2⟩ := HC.out k hlt
      rw [← HL.out.cell (p := ⟨g, off + k * 2, none⟩) hg] at h1
      rw [← HL.out.cell (p := ⟨g, off + k * 2 + 1, none⟩) hg] at h2
      obtain ⟨h3, h4⟩ := HC.out j hjl
      rw [← HL.out.cell (p := ⟨g, off + j * 2, none⟩) hg] at h3
      rw [← HL.out.cell (p := ⟨g, off + j * 2 + 1, none⟩) hg] at h4
      have HE1 := Lib.hid (HE.out k hlt)
      have he2 := HE.out j hjl
      have hsj := HSW.out j hkj
      have HYj := Lib.hid (fun (hy : swAt xs M k j = true) => HYk.out j hjl hy HQ.out)
      have HNj := Lib.hid (fun (hp : swAt xs M k j = false) => show ∀ t, t < j + 1 → swAt xs M k t = false from fun t ht => by
        by_cases e : t = j
        · rw [e]; exact hp
        · exact HQ.out t (by omega))
      rw [hsj] at HYj HNj
      obtain ⟨y, hyy⟩ : ∃ y, xs.getD k (0, 0) = y := ⟨_, rfl⟩
      rw [hyy] at h1 h2 HE1 HYj HNj
      obtain ⟨pl, n⟩ := y
      simp only at h1 h2 HYj HNj
      clear hsj HYk HSW hyy
      obtain ⟨x, hx⟩ : ∃ x, xs.getD j (0, 0) = x := ⟨_, rfl⟩
      rw [hx] at h3 h4 he2 HYj HNj
      obtain ⟨p2, n2⟩ := x
      simp only at h3 h4 he2 HYj HNj
      have hcb := chg_bound (x := (pl, n)) (y := (p2, n2)) HE1.out he2
      simp only at hcb
      obtain ⟨⟨u0, u1⟩, u2, u3⟩ := he2
      obtain ⟨⟨e0, e1⟩, e2, e3⟩ := HE1.out
      have m0 := HM0.out
      have m1 := HM1.out
      have a0 : -9223372036854775808 ≤ n - n2 := by omega
      have a1 : n - n2 ≤ 9223372036854775807 := by omega
      have b0 : -9223372036854775808 ≤ p2 - pl := by omega
      have b1 : p2 - pl ≤ 9223372036854775807 := by omega
      have c0 : -9223372036854775808 ≤ (n - n2) * (p2 - pl) := by omega
      have c1 : (n - n2) * (p2 - pl) ≤ 9223372036854775807 := by omega
      have d0 : -9223372036854775808 ≤ M + (n - n2) * (p2 - pl) := by omega
      have d1 : M + (n - n2) * (p2 - pl) ≤ 9223372036854775807 := by omega
      have hwa : IntKind.i64.wrap (n - n2) = n - n2 := by rw [IntKind.wrap_i64]; omega
      have hwb : IntKind.i64.wrap (p2 - pl) = p2 - pl := by rw [IntKind.wrap_i64]; omega
      have hwc : IntKind.i64.wrap ((n - n2) * (p2 - pl)) = (n - n2) * (p2 - pl) := by rw [IntKind.wrap_i64]; omega
      have hwd : IntKind.i64.wrap (M + (n - n2) * (p2 - pl)) = M + (n - n2) * (p2 - pl) := by rw [IntKind.wrap_i64]; omega
      clear hx hcb u0 u1 u2 u3 e0 e1 e2 e3 m0 m1
      have MM := Lib.hid (fun q => MO.out (wr.drewN q) (lo_drewN HL.out q))
      have LN := Lib.hid (fun q => lo_drewN HL.out q)
      by_cases hz : M + (n - n2) * (p2 - pl) = 0
      · have hq : (M + (n - n2) * (p2 - pl) == 0) = true := by simp [hz]
        have HF := Lib.hid (HYj.out (decide_eq_true hz))
        clear HYj HNj hz MO
        go_wp2
        go_quiet (fail)
        go_wp2_with fail
        refine (MM.out _).mono ?_
        rintro e w2 ⟨rfl, l2⟩
        have LB := Lib.hid ((LN.out _).trans (l2.mono HL.out.size))
        clear l2 MM
        go_wp2
        go_ret3
        exact ⟨by rw [HF.out.1, HF.out.2.1, HF.out.2.2]; rfl, LB.out⟩
      · have hq : (M + (n - n2) * (p2 - pl) == 0) = false := by simpa using hz
        have HF := Lib.hid (HNj.out (decide_eq_false hz))
        clear HYj HNj hz
        go_wp2
        go_quiet (fail)
        go_wp2_with fail
        refine (MM.out _).mono ?_
        rintro e w2 ⟨rfl, l2⟩
        have LB := Lib.hid ((LN.out _).trans (l2.mono HL.out.size))
        clear l2 MM
        go_wp2
        go_roundw
        case rel => exact ⟨j + 1, by omega, by omega, by go_num, HF, LB⟩
        case measure => simp [intOf]; omega
theorem moveS_any (v : Value) (xs : List (Int × Int)) (p : Int) (w : World) (hr : LoadRow w v xs) :
    Calls Try.prog 57 #[v, .int .i64 p] w fun e w' => e = .returned (.tuple #[.int .i64 (mvI xs p), .int .i64 (mvT xs p), .bool (mvN xs p).isSome]) ∧ Below w.heap.size w w' := by
  cases h : offB xs p with
  | true => exact mvS_yes v xs p w hr h
  | false =>
    obtain ⟨⟨e1, e2, e3⟩, _⟩ := off_no h
    exact mvS_no v xs p w hr h _ (by rw [e1, e2, e3])
theorem swapS_any (v : Value) (xs : List (Int × Int)) (p : Int) (w : World) (hr : LoadRow w v xs) :
    Calls Try.prog 59 #[v, .int .i64 p] w fun e w' => e = .returned (.tuple #[.int .i64 (swI xs p), .int .i64 (swJ xs p), .bool (swN xs p).isSome]) ∧ Below w.heap.size w w' := by
  cases h : offB xs p with
  | true => exact swS_yes v xs p w hr h
  | false =>
    obtain ⟨_, e1, e2, e3⟩ := off_no h
    exact swS_no v xs p w hr h _ (by rw [e1, e2, e3])
end Go.Proofs.Ytgjchkcjlmklbaa
