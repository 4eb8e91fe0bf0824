/- The contracts of the model's LeastCounter. -/
import Derived.Test.YtjchmjbgboeolaaCount3
namespace Go.Proofs.Ytjchmjbgboeolaa
open Go.RowKit
theorem specLeast_no (v : Value) (xs : List (Int × Int)) (a b p : Int) (w : World) (h : LoadRow w v xs) (hz : (rowB xs && baseB a b && (decide (0 ≤ p) && decide (p ≤ 60))) = false) :
    Calls Try.prog 26 #[v, .int .i64 a, .int .i64 b, .int .i64 p] w fun e w' => e = .returned (.tuple #[.int .i64 0, .bool false]) ∧ Below w.heap.size w w' := by
  cases hb : (rowB xs && baseB a b) with
  | false =>
    have D := Lib.hid (l2On_is v xs a b false hb w h)
    clear h hz hb
    go_enter Try.func26, Try.ntmps26
    go_wp2_with fail
    refine D.out.mono ?_
    rintro e w' ⟨rfl, rfl⟩
    go_wp2
    go_ret2
    exact ⟨rfl, Below.refl _ _⟩
  | true =>
    have D := Lib.hid (l2On_is v xs a b true hb w h)
    rw [hb, Bool.true_and] at hz
    have PP := Lib.hid (l2In_is p false hz w)
    clear h hz hb
    go_enter Try.func26, Try.ntmps26
    go_wp2_with fail
    refine D.out.mono ?_
    rintro e w' ⟨rfl, rfl⟩
    go_wp2_with fail
    refine PP.out.mono ?_
    rintro e w' ⟨rfl, rfl⟩
    go_wp2
    go_ret2
    exact ⟨rfl, Below.refl _ _⟩
theorem specLeast_zero (v : Value) (xs : List (Int × Int)) (a b p : Int) (w : World) (h : LoadRow w v xs) (hz : RowF xs) (hb : baseB a b = true) (hp : (decide (0 ≤ p) && decide (p ≤ 60)) = true) (hs : sideF a b xs = 0) :
    Calls Try.prog 26 #[v, .int .i64 a, .int .i64 b, .int .i64 p] w fun e w' => e = .returned (.tuple #[.int .i64 0, .bool true]) ∧ Below w.heap.size w w' := by
  have hbb := (baseB_iff a b).1 hb
  have D := Lib.hid (l2On_is v xs a b true (by rw [(rowB_iff xs).2 hz, hb]; rfl) w h)
  have PP := Lib.hid (l2In_is p true hp w)
  have S := Lib.hid (l2Side_any v xs a b w h hz (by omega) (by omega) (by omega) (by omega))
  rw [hs] at S
  clear h hz hb hp hs hbb
  go_enter Try.func26, Try.ntmps26
  go_wp2_with fail
  refine D.out.mono ?_
  rintro e w' ⟨rfl, rfl⟩
  go_wp2_with fail
  refine PP.out.mono ?_
  rintro e w' ⟨rfl, rfl⟩
  go_wp2_with fail
  refine S.out.mono ?_
  rintro e w1 ⟨rfl, l1⟩
  go_wp2
  go_ret2
  exact ⟨rfl, l1⟩
set_option maxHeartbeats 1600000 in
theorem specLeast_full (v : Value) (xs : List (Int × Int)) (a b p : Int) (w : World) (h : LoadRow w v xs) (hz : RowF xs) (hb : baseB a b = true) (hp : (decide (0 ≤ p) && decide (p ≤ 60)) = true) (hs : sideF a b xs ≠ 0) (hl : xs.length = 12) :
    Calls Try.prog 26 #[v, .int .i64 a, .int .i64 b, .int .i64 p] w fun e w' => e = .returned (.tuple #[.int .i64 0, .bool false]) ∧ Below w.heap.size w w' := by
  have hbb := (baseB_iff a b).1 hb
  have D := Lib.hid (l2On_is v xs a b true (by rw [(rowB_iff xs).2 hz, hb]; rfl) w h)
  have PP := Lib.hid (l2In_is p true hp w)
  have S := Lib.hid (l2Side_any v xs a b w h hz (by omega) (by omega) (by omega) (by omega))
  generalize sideF a b xs = s at *
  have hsb : (s == 0) = false := by simpa using hs
  obtain ⟨x, c, rfl, _⟩ := h
  rw [hl] at D S ⊢
  clear hz hb hp hs hbb
  go_enter Try.func26, Try.ntmps26
  go_wp2_with fail
  refine D.out.mono ?_
  rintro e w' ⟨rfl, rfl⟩
  go_wp2_with fail
  refine PP.out.mono ?_
  rintro e w' ⟨rfl, rfl⟩
  go_wp2_with fail
  refine S.out.mono ?_
  rintro e w1 ⟨rfl, l1⟩
  go_wp2
  refine wp_loop_rounds 1 ?_
  rw [rounds_succ]
  go_wp2
  go_ret2
  exact ⟨rfl, l1⟩
set_option maxHeartbeats 1600000 in
theorem specLeast_far (v : Value) (xs : List (Int × Int)) (a b p : Int) (w : World) (h : SRow w v xs) (hz : RowF xs) (hb : baseB a b = true) (hp : (decide (0 ≤ p) && decide (p ≤ 60)) = true) (hs : sideF a b xs ≠ 0) (hl : xs.length < 12) :
    Calls Try.prog 26 #[v, .int .i64 a, .int .i64 b, .int .i64 p] w fun e w' => e = .returned (.tuple #[.int .i64 (lcF (fun k => decide (sideF a b (xs ++ [(p, (k : Int))]) = 0)) 99 1).1, .bool (lcF (fun k => decide (sideF a b (xs ++ [(p, (k : Int))]) = 0)) 99 1).2]) ∧ Below w.heap.size w w' := by
  have hbb := (baseB_iff a b).1 hb
  have hp' : 0 ≤ p ∧ p ≤ 60 := by simpa using hp
  have D := Lib.hid (l2On_is v xs a b true (by rw [(rowB_iff xs).2 hz, hb]; rfl) w h.load)
  have PP := Lib.hid (l2In_is p true hp w)
  have S := Lib.hid (l2Side_any v xs a b w h.load hz (by omega) (by omega) (by omega) (by omega))
  have WI := Lib.hid (fun (k : Nat) w1 (l : Below w.heap.size w w1) => l2With_any v xs p k w1 (h.lo l) hz.short)
  have SI := Lib.hid (fun (k : Nat) (hk : 1 ≤ k ∧ k ≤ 99) v1 w1 (o : LoadRow w1 v1 (xs ++ [(p, (k : Int))])) => l2Side_any v1 (xs ++ [(p, (k : Int))]) a b w1 o (rowF_snoc hz hl ⟨hp', by simp; omega⟩) (by omega) (by omega) (by omega) (by omega))
  generalize hst : (fun k : Nat => decide (sideF a b (xs ++ [(p, (k : Int))]) = 0)) = st at *
  have HST := Lib.hid (fun k : Nat => show st k = decide (sideF a b (xs ++ [(p, (k : Int))]) = 0) by rw [← hst])
  generalize sideF a b xs = s at *
  have hsb : (s == 0) = false := by simpa using hs
  have h12 : (xs.length : Int) < 12 := by omega
  obtain ⟨n, r, hnr⟩ : ∃ n r, lcF st 99 1 = (n, r) := ⟨_, _, rfl⟩
  have HNR := Lib.hid hnr
  rw [hnr]
  obtain ⟨g, off, c, rfl, _⟩ := h
  clear hz hb hp hs hst hnr hbb hp'
  go_enter Try.func26, Try.ntmps26
  go_wp2_with fail
  refine D.out.mono ?_
  rintro e w' ⟨rfl, rfl⟩
  go_wp2_with fail
  refine PP.out.mono ?_
  rintro e w' ⟨rfl, rfl⟩
  go_wp2_with fail
  refine S.out.mono ?_
  rintro e w1 ⟨rfl, l1⟩
  go_wp2
  go_loopw [10] (fun i wr => ∃ k f : Nat, i = .int .i64 k ∧ k + f = 100 ∧ 1 ≤ k ∧ Hid (lcF st f k = (n, r)) ∧ Below w.heap.size w wr) (fun i _ => 100 - (intOf i).toNat)
  case atStart => exact ⟨1, 99, rfl, rfl, Nat.le_refl _, HNR, l1⟩
  case round =>
    obtain ⟨k, f, rfl, hkf, hk1, HL, hbl⟩ := hrel
    clear l1 D PP S HNR
    cases f with
    | succ f =>
      have hlt' : (k : Int) ≤ 99 := by omega
      have WK := Lib.hid (WI.out k wr hbl)
      have SK := Lib.hid (SI.out k ⟨hk1, by omega⟩)
      have HK := HST.out k
      have HS := Lib.hid (show lcF st (f + 1) k = if st k = true then ((k : Int), true) else lcF st f (k + 1) from rfl)
      generalize sideF a b (xs ++ [(p, (k : Int))]) = t at *
      generalize st k = s' at HK HS
      have htb : (t == 0) = s' := by rw [HK]; rfl
      clear HK
      cases s'
      · have HL2 := Lib.hid (show lcF st f (k + 1) = (n, r) by rw [← HL.out, HS.out]; simp)
        go_wp2_with fail
        refine WK.out.mono ?_
        rintro e w1 ⟨v1, rfl, o1, _, l1⟩
        have LL := Lib.hid (lo_on hbl l1)
        have SS := Lib.hid (SK.out v1 w1 (loadRow_own o1))
        clear l1 WK hbl o1 SK
        go_wp2_with fail
        refine SS.out.mono ?_
        rintro e w2 ⟨rfl, l2⟩
        have L2 := Lib.hid (lo_on LL.out l2)
        clear l2
        go_wp2
        go_roundw
        case rel => exact ⟨k + 1, f, by go_num, by omega, by omega, HL2, L2.out⟩
        case measure => simp [intOf]; omega
      · have HL2 := HL.out
        rw [HS.out, if_pos rfl] at HL2
        cases HL2
        go_wp2_with fail
        refine WK.out.mono ?_
        rintro e w1 ⟨v1, rfl, o1, _, l1⟩
        have LL := Lib.hid (lo_on hbl l1)
        have SS := Lib.hid (SK.out v1 w1 (loadRow_own o1))
        clear l1 WK hbl o1 SK
        go_wp2_with fail
        refine SS.out.mono ?_
        rintro e w2 ⟨rfl, l2⟩
        have L2 := Lib.hid (lo_on LL.out l2)
        clear l2
        go_wp2
        go_ret2
        exact ⟨rfl, L2.out⟩
    | zero =>
      obtain rfl : k = 100 := by omega
      have HL2 := HL.out
      rw [lcF] at HL2
      cases HL2
      go_wp2
      go_ret2
      exact ⟨rfl, hbl⟩
end Go.Proofs.Ytjchmjbgboeolaa
