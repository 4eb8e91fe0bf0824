/- The walk of the law on BodyCentre, from contracts of the two functions that it calls. -/
import Derived.Test.YtmcjichpeijiaaaCel
import Derived.Test.YtmcjichpeijiaaaBo6
import Derived.Test.YtmcjichpeijiaaaIntLaw
import Derived.Test.YtmcjichpeijiaaaLoadOwn
namespace Go.Proofs.Ytmcjichpeijiaaa
open Go.RowKit
set_option maxRecDepth 100000 in
set_option maxHeartbeats 3200000 in
theorem exBodyCentre_walk (a0 : Option Addr) (cap0 : Nat) (xs0 : List (Int × Int)) (w : World) (hn0 : xs0.length ≤ maxLen) (hr0 : LoadRow w (.slice a0 xs0.length cap0) xs0) (r0 : Int × Int) (r1 : Int × Int) (r2 : Bool)
    (S : xs0.length ≤ 1048576 → ∀ (v0 : Value) (w : World), LoadRow w v0 xs0 → Calls Try.prog 28 #[v0] w (fun e w' => e = .returned (.tuple #[.agg #[.int .i64 r0.1, .int .i64 r0.2], .agg #[.int .i64 r1.1, .int .i64 r1.2], .bool r2]) ∧ Below w.heap.size w w'))
    (I : xs0.length ≤ 1048576 → ∀ (v0 : Value) (w : World), LoadRow w v0 xs0 → Calls Try.prog 29 #[v0] w (fun e w' => e = .returned (.tuple #[.agg #[.int .i64 r0.1, .int .i64 r0.2], .agg #[.int .i64 r1.1, .int .i64 r1.2], .bool r2]) ∧ Below w.heap.size w w')) :
    Calls Try.prog 5 #[.slice a0 xs0.length cap0] w fun e w' => e = .returned (.bool true) ∧ Below w.heap.size w w' := by
  have SP := Lib.hid S
  have IM := Lib.hid I
  clear S I
  have H0 := Lib.hid hr0
  clear hr0
  unfold maxLen at hn0
  have L0 := Lib.hid (Below.refl w.heap.size w)
  go_enter Try.func5, Try.ntmps5
  go_wp2_with fail
  refine (szPairs_any a0 _ cap0 w hn0).mono ?_
  rintro e w' ⟨z, rfl, rfl, hneg | ⟨z0, hb⟩⟩
  · go_wp2
    go_ret
    exact ⟨rfl, Below.refl _ _⟩
  go_wp2_with fail
  refine (toPairs_any a0 cap0 xs0 w (H0.out.lo L0.out) (by omega)).mono ?_
  rintro e w1 ⟨t1, rfl, m, l⟩
  have L1 := Lib.hid (lo_on L0.out l)
  clear L0
  have hz1 : w.heap.size ≤ w1.heap.size := l.size
  have X_t1 := Lib.hid m
  clear m l
  go_wp2_with fail
  refine (SP.out (by omega) t1 w1 X_t1.out.row).mono ?_
  rintro e w2 ⟨rfl, l⟩
  clear X_t1
  have L2 := Lib.hid (lo_on L1.out l)
  clear L1
  have hz2 : w1.heap.size ≤ w2.heap.size := l.size
  have LS := L2
  clear L2
  clear l SP
  have N2 := Lib.hid (Below.refl w2.heap.size w2)
  obtain ⟨w3, hb0⟩ : ∃ x, w2.alloc (.cells #[.int .i64 r0.1, .int .i64 r0.2] 29) = x := ⟨_, rfl⟩
  have bx := Lib.hid (show Cel2 w3 w2.heap.size (r0.1, r0.2) by rw [← hb0]; exact cel2_new _ _ _ _)
  have l : Below w2.heap.size w2 w3 := by rw [← hb0]; exact (Below.refl _ _).alloc (Nat.le_refl _) _
  have N3 := Lib.hid (lo_on N2.out l)
  clear N2
  have hz3 : w2.heap.size ≤ w3.heap.size := l.size
  have X_s0 := Lib.hid bx.out
  clear bx l
  obtain ⟨w4, hb1⟩ : ∃ x, w3.alloc (.cells #[.int .i64 r1.1, .int .i64 r1.2] 29) = x := ⟨_, rfl⟩
  have bx := Lib.hid (show Cel2 w4 w3.heap.size (r1.1, r1.2) by rw [← hb1]; exact cel2_new _ _ _ _)
  have l : Below w3.heap.size w3 w4 := by rw [← hb1]; exact (Below.refl _ _).alloc (Nat.le_refl _) _
  have N4 := Lib.hid (lo_on N3.out l)
  clear N3
  have hz4 : w3.heap.size ≤ w4.heap.size := l.size
  have box_s0_4 := Lib.hid (X_s0.out.lo l)
  clear X_s0
  have X_s1 := Lib.hid bx.out
  clear bx l
  have ew3 : w3.heap.size = w2.heap.size + 1 := by rw [← hb0]; simp
  have X_s1 := Lib.hid (ew3 ▸ X_s1.out)
  rw [← hb0] at hb1
  clear hb0 ew3
  go_wp2_with fail
  clear hb1
  refine (toPairs_any a0 cap0 xs0 w4 (H0.out.lo (lo_on LS.out N4.out)) (by omega)).mono ?_
  rintro e w5 ⟨x0, rfl, m, l⟩
  have N5 := Lib.hid (lo_on N4.out l)
  clear N4
  have hz5 : w4.heap.size ≤ w5.heap.size := l.size
  have box_s0_5 := Lib.hid (box_s0_4.out.lo l)
  clear box_s0_4
  have box_s1_5 := Lib.hid (X_s1.out.lo l)
  clear X_s1
  have X_x0 := Lib.hid m
  clear m l
  go_wp2_with fail
  refine (IM.out (by omega) x0 w5 X_x0.out.row).mono ?_
  rintro e w6 ⟨rfl, l⟩
  have N6 := Lib.hid (lo_on N5.out l)
  clear N5
  have hz6 : w5.heap.size ≤ w6.heap.size := l.size
  have box_s0_6 := Lib.hid (box_s0_5.out.lo l)
  clear box_s0_5
  have box_s1_6 := Lib.hid (box_s1_5.out.lo l)
  clear box_s1_5
  have x0_6 := Lib.hid (X_x0.out.lo l)
  clear X_x0
  clear l
  obtain ⟨w7, hb0⟩ : ∃ x, w6.alloc (.cells #[.int .i64 r0.1, .int .i64 r0.2] 29) = x := ⟨_, rfl⟩
  have bx := Lib.hid (show Cel2 w7 w6.heap.size (r0.1, r0.2) by rw [← hb0]; exact cel2_new _ _ _ _)
  have l : Below w6.heap.size w6 w7 := by rw [← hb0]; exact (Below.refl _ _).alloc (Nat.le_refl _) _
  have N7 := Lib.hid (lo_on N6.out l)
  clear N6
  have hz7 : w6.heap.size ≤ w7.heap.size := l.size
  have box_s0_7 := Lib.hid (box_s0_6.out.lo l)
  clear box_s0_6
  have box_s1_7 := Lib.hid (box_s1_6.out.lo l)
  clear box_s1_6
  have x0_7 := Lib.hid (x0_6.out.lo l)
  clear x0_6
  have X_g0 := Lib.hid bx.out
  clear bx l
  obtain ⟨w8, hb1⟩ : ∃ x, w7.alloc (.cells #[.int .i64 r1.1, .int .i64 r1.2] 29) = x := ⟨_, rfl⟩
  have bx := Lib.hid (show Cel2 w8 w7.heap.size (r1.1, r1.2) by rw [← hb1]; exact cel2_new _ _ _ _)
  have l : Below w7.heap.size w7 w8 := by rw [← hb1]; exact (Below.refl _ _).alloc (Nat.le_refl _) _
  have N8 := Lib.hid (lo_on N7.out l)
  clear N7
  have hz8 : w7.heap.size ≤ w8.heap.size := l.size
  have box_s0_8 := Lib.hid (box_s0_7.out.lo l)
  clear box_s0_7
  have box_s1_8 := Lib.hid (box_s1_7.out.lo l)
  clear box_s1_7
  have x0_8 := Lib.hid (x0_7.out.lo l)
  clear x0_7
  have box_g0_8 := Lib.hid (X_g0.out.lo l)
  clear X_g0
  have X_g1 := Lib.hid bx.out
  clear bx l
  have ew7 : w7.heap.size = w6.heap.size + 1 := by rw [← hb0]; simp
  have X_g1 := Lib.hid (ew7 ▸ X_g1.out)
  rw [← hb0] at hb1
  clear hb0 ew7
  obtain ⟨_, s0a, s0b, _, _⟩ := box_s0_8.out
  obtain ⟨_, g0a, g0b, _, _⟩ := box_g0_8.out
  go_wp2_with fail
  clear hb1
  clear s0a s0b g0a g0b
  refine (eqA2_same r0.1 r0.2 w8).mono ?_
  rintro e w9 ⟨rfl, l⟩
  have N9 := Lib.hid (lo_on N8.out l)
  clear N8
  have hz9 : w8.heap.size ≤ w9.heap.size := l.size
  have box_s0_9 := Lib.hid (box_s0_8.out.lo l)
  clear box_s0_8
  have box_s1_9 := Lib.hid (box_s1_8.out.lo l)
  clear box_s1_8
  have x0_9 := Lib.hid (x0_8.out.lo l)
  clear x0_8
  have box_g0_9 := Lib.hid (box_g0_8.out.lo l)
  clear box_g0_8
  have box_g1_9 := Lib.hid (X_g1.out.lo l)
  clear X_g1
  clear l
  obtain ⟨_, s1a, s1b, _, _⟩ := box_s1_9.out
  obtain ⟨_, g1a, g1b, _, _⟩ := box_g1_9.out
  go_wp2_with fail
  clear s1a s1b g1a g1b
  refine (eqA2_same r1.1 r1.2 w9).mono ?_
  rintro e w10 ⟨rfl, l⟩
  have N10 := Lib.hid (lo_on N9.out l)
  clear N9
  have hz10 : w9.heap.size ≤ w10.heap.size := l.size
  have box_s0_10 := Lib.hid (box_s0_9.out.lo l)
  clear box_s0_9
  have box_s1_10 := Lib.hid (box_s1_9.out.lo l)
  clear box_s1_9
  have x0_10 := Lib.hid (x0_9.out.lo l)
  clear x0_9
  have box_g0_10 := Lib.hid (box_g0_9.out.lo l)
  clear box_g0_9
  have box_g1_10 := Lib.hid (box_g1_9.out.lo l)
  clear box_g1_9
  clear l
  go_wp2_with fail
  refine (toPairs_any a0 cap0 xs0 w10 (H0.out.lo (lo_on LS.out N10.out)) (by omega)).mono ?_
  rintro e w11 ⟨t2, rfl, m, l⟩
  have N11 := Lib.hid (lo_on N10.out l)
  clear N10
  have hz11 : w10.heap.size ≤ w11.heap.size := l.size
  have box_s0_11 := Lib.hid (box_s0_10.out.lo l)
  clear box_s0_10
  have box_s1_11 := Lib.hid (box_s1_10.out.lo l)
  clear box_s1_10
  have x0_11 := Lib.hid (x0_10.out.lo l)
  clear x0_10
  have box_g0_11 := Lib.hid (box_g0_10.out.lo l)
  clear box_g0_10
  have box_g1_11 := Lib.hid (box_g1_10.out.lo l)
  clear box_g1_10
  have X_t2 := Lib.hid m
  clear m l
  go_wp2_with fail
  refine (eqPairs_same x0 t2 xs0 w11 x0_11.out.row X_t2.out.row (by omega)).mono ?_
  rintro e w12 ⟨rfl, l⟩
  have N12 := Lib.hid (lo_on N11.out l)
  clear N11
  have hz12 : w11.heap.size ≤ w12.heap.size := l.size
  have box_s0_12 := Lib.hid (box_s0_11.out.lo l)
  clear box_s0_11
  have box_s1_12 := Lib.hid (box_s1_11.out.lo l)
  clear box_s1_11
  have x0_12 := Lib.hid (x0_11.out.lo l)
  clear x0_11
  have box_g0_12 := Lib.hid (box_g0_11.out.lo l)
  clear box_g0_11
  have box_g1_12 := Lib.hid (box_g1_11.out.lo l)
  clear box_g1_11
  have t2_12 := Lib.hid (X_t2.out.lo l)
  clear X_t2
  clear l
  clear t2_12
  go_wp2
  go_ret
  exact ⟨rfl, lo_on LS.out N12.out⟩
end Go.Proofs.Ytmcjichpeijiaaa
