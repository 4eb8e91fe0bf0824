/- The walk of the law on IsSeating, from contracts of the two functions that it calls. -/
import Derived.Test.YtgjchkcjlmklbaaIntLaw
import Derived.Test.YtgjchkcjlmklbaaIn
namespace Go.Proofs.Ytgjchkcjlmklbaa
open Go.RowKit
theorem toInts_cap (a : Option Addr) (c : Nat) (xs : List Int) (w : World) (hr : IntRow w (.slice a xs.length c) xs) (hn : xs.length ≤ 2000000) :
    Calls Try.prog 26 #[.slice a xs.length c] w fun e w' => ∃ v', e = .returned v' ∧ (MineI w' w.heap.size w'.heap.size v' xs ∧ ∃ a, v' = .slice a xs.length xs.length) ∧ Below w.heap.size w w' :=
  (toInts_at a c xs w hr hn).mono fun _ _ ⟨h1, h2, h3⟩ => ⟨_, h1, ⟨h2, _, rfl⟩, h3⟩
set_option maxRecDepth 100000 in
set_option maxHeartbeats 3200000 in
theorem exIsSeating_walk (a0 : Option Addr) (cap0 : Nat) (xs0 : List Int) (a1 : Int) (a2 : Option Addr) (cap2 : Nat) (xs2 : List Int) (w : World) (hn0 : xs0.length ≤ maxLen) (hr0 : IntRow w (.slice a0 xs0.length cap0) xs0) (hn2 : xs2.length ≤ maxLen) (hr2 : IntRow w (.slice a2 xs2.length cap2) xs2) (r0 : Bool) (r1 : Bool)
    (S : xs0.length ≤ 1048576 → xs2.length ≤ 1048576 → ∀ (v0 : Value) (v2 : Value) (w : World), IntRow w v0 xs0 → IntRow w v2 xs2 → (∃ a, v2 = .slice a xs2.length xs2.length) → Calls Try.prog 25 #[v0, .int .i64 a1, v2] w (fun e w' => e = .returned (.tuple #[.bool r0, .bool r1]) ∧ Below w.heap.size w w'))
    (I : xs0.length ≤ 1048576 → xs2.length ≤ 1048576 → ∀ (v0 : Value) (v2 : Value) (w : World), IntRow w v0 xs0 → IntRow w v2 xs2 → (∃ a, v2 = .slice a xs2.length xs2.length) → Calls Try.prog 27 #[v0, .int .i64 a1, v2] w (fun e w' => e = .returned (.tuple #[.bool r0, .bool r1]) ∧ Below w.heap.size w w')) :
    Calls Try.prog 3 #[.slice a0 xs0.length cap0, .int .i64 a1, .slice a2 xs2.length cap2] w fun e w' => e = .returned (.bool true) ∧ Below w.heap.size w w' := by
  have SP := Lib.hid S
  have IM := Lib.hid I
  clear S I
  have H0 := Lib.hid hr0
  clear hr0
  unfold maxLen at hn0
  have H2 := Lib.hid hr2
  clear hr2
  unfold maxLen at hn2
  by_cases hg0 : xs0.length ≤ 1048576
  case neg =>
    have hg' : (1048576 : Int) < (xs0.length : Int) := by omega
    go_enter Try.func3, Try.ntmps3
    go_wp2
    go_ret
    exact ⟨rfl, Below.refl _ _⟩
  have hf0 : ¬ (1048576 : Int) < (xs0.length : Int) := by omega
  by_cases hg2 : xs2.length ≤ 1048576
  case neg =>
    have hg' : (1048576 : Int) < (xs2.length : Int) := by omega
    go_enter Try.func3, Try.ntmps3
    go_wp2
    go_ret
    exact ⟨rfl, Below.refl _ _⟩
  have hf2 : ¬ (1048576 : Int) < (xs2.length : Int) := by omega
  have L0 := Lib.hid (Below.refl w.heap.size w)
  go_enter Try.func3, Try.ntmps3
  go_wp2_with fail
  refine (toInts_any a0 cap0 xs0 w (H0.out.lo L0.out) (by omega)).mono ?_
  rintro e w1 ⟨t1, rfl, m, l⟩
  have L1 := Lib.hid (lo_on L0.out l)
  clear L0
  have hz1 : w.heap.size ≤ w1.heap.size := l.size
  have X_t1 := Lib.hid m
  clear m l
  go_wp2_with fail
  refine (toInts_cap a2 cap2 xs2 w1 (H2.out.lo L1.out) (by omega)).mono ?_
  rintro e w2 ⟨t2, rfl, m, l⟩
  have cap_t2 := Lib.hid m.2
  have m := m.1
  have L2 := Lib.hid (lo_on L1.out l)
  clear L1
  have hz2 : w1.heap.size ≤ w2.heap.size := l.size
  have t1_2 := Lib.hid (X_t1.out.lo l)
  clear X_t1
  have X_t2 := Lib.hid m
  clear m l
  go_wp2_with fail
  refine (SP.out (by omega) (by omega) t1 t2 w2 t1_2.out.row X_t2.out.row cap_t2.out).mono ?_
  rintro e w3 ⟨rfl, l⟩
  clear t1_2
  clear X_t2
  have L3 := Lib.hid (lo_on L2.out l)
  clear L2
  have hz3 : w2.heap.size ≤ w3.heap.size := l.size
  have LS := L3
  clear L3
  clear l SP
  have N3 := Lib.hid (Below.refl w3.heap.size w3)
  go_wp2_with fail
  refine (toInts_any a0 cap0 xs0 w3 (H0.out.lo (lo_on LS.out N3.out)) (by omega)).mono ?_
  rintro e w4 ⟨x0, rfl, m, l⟩
  have N4 := Lib.hid (lo_on N3.out l)
  clear N3
  have hz4 : w3.heap.size ≤ w4.heap.size := l.size
  have X_x0 := Lib.hid m
  clear m l
  go_wp2_with fail
  refine (toInts_cap a2 cap2 xs2 w4 (H2.out.lo (lo_on LS.out N4.out)) (by omega)).mono ?_
  rintro e w5 ⟨x2, rfl, m, l⟩
  have cap_x2 := Lib.hid m.2
  have m := m.1
  have N5 := Lib.hid (lo_on N4.out l)
  clear N4
  have hz5 : w4.heap.size ≤ w5.heap.size := l.size
  have x0_5 := Lib.hid (X_x0.out.lo l)
  clear X_x0
  have X_x2 := Lib.hid m
  clear m l
  go_wp2_with fail
  refine (IM.out (by omega) (by omega) x0 x2 w5 x0_5.out.row X_x2.out.row cap_x2.out).mono ?_
  rintro e w6 ⟨rfl, l⟩
  have N6 := Lib.hid (lo_on N5.out l)
  clear N5
  have hz6 : w5.heap.size ≤ w6.heap.size := l.size
  have x0_6 := Lib.hid (x0_5.out.lo l)
  clear x0_5
  have x2_6 := Lib.hid (X_x2.out.lo l)
  clear X_x2
  clear l
  go_wp2_with fail
  refine (toInts_any a0 cap0 xs0 w6 (H0.out.lo (lo_on LS.out N6.out)) (by omega)).mono ?_
  rintro e w7 ⟨t3, rfl, m, l⟩
  have N7 := Lib.hid (lo_on N6.out l)
  clear N6
  have hz7 : w6.heap.size ≤ w7.heap.size := l.size
  have x0_7 := Lib.hid (x0_6.out.lo l)
  clear x0_6
  have x2_7 := Lib.hid (x2_6.out.lo l)
  clear x2_6
  have X_t3 := Lib.hid m
  clear m l
  go_wp2_with fail
  refine (eqInts_same x0 t3 xs0 w7 x0_7.out.row X_t3.out.row (by omega)).mono ?_
  rintro e w8 ⟨rfl, l⟩
  have N8 := Lib.hid (lo_on N7.out l)
  clear N7
  have hz8 : w7.heap.size ≤ w8.heap.size := l.size
  have x0_8 := Lib.hid (x0_7.out.lo l)
  clear x0_7
  have x2_8 := Lib.hid (x2_7.out.lo l)
  clear x2_7
  have t3_8 := Lib.hid (X_t3.out.lo l)
  clear X_t3
  clear l
  clear t3_8
  go_wp2_with fail
  refine (toInts_any a2 cap2 xs2 w8 (H2.out.lo (lo_on LS.out N8.out)) (by omega)).mono ?_
  rintro e w9 ⟨t4, rfl, m, l⟩
  have N9 := Lib.hid (lo_on N8.out l)
  clear N8
  have hz9 : w8.heap.size ≤ w9.heap.size := l.size
  have x0_9 := Lib.hid (x0_8.out.lo l)
  clear x0_8
  have x2_9 := Lib.hid (x2_8.out.lo l)
  clear x2_8
  have X_t4 := Lib.hid m
  clear m l
  go_wp2_with fail
  refine (eqInts_same x2 t4 xs2 w9 x2_9.out.row X_t4.out.row (by omega)).mono ?_
  rintro e w10 ⟨rfl, l⟩
  have N10 := Lib.hid (lo_on N9.out l)
  clear N9
  have hz10 : w9.heap.size ≤ w10.heap.size := l.size
  have x0_10 := Lib.hid (x0_9.out.lo l)
  clear x0_9
  have x2_10 := Lib.hid (x2_9.out.lo l)
  clear x2_9
  have t4_10 := Lib.hid (X_t4.out.lo l)
  clear X_t4
  clear l
  clear t4_10
  go_wp2
  go_ret
  exact ⟨rfl, lo_on LS.out N10.out⟩
end Go.Proofs.Ytgjchkcjlmklbaa
