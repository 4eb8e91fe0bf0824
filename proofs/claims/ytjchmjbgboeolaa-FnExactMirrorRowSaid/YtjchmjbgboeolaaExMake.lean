/- Walks of the laws on functions that make a row of a row. -/
import Derived.Test.YtjchmjbgboeolaaMarks
import Derived.Test.YtjchmjbgboeolaaExRow
namespace Go.Proofs.Ytjchmjbgboeolaa
open Go.RowKit
def SzOne (n : Nat) (w : World) (e : Ending) (w' : World) : Prop := ∃ z : Int, e = .returned (.int .i64 z) ∧ w = w' ∧ (z < 0 ∨ (0 ≤ z ∧ n ≤ 1048576 ∧ z ≤ 1048576))
theorem szLoad_one (a : Option Addr) (n c : Nat) (w : World) (hn : n ≤ maxLen) : Calls Try.prog 11 #[.slice a n c, .int .i64 1048576] w (SzOne n w) := by
  unfold maxLen at hn
  by_cases h : n ≤ 1048576
  · have h1 : ¬ (1048576 : Int) - n < 0 := by omega
    go_enter Try.func11, Try.ntmps11
    go_wp2
    go_ret
    exact ⟨_, rfl, rfl, .inr ⟨by omega, h, by omega⟩⟩
  · have h1 : (1048576 : Int) - n < 0 := by omega
    go_enter Try.func11, Try.ntmps11
    go_wp2
    go_ret
    exact ⟨_, rfl, rfl, .inl (by decide)⟩
theorem szLoad_two (a : Option Addr) (n c : Nat) (z : Int) (w : World) (hn : n ≤ maxLen) (z0 : 0 ≤ z) (z1 : z ≤ 1048576) : Calls Try.prog 11 #[.slice a n c, .int .i64 z] w (SzLoad n w) := by
  unfold maxLen at hn
  by_cases h : (n : Int) ≤ z
  · have h1 : ¬ z - n < 0 := by omega
    go_enter Try.func11, Try.ntmps11
    go_wp2
    go_ret
    exact ⟨_, rfl, rfl, .inr ⟨by omega, by omega⟩⟩
  · have h1 : z - n < 0 := by omega
    go_enter Try.func11, Try.ntmps11
    go_wp2
    go_ret
    exact ⟨_, rfl, rfl, .inl (by decide)⟩
set_option maxHeartbeats 1600000 in
theorem exMergeRow_walk (a : Option Addr) (len cap : Nat) (zs : List (Int × Int)) (w : World) (h : IsPairs .i64 w a len cap zs) (b : Bool) (made : List (Int × Int))
    (S : ∀ v w, SRow w v zs → Calls Try.prog 12 #[v] w (MadeS w b made)) (I : ∀ v w, SRow w v zs → Calls Try.prog 14 #[v] w (Made w b made)) :
    Calls Try.prog 3 #[.slice a len cap] w fun e w' => e = .returned (.bool true) ∧ Below w.heap.size w w' := by
  obtain ⟨rfl, hn, hr⟩ := pairs_row h
  have HR := Lib.hid hr
  have hml := mk_len b made
  unfold MadeS at S
  unfold Made at I
  generalize mkF b made = ys at S I hml
  generalize (b && rowB made) = r at S I
  have SP := Lib.hid S
  have IM := Lib.hid I
  clear h hr S I
  go_enter Try.func3, Try.ntmps3
  go_wp2_with fail
  refine (szLoad_any a _ cap w hn).mono ?_
  rintro e w' ⟨z, rfl, rfl, hneg | ⟨z0, hn2⟩⟩
  · go_wp2
    go_ret
    exact ⟨rfl, Below.refl _ _⟩
  · go_wp2_with fail
    refine (toLoads_any a cap zs w HR.out (by omega)).mono ?_
    rintro e w1 ⟨rfl, t1, l1⟩
    have S1 := Lib.hid (SP.out _ w1 (sRow_to t1))
    clear t1
    go_wp2_with fail
    refine S1.out.mono ?_
    rintro e w2 ⟨vs, rfl, rs, l2⟩
    have L2 := Lib.hid (lo_on l1 l2)
    have RS := Lib.hid rs
    clear S1 rs l1 l2
    go_wp2_with fail
    refine (toLoads_all a cap zs w2 (HR.out.lo L2.out) (by omega)).mono ?_
    rintro e w3 ⟨rfl, t3, f3, hs3, l3⟩
    have M3 := Lib.hid l3
    have F3 := Lib.hid f3
    have T3 := Lib.hid t3
    have I3 := Lib.hid (IM.out _ w3 (sRow_to t3))
    clear f3 t3 l3
    go_wp2_with fail
    refine I3.out.mono ?_
    rintro e w4 ⟨vg, rfl, og, l4⟩
    have M4 := Lib.hid l4
    have O4 := Lib.hid og
    have N4 := Lib.hid (lo_on M3.out l4)
    clear og l4 I3
    go_wp2_with fail
    refine (eqLoads_same vg vs ys w4 (loadRow_own O4.out) (RS.out.lo N4.out) (by omega)).mono ?_
    rintro e w5 ⟨rfl, l5⟩
    have N5 := Lib.hid (lo_on N4.out l5)
    have O5 := Lib.hid (O4.out.lo l5)
    have M5 := Lib.hid (lo_on M4.out l5)
    clear l5
    go_wp2_with fail
    refine (toLoads_any a cap zs w5 (HR.out.lo (lo_on L2.out N5.out)) (by omega)).mono ?_
    rintro e w6 ⟨rfl, t6, l6⟩
    have N6 := Lib.hid (lo_on N5.out l6)
    have O6 := Lib.hid (O5.out.lo l6)
    have M6 := Lib.hid (lo_on M5.out l6)
    have T6 := Lib.hid t6
    clear l6 t6
    go_wp2_with fail
    refine (eqLoads_same _ _ zs w6 (T3.out.lo M6.out) T6.out (by omega)).mono ?_
    rintro e w7 ⟨rfl, l7⟩
    have N7 := Lib.hid (lo_on N6.out l7)
    have O7 := Lib.hid (O6.out.lo l7)
    have M7 := Lib.hid (lo_on M6.out l7)
    clear l7
    go_wp2_with fail
    refine (mark_to w7 zs w2.heap.size (T3.out.lo M7.out) (fun j => by rw [M7.out.frozen (p := ⟨w2.heap.size, j, none⟩) hs3]; exact F3.out j) 1 (by omega) (by omega)).mono ?_
    rintro e w8 ⟨rfl, o8⟩
    have B8 := o8.below (Nat.le_trans (Nat.le_of_lt hs3) M7.out.size)
    have N8 := Lib.hid (N7.out.trans B8)
    have O8 := Lib.hid (O7.out.only o8 hs3)
    have hz8 : w3.heap.size ≤ w8.heap.size := Nat.le_trans M7.out.size o8.size
    clear o8 B8
    go_wp2_with fail
    refine (eqLoads_same vg vs ys w8 (loadRow_own O8.out) (RS.out.lo N8.out) (by omega)).mono ?_
    rintro e w9 ⟨rfl, l9⟩
    have N9 := Lib.hid (lo_on N8.out l9)
    have O9 := Lib.hid (O8.out.lo l9)
    have hz9 := Nat.le_trans hz8 l9.size
    clear l9
    go_wp2_with fail
    refine (markV_any w3.heap.size vg ys w9 O9.out (by omega)).mono ?_
    rintro e w10 ⟨rfl, l10, h10⟩
    have N10 := Lib.hid (N9.out.trans (l10.mono (Nat.le_of_lt hs3)))
    have H10 := Lib.hid h10
    clear h10 l10
    go_wp2_with fail
    refine (heldV_any vg ys.length w10 H10.out (by omega)).mono ?_
    rintro e w' ⟨rfl, rfl⟩
    go_wp2_with fail
    refine (toLoads_any a cap zs w10 (HR.out.lo (lo_on L2.out N10.out)) (by omega)).mono ?_
    rintro e w11 ⟨rfl, t11, l11⟩
    have N11 := Lib.hid (lo_on N10.out l11)
    have H11 := Lib.hid (H10.out.lo l11)
    have I11 := Lib.hid (IM.out _ w11 (sRow_to t11))
    clear t11 l11
    go_wp2_with fail
    refine I11.out.mono ?_
    rintro e w12 ⟨vh, rfl, oh, l12⟩
    have N12 := Lib.hid (lo_on N11.out l12)
    have H12 := Lib.hid (H11.out.lo l12)
    have OH := Lib.hid oh
    clear oh l12 I11
    go_wp2_with fail
    refine (eqLoads_same vh vs ys w12 (loadRow_own OH.out) (RS.out.lo N12.out) (by omega)).mono ?_
    rintro e w13 ⟨rfl, l13⟩
    have N13 := Lib.hid (lo_on N12.out l13)
    have H13 := Lib.hid (H12.out.lo l13)
    clear l13
    go_wp2_with fail
    refine (heldV_any vg ys.length w13 H13.out (by omega)).mono ?_
    rintro e w' ⟨rfl, rfl⟩
    go_wp2
    go_ret
    exact ⟨rfl, lo_on L2.out N13.out⟩
set_option maxHeartbeats 1600000 in
theorem exShiftRow_walk (a : Option Addr) (len cap : Nat) (zs : List (Int × Int)) (m0 : Int) (w : World) (h : IsPairs .i64 w a len cap zs) (b : Bool) (made : List (Int × Int))
    (S : ∀ v w, SRow w v zs → Calls Try.prog 20 #[v, .int .i64 m0] w (MadeS w b made)) (I : ∀ v w, SRow w v zs → Calls Try.prog 21 #[v, .int .i64 m0] w (Made w b made)) :
    Calls Try.prog 5 #[.slice a len cap, .int .i64 m0] w fun e w' => e = .returned (.bool true) ∧ Below w.heap.size w w' := by
  obtain ⟨rfl, hn, hr⟩ := pairs_row h
  have HR := Lib.hid hr
  have hml := mk_len b made
  unfold MadeS at S
  unfold Made at I
  generalize mkF b made = ys at S I hml
  generalize (b && rowB made) = r at S I
  have SP := Lib.hid S
  have IM := Lib.hid I
  clear h hr S I
  go_enter Try.func5, Try.ntmps5
  go_wp2_with fail
  refine (szLoad_any a _ cap w hn).mono ?_
  rintro e w' ⟨z, rfl, rfl, hneg | ⟨z0, hn2⟩⟩
  · go_wp2
    go_ret
    exact ⟨rfl, Below.refl _ _⟩
  · go_wp2_with fail
    refine (toLoads_any a cap zs w HR.out (by omega)).mono ?_
    rintro e w1 ⟨rfl, t1, l1⟩
    have S1 := Lib.hid (SP.out _ w1 (sRow_to t1))
    clear t1
    go_wp2_with fail
    refine S1.out.mono ?_
    rintro e w2 ⟨vs, rfl, rs, l2⟩
    have L2 := Lib.hid (lo_on l1 l2)
    have RS := Lib.hid rs
    clear S1 rs l1 l2
    go_wp2_with fail
    refine (toLoads_all a cap zs w2 (HR.out.lo L2.out) (by omega)).mono ?_
    rintro e w3 ⟨rfl, t3, f3, hs3, l3⟩
    have M3 := Lib.hid l3
    have F3 := Lib.hid f3
    have T3 := Lib.hid t3
    have I3 := Lib.hid (IM.out _ w3 (sRow_to t3))
    clear f3 t3 l3
    go_wp2_with fail
    refine I3.out.mono ?_
    rintro e w4 ⟨vg, rfl, og, l4⟩
    have M4 := Lib.hid l4
    have O4 := Lib.hid og
    have N4 := Lib.hid (lo_on M3.out l4)
    clear og l4 I3
    go_wp2_with fail
    refine (eqLoads_same vg vs ys w4 (loadRow_own O4.out) (RS.out.lo N4.out) (by omega)).mono ?_
    rintro e w5 ⟨rfl, l5⟩
    have N5 := Lib.hid (lo_on N4.out l5)
    have O5 := Lib.hid (O4.out.lo l5)
    have M5 := Lib.hid (lo_on M4.out l5)
    clear l5
    go_wp2_with fail
    refine (toLoads_any a cap zs w5 (HR.out.lo (lo_on L2.out N5.out)) (by omega)).mono ?_
    rintro e w6 ⟨rfl, t6, l6⟩
    have N6 := Lib.hid (lo_on N5.out l6)
    have O6 := Lib.hid (O5.out.lo l6)
    have M6 := Lib.hid (lo_on M5.out l6)
    have T6 := Lib.hid t6
    clear l6 t6
    go_wp2_with fail
    refine (eqLoads_same _ _ zs w6 (T3.out.lo M6.out) T6.out (by omega)).mono ?_
    rintro e w7 ⟨rfl, l7⟩
    have N7 := Lib.hid (lo_on N6.out l7)
    have O7 := Lib.hid (O6.out.lo l7)
    have M7 := Lib.hid (lo_on M6.out l7)
    clear l7
    go_wp2_with fail
    refine (mark_to w7 zs w2.heap.size (T3.out.lo M7.out) (fun j => by rw [M7.out.frozen (p := ⟨w2.heap.size, j, none⟩) hs3]; exact F3.out j) 1 (by omega) (by omega)).mono ?_
    rintro e w8 ⟨rfl, o8⟩
    have B8 := o8.below (Nat.le_trans (Nat.le_of_lt hs3) M7.out.size)
    have N8 := Lib.hid (N7.out.trans B8)
    have O8 := Lib.hid (O7.out.only o8 hs3)
    have hz8 : w3.heap.size ≤ w8.heap.size := Nat.le_trans M7.out.size o8.size
    clear o8 B8
    go_wp2_with fail
    refine (eqLoads_same vg vs ys w8 (loadRow_own O8.out) (RS.out.lo N8.out) (by omega)).mono ?_
    rintro e w9 ⟨rfl, l9⟩
    have N9 := Lib.hid (lo_on N8.out l9)
    have O9 := Lib.hid (O8.out.lo l9)
    have hz9 := Nat.le_trans hz8 l9.size
    clear l9
    go_wp2_with fail
    refine (markV_any w3.heap.size vg ys w9 O9.out (by omega)).mono ?_
    rintro e w10 ⟨rfl, l10, h10⟩
    have N10 := Lib.hid (N9.out.trans (l10.mono (Nat.le_of_lt hs3)))
    have H10 := Lib.hid h10
    clear h10 l10
    go_wp2_with fail
    refine (heldV_any vg ys.length w10 H10.out (by omega)).mono ?_
    rintro e w' ⟨rfl, rfl⟩
    go_wp2_with fail
    refine (toLoads_any a cap zs w10 (HR.out.lo (lo_on L2.out N10.out)) (by omega)).mono ?_
    rintro e w11 ⟨rfl, t11, l11⟩
    have N11 := Lib.hid (lo_on N10.out l11)
    have H11 := Lib.hid (H10.out.lo l11)
    have I11 := Lib.hid (IM.out _ w11 (sRow_to t11))
    clear t11 l11
    go_wp2_with fail
    refine I11.out.mono ?_
    rintro e w12 ⟨vh, rfl, oh, l12⟩
    have N12 := Lib.hid (lo_on N11.out l12)
    have H12 := Lib.hid (H11.out.lo l12)
    have OH := Lib.hid oh
    clear oh l12 I11
    go_wp2_with fail
    refine (eqLoads_same vh vs ys w12 (loadRow_own OH.out) (RS.out.lo N12.out) (by omega)).mono ?_
    rintro e w13 ⟨rfl, l13⟩
    have N13 := Lib.hid (lo_on N12.out l13)
    have H13 := Lib.hid (H12.out.lo l13)
    clear l13
    go_wp2_with fail
    refine (heldV_any vg ys.length w13 H13.out (by omega)).mono ?_
    rintro e w' ⟨rfl, rfl⟩
    go_wp2
    go_ret
    exact ⟨rfl, lo_on L2.out N13.out⟩
set_option maxHeartbeats 1600000 in
theorem exMirrorRow_walk (a : Option Addr) (len cap : Nat) (zs : List (Int × Int)) (w : World) (h : IsPairs .i64 w a len cap zs) (b : Bool) (made : List (Int × Int))
    (S : ∀ v w, SRow w v zs → Calls Try.prog 22 #[v] w (MadeS w b made)) (I : ∀ v w, SRow w v zs → Calls Try.prog 23 #[v] w (Made w b made)) :
    Calls Try.prog 6 #[.slice a len cap] w fun e w' => e = .returned (.bool true) ∧ Below w.heap.size w w' := by
  obtain ⟨rfl, hn, hr⟩ := pairs_row h
  have HR := Lib.hid hr
  have hml := mk_len b made
  unfold MadeS at S
  unfold Made at I
  generalize mkF b made = ys at S I hml
  generalize (b && rowB made) = r at S I
  have SP := Lib.hid S
  have IM := Lib.hid I
  clear h hr S I
  go_enter Try.func6, Try.ntmps6
  go_wp2_with fail
  refine (szLoad_any a _ cap w hn).mono ?_
  rintro e w' ⟨z, rfl, rfl, hneg | ⟨z0, hn2⟩⟩
  · go_wp2
    go_ret
    exact ⟨rfl, Below.refl _ _⟩
  · go_wp2_with fail
    refine (toLoads_any a cap zs w HR.out (by omega)).mono ?_
    rintro e w1 ⟨rfl, t1, l1⟩
    have S1 := Lib.hid (SP.out _ w1 (sRow_to t1))
    clear t1
    go_wp2_with fail
    refine S1.out.mono ?_
    rintro e w2 ⟨vs, rfl, rs, l2⟩
    have L2 := Lib.hid (lo_on l1 l2)
    have RS := Lib.hid rs
    clear S1 rs l1 l2
    go_wp2_with fail
    refine (toLoads_all a cap zs w2 (HR.out.lo L2.out) (by omega)).mono ?_
    rintro e w3 ⟨rfl, t3, f3, hs3, l3⟩
    have M3 := Lib.hid l3
    have F3 := Lib.hid f3
    have T3 := Lib.hid t3
    have I3 := Lib.hid (IM.out _ w3 (sRow_to t3))
    clear f3 t3 l3
    go_wp2_with fail
    refine I3.out.mono ?_
    rintro e w4 ⟨vg, rfl, og, l4⟩
    have M4 := Lib.hid l4
    have O4 := Lib.hid og
    have N4 := Lib.hid (lo_on M3.out l4)
    clear og l4 I3
    go_wp2_with fail
    refine (eqLoads_same vg vs ys w4 (loadRow_own O4.out) (RS.out.lo N4.out) (by omega)).mono ?_
    rintro e w5 ⟨rfl, l5⟩
    have N5 := Lib.hid (lo_on N4.out l5)
    have O5 := Lib.hid (O4.out.lo l5)
    have M5 := Lib.hid (lo_on M4.out l5)
    clear l5
    go_wp2_with fail
    refine (toLoads_any a cap zs w5 (HR.out.lo (lo_on L2.out N5.out)) (by omega)).mono ?_
    rintro e w6 ⟨rfl, t6, l6⟩
    have N6 := Lib.hid (lo_on N5.out l6)
    have O6 := Lib.hid (O5.out.lo l6)
    have M6 := Lib.hid (lo_on M5.out l6)
    have T6 := Lib.hid t6
    clear l6 t6
    go_wp2_with fail
    refine (eqLoads_same _ _ zs w6 (T3.out.lo M6.out) T6.out (by omega)).mono ?_
    rintro e w7 ⟨rfl, l7⟩
    have N7 := Lib.hid (lo_on N6.out l7)
    have O7 := Lib.hid (O6.out.lo l7)
    have M7 := Lib.hid (lo_on M6.out l7)
    clear l7
    go_wp2_with fail
    refine (mark_to w7 zs w2.heap.size (T3.out.lo M7.out) (fun j => by rw [M7.out.frozen (p := ⟨w2.heap.size, j, none⟩) hs3]; exact F3.out j) 1 (by omega) (by omega)).mono ?_
    rintro e w8 ⟨rfl, o8⟩
    have B8 := o8.below (Nat.le_trans (Nat.le_of_lt hs3) M7.out.size)
    have N8 := Lib.hid (N7.out.trans B8)
    have O8 := Lib.hid (O7.out.only o8 hs3)
    have hz8 : w3.heap.size ≤ w8.heap.size := Nat.le_trans M7.out.size o8.size
    clear o8 B8
    go_wp2_with fail
    refine (eqLoads_same vg vs ys w8 (loadRow_own O8.out) (RS.out.lo N8.out) (by omega)).mono ?_
    rintro e w9 ⟨rfl, l9⟩
    have N9 := Lib.hid (lo_on N8.out l9)
    have O9 := Lib.hid (O8.out.lo l9)
    have hz9 := Nat.le_trans hz8 l9.size
    clear l9
    go_wp2_with fail
    refine (markV_any w3.heap.size vg ys w9 O9.out (by omega)).mono ?_
    rintro e w10 ⟨rfl, l10, h10⟩
    have N10 := Lib.hid (N9.out.trans (l10.mono (Nat.le_of_lt hs3)))
    have H10 := Lib.hid h10
    clear h10 l10
    go_wp2_with fail
    refine (heldV_any vg ys.length w10 H10.out (by omega)).mono ?_
    rintro e w' ⟨rfl, rfl⟩
    go_wp2_with fail
    refine (toLoads_any a cap zs w10 (HR.out.lo (lo_on L2.out N10.out)) (by omega)).mono ?_
    rintro e w11 ⟨rfl, t11, l11⟩
    have N11 := Lib.hid (lo_on N10.out l11)
    have H11 := Lib.hid (H10.out.lo l11)
    have I11 := Lib.hid (IM.out _ w11 (sRow_to t11))
    clear t11 l11
    go_wp2_with fail
    refine I11.out.mono ?_
    rintro e w12 ⟨vh, rfl, oh, l12⟩
    have N12 := Lib.hid (lo_on N11.out l12)
    have H12 := Lib.hid (H11.out.lo l12)
    have OH := Lib.hid oh
    clear oh l12 I11
    go_wp2_with fail
    refine (eqLoads_same vh vs ys w12 (loadRow_own OH.out) (RS.out.lo N12.out) (by omega)).mono ?_
    rintro e w13 ⟨rfl, l13⟩
    have N13 := Lib.hid (lo_on N12.out l13)
    have H13 := Lib.hid (H12.out.lo l13)
    clear l13
    go_wp2_with fail
    refine (heldV_any vg ys.length w13 H13.out (by omega)).mono ?_
    rintro e w' ⟨rfl, rfl⟩
    go_wp2
    go_ret
    exact ⟨rfl, lo_on L2.out N13.out⟩
set_option maxHeartbeats 3200000 in
theorem exJoinRows_walk (a a' : Option Addr) (len cap len' cap' : Nat) (zs us : List (Int × Int)) (w : World) (h : IsPairs .i64 w a len cap zs) (h' : IsPairs .i64 w a' len' cap' us) (b : Bool) (made : List (Int × Int))
    (S : ∀ v u w, SRow w v zs → SRow w u us → Calls Try.prog 18 #[v, u] w (MadeS w b made)) (I : ∀ v u w, SRow w v zs → SRow w u us → Calls Try.prog 19 #[v, u] w (Made w b made)) :
    Calls Try.prog 4 #[.slice a len cap, .slice a' len' cap'] w fun e w' => e = .returned (.bool true) ∧ Below w.heap.size w w' := by
  obtain ⟨rfl, hn, hr⟩ := pairs_row h
  obtain ⟨rfl, hn', hr'⟩ := pairs_row h'
  have HR := Lib.hid hr
  have HQ := Lib.hid hr'
  have hml := mk_len b made
  unfold MadeS at S
  unfold Made at I
  generalize mkF b made = ys at S I hml
  generalize (b && rowB made) = r at S I
  have SP := Lib.hid S
  have IM := Lib.hid I
  clear h h' hr hr' S I
  go_enter Try.func4, Try.ntmps4
  go_wp2_with fail
  refine (szLoad_one a _ cap w hn).mono ?_
  rintro e w' ⟨z, rfl, rfl, hneg | ⟨z0, hn2, z2⟩⟩
  · go_wp2
    go_ret
    exact ⟨rfl, Below.refl _ _⟩
  go_wp2_with fail
  refine (szLoad_two a' _ cap' z w hn' z0 z2).mono ?_
  rintro e w' ⟨z', rfl, rfl, hneg | ⟨z0', hn2'⟩⟩
  · go_wp2
    go_ret
    exact ⟨rfl, Below.refl _ _⟩
  go_wp2_with fail
  refine (toLoads_any a cap zs w HR.out (by omega)).mono ?_
  rintro e wa ⟨rfl, ta, la⟩
  have TA := Lib.hid ta
  clear ta
  go_wp2_with fail
  refine (toLoads_any a' cap' us wa (HQ.out.lo la) (by omega)).mono ?_
  rintro e w1 ⟨rfl, tb, lb⟩
  have L1 := Lib.hid (lo_on la lb)
  have S1 := Lib.hid (SP.out _ _ w1 (sRow_to (TA.out.lo lb)) (sRow_to tb))
  clear tb la lb
  go_wp2_with fail
  refine S1.out.mono ?_
  rintro e w2 ⟨vs, rfl, rs, l2⟩
  have L2 := Lib.hid (lo_on L1.out l2)
  have RS := Lib.hid rs
  clear S1 rs l2
  go_wp2_with fail
  refine (toLoads_all a cap zs w2 (HR.out.lo L2.out) (by omega)).mono ?_
  rintro e w3 ⟨rfl, t3, f3, hs3, l3⟩
  have M3 := Lib.hid l3
  have F3 := Lib.hid f3
  have T3 := Lib.hid t3
  clear f3 t3 l3
  go_wp2_with fail
  refine (toLoads_all a' cap' us w3 (HQ.out.lo (lo_on L2.out M3.out)) (by omega)).mono ?_
  rintro e w4 ⟨rfl, t4, f4, hs4, l4⟩
  have P4 := Lib.hid l4
  have F4 := Lib.hid f4
  have T4 := Lib.hid t4
  have N4 := Lib.hid (lo_on M3.out l4)
  have I4 := Lib.hid (IM.out _ _ w4 (sRow_to (T3.out.lo l4)) (sRow_to t4))
  clear f4 t4 l4
  go_wp2_with fail
  refine I4.out.mono ?_
  rintro e w5 ⟨vg, rfl, og, l5⟩
  have M5 := Lib.hid l5
  have O5 := Lib.hid og
  have N5 := Lib.hid (lo_on N4.out l5)
  clear og l5 I4
  go_wp2_with fail
  refine (eqLoads_same vg vs ys w5 (loadRow_own O5.out) (RS.out.lo N5.out) (by omega)).mono ?_
  rintro e w6 ⟨rfl, l6⟩
  have N6 := Lib.hid (lo_on N5.out l6)
  have O6 := Lib.hid (O5.out.lo l6)
  have M6 := Lib.hid (lo_on M5.out l6)
  clear l6
  go_wp2_with fail
  refine (toLoads_any a cap zs w6 (HR.out.lo (lo_on L2.out N6.out)) (by omega)).mono ?_
  rintro e w7 ⟨rfl, t7, l7⟩
  have N7 := Lib.hid (lo_on N6.out l7)
  have O7 := Lib.hid (O6.out.lo l7)
  have M7 := Lib.hid (lo_on M6.out l7)
  have T7 := Lib.hid t7
  clear l7 t7
  go_wp2_with fail
  refine (eqLoads_same _ _ zs w7 (T3.out.lo (lo_on P4.out M7.out)) T7.out (by omega)).mono ?_
  rintro e w8 ⟨rfl, l8⟩
  have N8 := Lib.hid (lo_on N7.out l8)
  have O8 := Lib.hid (O7.out.lo l8)
  have M8 := Lib.hid (lo_on M7.out l8)
  clear l8
  go_wp2_with fail
  refine (toLoads_any a' cap' us w8 (HQ.out.lo (lo_on L2.out N8.out)) (by omega)).mono ?_
  rintro e w9 ⟨rfl, t9, l9⟩
  have N9 := Lib.hid (lo_on N8.out l9)
  have O9 := Lib.hid (O8.out.lo l9)
  have M9 := Lib.hid (lo_on M8.out l9)
  have T9 := Lib.hid t9
  clear l9 t9
  go_wp2_with fail
  refine (eqLoads_same _ _ us w9 (T4.out.lo M9.out) T9.out (by omega)).mono ?_
  rintro e wb ⟨rfl, lb⟩
  have Nb := Lib.hid (lo_on N9.out lb)
  have Ob := Lib.hid (O9.out.lo lb)
  have Mb := Lib.hid (lo_on M9.out lb)
  have Qb := Lib.hid (lo_on P4.out Mb.out)
  clear lb
  go_wp2_with fail
  refine (mark_to wb zs w2.heap.size (T3.out.lo Qb.out) (fun j => by rw [Qb.out.frozen (p := ⟨w2.heap.size, j, none⟩) hs3]; exact F3.out j) 1 (by omega) (by omega)).mono ?_
  rintro e wc ⟨rfl, oc⟩
  have Bc := oc.below (Nat.le_trans (Nat.le_of_lt hs3) Qb.out.size)
  have Nc := Lib.hid (Nb.out.trans Bc)
  have Oc := Lib.hid (Ob.out.only oc (Nat.lt_trans hs3 hs4))
  have TC : LoadRow wc (.slice (some ⟨w3.heap.size, 0, none⟩) us.length us.length) us := by
    have hh := T4.out.lo Mb.out
    obtain ⟨a1, c1, e1, hh⟩ := hh
    cases e1
    refine ⟨_, _, rfl, ?_⟩
    rcases hh with hh | ⟨g, off, e2, hg, hc⟩
    · exact .inl hh
    · cases e2
      refine .inr ⟨_, _, rfl, Nat.lt_of_lt_of_le hg oc.size, fun j hj => ?_⟩
      rw [oc.cell (p := ⟨w3.heap.size, 0 + j * 2, none⟩) (by simp; omega) hg, oc.cell (p := ⟨w3.heap.size, 0 + j * 2 + 1, none⟩) (by simp; omega) hg]
      exact hc j hj
  have TCC := Lib.hid TC
  have FC : ∀ j, wc.frozen? ⟨w3.heap.size, j, none⟩ = false := fun j => by
    have h1 : w3.heap.size < wb.heap.size := Nat.lt_of_lt_of_le hs4 Mb.out.size
    rw [World.frozen?_of_block (oc.block w3.heap.size (by omega) h1), Mb.out.frozen (p := ⟨w3.heap.size, j, none⟩) hs4]
    exact F4.out j
  have FCC := Lib.hid FC
  have hzc : w4.heap.size ≤ wc.heap.size := Nat.le_trans Mb.out.size oc.size
  clear oc Bc TC FC
  go_wp2_with fail
  refine (mark_to wc us w3.heap.size TCC.out FCC.out (1 + zs.length * 2) (by omega) (by omega)).mono ?_
  rintro e wd ⟨rfl, od⟩
  have Bd := od.below (Nat.le_trans (Nat.le_of_lt hs4) hzc)
  have Nd := Lib.hid (Nc.out.trans (Bd.mono (Nat.le_of_lt hs3)))
  have Od := Lib.hid (Oc.out.only od hs4)
  have hzd : w4.heap.size ≤ wd.heap.size := Nat.le_trans hzc od.size
  clear od Bd
  go_wp2_with fail
  refine (eqLoads_same vg vs ys wd (loadRow_own Od.out) (RS.out.lo Nd.out) (by omega)).mono ?_
  rintro e we ⟨rfl, le⟩
  have Ne := Lib.hid (lo_on Nd.out le)
  have Oe := Lib.hid (Od.out.lo le)
  have hze := Nat.le_trans hzd le.size
  clear le
  go_wp2_with fail
  refine (markV_any w4.heap.size vg ys we Oe.out (by omega)).mono ?_
  rintro e w10 ⟨rfl, l10, h10⟩
  have N10 := Lib.hid (Ne.out.trans (l10.mono (by omega)))
  have H10 := Lib.hid h10
  clear h10 l10
  go_wp2_with fail
  refine (heldV_any vg ys.length w10 H10.out (by omega)).mono ?_
  rintro e w' ⟨rfl, rfl⟩
  go_wp2_with fail
  refine (toLoads_any a cap zs w10 (HR.out.lo (lo_on L2.out N10.out)) (by omega)).mono ?_
  rintro e w11 ⟨rfl, t11, l11⟩
  have N11 := Lib.hid (lo_on N10.out l11)
  have H11 := Lib.hid (H10.out.lo l11)
  have T11 := Lib.hid t11
  clear t11 l11
  go_wp2_with fail
  refine (toLoads_any a' cap' us w11 (HQ.out.lo (lo_on L2.out N11.out)) (by omega)).mono ?_
  rintro e w12 ⟨rfl, t12, l12⟩
  have N12 := Lib.hid (lo_on N11.out l12)
  have H12 := Lib.hid (H11.out.lo l12)
  have I12 := Lib.hid (IM.out _ _ w12 (sRow_to (T11.out.lo l12)) (sRow_to t12))
  clear t12 l12
  go_wp2_with fail
  refine I12.out.mono ?_
  rintro e w13 ⟨vh, rfl, oh, l13⟩
  have N13 := Lib.hid (lo_on N12.out l13)
  have H13 := Lib.hid (H12.out.lo l13)
  have OH := Lib.hid oh
  clear oh l13 I12
  go_wp2_with fail
  refine (eqLoads_same vh vs ys w13 (loadRow_own OH.out) (RS.out.lo N13.out) (by omega)).mono ?_
  rintro e w14 ⟨rfl, l14⟩
  have N14 := Lib.hid (lo_on N13.out l14)
  have H14 := Lib.hid (H13.out.lo l14)
  clear l14
  go_wp2_with fail
  refine (heldV_any vg ys.length w14 H14.out (by omega)).mono ?_
  rintro e w' ⟨rfl, rfl⟩
  go_wp2
  go_ret
  exact ⟨rfl, lo_on L2.out N14.out⟩
end Go.Proofs.Ytjchmjbgboeolaa
