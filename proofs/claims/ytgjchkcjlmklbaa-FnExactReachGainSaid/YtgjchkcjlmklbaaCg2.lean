/- The contracts of the program's stages: the machine behind a stage, whether it is valid, its gain. -/
import Derived.Test.YtgjchkcjlmklbaaCg1
namespace Go.Proofs.Ytgjchkcjlmklbaa
open Go.RowKit
set_option maxRecDepth 100000 in
set_option maxHeartbeats 800000 in
theorem machine_1 (a b : Int) (r : Bool) (h : (twoB a b) = r) (w : World) : Calls Try.prog 187 #[.agg #[.int .i64 1, .int .i64 a, .int .i64 b]] w fun e w' => e = .returned (.tuple #[.iface 210 (.agg #[.int .i64 1, .int .i64 a, .int .i64 b]), .bool r]) ∧ Below w.heap.size w w' := by
  have C := Lib.hid (fun w => leverSound_any 1 a b w)
  rw [h] at C
  clear h
  go_enter Try.func187, Try.ntmps187
  go_wp2_with fail
  refine (C.out _).mono ?_
  rintro e w1 ⟨rfl, l⟩
  go_wp2
  go_ret2
  exact ⟨rfl, lo_on (below_one _ _) l⟩
set_option maxRecDepth 100000 in
set_option maxHeartbeats 800000 in
theorem machine_3 (a b : Int) (r : Bool) (h : (twoB a b) = r) (w : World) : Calls Try.prog 187 #[.agg #[.int .i64 3, .int .i64 a, .int .i64 b]] w fun e w' => e = .returned (.tuple #[.iface 210 (.agg #[.int .i64 3, .int .i64 a, .int .i64 b]), .bool r]) ∧ Below w.heap.size w w' := by
  have C := Lib.hid (fun w => leverSound_any 3 a b w)
  rw [h] at C
  clear h
  go_enter Try.func187, Try.ntmps187
  go_wp2_with fail
  refine (C.out _).mono ?_
  rintro e w1 ⟨rfl, l⟩
  go_wp2
  go_ret2
  exact ⟨rfl, lo_on (below_one _ _) l⟩
set_option maxRecDepth 100000 in
set_option maxHeartbeats 800000 in
theorem machine_2 (a b : Int) (r : Bool) (h : (rtB a && decide (b = 0)) = r) (w : World) : Calls Try.prog 187 #[.agg #[.int .i64 2, .int .i64 a, .int .i64 b]] w fun e w' => e = .returned (.tuple #[.iface 211 (.agg #[.int .i64 2, .int .i64 a, .int .i64 b]), .bool r]) ∧ Below w.heap.size w w' := by
  have C := Lib.hid (fun w => tackleSound_any 2 a b w)
  rw [h] at C
  clear h
  go_enter Try.func187, Try.ntmps187
  go_wp2_with fail
  refine (C.out _).mono ?_
  rintro e w1 ⟨rfl, l⟩
  go_wp2
  go_ret2
  exact ⟨rfl, lo_on (below_one _ _) l⟩
set_option maxRecDepth 100000 in
set_option maxHeartbeats 800000 in
theorem machine_4 (a b : Int) (r : Bool) (h : (twoB a b && decide (b ≤ a)) = r) (w : World) : Calls Try.prog 187 #[.agg #[.int .i64 4, .int .i64 a, .int .i64 b]] w fun e w' => e = .returned (.tuple #[.iface 212 (.agg #[.int .i64 4, .int .i64 a, .int .i64 b]), .bool r]) ∧ Below w.heap.size w w' := by
  have C := Lib.hid (fun w => rampSound_any 4 a b w)
  rw [h] at C
  clear h
  go_enter Try.func187, Try.ntmps187
  go_wp2_with fail
  refine (C.out _).mono ?_
  rintro e w1 ⟨rfl, l⟩
  go_wp2
  go_ret2
  exact ⟨rfl, lo_on (below_one _ _) l⟩
set_option maxRecDepth 100000 in
set_option maxHeartbeats 800000 in
theorem machine_5 (a b : Int) (r : Bool) (h : (twoB a b && decide (b < a)) = r) (w : World) : Calls Try.prog 187 #[.agg #[.int .i64 5, .int .i64 a, .int .i64 b]] w fun e w' => e = .returned (.tuple #[.iface 213 (.agg #[.int .i64 5, .int .i64 a, .int .i64 b]), .bool r]) ∧ Below w.heap.size w w' := by
  have C := Lib.hid (fun w => twinSound_any 5 a b w)
  rw [h] at C
  clear h
  go_enter Try.func187, Try.ntmps187
  go_wp2_with fail
  refine (C.out _).mono ?_
  rintro e w1 ⟨rfl, l⟩
  go_wp2
  go_ret2
  exact ⟨rfl, lo_on (below_one _ _) l⟩
set_option maxHeartbeats 800000 in
theorem machine_no (k a b : Int) (h : k ≠ 1 ∧ k ≠ 2 ∧ k ≠ 3 ∧ k ≠ 4 ∧ k ≠ 5) (w : World) : Calls Try.prog 187 #[.agg #[.int .i64 k, .int .i64 a, .int .i64 b]] w fun e w' => e = .returned (.tuple #[.nilIface, .bool false]) ∧ Below w.heap.size w w' := by
  have k1 : (k == 1) = false := by simp; omega
  have k2 : (k == 2) = false := by simp; omega
  have k3 : (k == 3) = false := by simp; omega
  have k4 : (k == 4) = false := by simp; omega
  have k5 : (k == 5) = false := by simp; omega
  clear h
  go_enter Try.func187, Try.ntmps187
  go_wp2
  go_ret2
  exact ⟨rfl, below_one _ _⟩
/-- The machine that a stage is. -/
def mchV (p : StageV) : Value :=
  let v : Value := .agg #[.int .i64 p.k, .int .i64 p.a, .int .i64 p.b]
  if p.k = 1 ∨ p.k = 3 then .iface 210 v else if p.k = 2 then .iface 211 v else if p.k = 4 then .iface 212 v else if p.k = 5 then .iface 213 v else .nilIface
theorem machine_any (p : StageV) (w : World) : Calls Try.prog 187 #[.agg #[.int .i64 p.k, .int .i64 p.a, .int .i64 p.b]] w fun e w' => e = .returned (.tuple #[mchV p, .bool (stgB p)]) ∧ Below w.heap.size w w' := by
  obtain ⟨k, a, b⟩ := p
  unfold mchV stgB
  simp only
  by_cases h1 : k = 1 ∨ k = 3
  · rw [if_pos h1, if_pos h1]
    rcases h1 with rfl | rfl
    · exact machine_1 a b _ rfl w
    · exact machine_3 a b _ rfl w
  rw [if_neg h1, if_neg h1]
  by_cases h2 : k = 2
  · subst h2
    rw [if_pos rfl, if_pos rfl]
    exact machine_2 a b _ rfl w
  rw [if_neg h2, if_neg h2]
  by_cases h4 : k = 4
  · subst h4
    rw [if_pos rfl, if_pos rfl]
    exact machine_4 a b _ rfl w
  rw [if_neg h4, if_neg h4]
  by_cases h5 : k = 5
  · subst h5
    rw [if_pos rfl, if_pos rfl]
    exact machine_5 a b _ rfl w
  rw [if_neg h5, if_neg h5]
  exact machine_no k a b (by omega) w
theorem isStage_is (p : StageV) (r : Bool) (h : stgB p = r) (w : World) : Calls Try.prog 105 #[.agg #[.int .i64 p.k, .int .i64 p.a, .int .i64 p.b]] w fun e w' => e = .returned (.bool r) ∧ Below w.heap.size w w' := by
  have C := Lib.hid (fun w => machine_any p w)
  rw [h] at C
  generalize mchV p = m at *
  obtain ⟨k, a, b⟩ := p
  simp only at C ⊢
  clear h
  go_enter Try.func105, Try.ntmps105
  go_wp2_with fail
  refine (C.out _).mono ?_
  rintro e w1 ⟨rfl, l⟩
  go_wp2
  go_ret
  exact ⟨rfl, lo_on (below_one _ _) l⟩
set_option maxRecDepth 100000 in
set_option maxHeartbeats 1600000 in
theorem stageGain_1 (a b : Int) (h : (twoB a b) = true) (w : World) : Calls Try.prog 102 #[.agg #[.int .i64 1, .int .i64 a, .int .i64 b]] w fun e w' => e = .returned (.tuple #[.agg #[.int .i64 (cutA a b), .int .i64 (cutB a b)], .bool true]) ∧ Below w.heap.size w w' := by
  have C := Lib.hid (fun w => machine_1 a b true h w)
  have hh := (twoB_iff a b).1 h
  have G := Lib.hid (fun w => leverGain_any 1 a b w hh.1 hh.2)
  obtain ⟨x, hx⟩ : ∃ x, cutA a b = x := ⟨_, rfl⟩
  obtain ⟨y, hy⟩ : ∃ y, cutB a b = y := ⟨_, rfl⟩
  rw [hx, hy] at G ⊢
  clear hx hy hh
  clear h
  go_enter Try.func102, Try.ntmps102
  go_wp2_with fail
  refine (C.out _).mono ?_
  rintro e w1 ⟨rfl, l⟩
  have HL := Lib.hid l
  clear l
  go_wp2_with fail
  refine (G.out _).mono ?_
  rintro e w2 ⟨rfl, l⟩
  have GC := Lib.hid (gn_cells (lo_on HL.out l))
  obtain ⟨_, ⟨c1, c2, f1, f2⟩, LL⟩ := GC.out
  have TS := Lib.hid (two_set w2 (w.heap.size + 1) 0 (.int .i64 x) (.int .i64 y) c1 c2)
  have L := Lib.hid LL
  clear LL GC l C HL G
  go_wp2
  obtain ⟨q0, q1, _⟩ := TS.out
  rw [Nat.zero_add] at q0 q1
  exact bodyPost_ret (v := .tuple #[.agg #[.int .i64 x, .int .i64 y], .bool true]) (by simp [results, Try.results102, go_sem, q0, q1]) rfl ⟨rfl, two_up L.out _ _⟩
set_option maxRecDepth 100000 in
set_option maxHeartbeats 1600000 in
theorem stageGain_3 (a b : Int) (h : (twoB a b) = true) (w : World) : Calls Try.prog 102 #[.agg #[.int .i64 3, .int .i64 a, .int .i64 b]] w fun e w' => e = .returned (.tuple #[.agg #[.int .i64 (cutA a b), .int .i64 (cutB a b)], .bool true]) ∧ Below w.heap.size w w' := by
  have C := Lib.hid (fun w => machine_3 a b true h w)
  have hh := (twoB_iff a b).1 h
  have G := Lib.hid (fun w => leverGain_any 3 a b w hh.1 hh.2)
  obtain ⟨x, hx⟩ : ∃ x, cutA a b = x := ⟨_, rfl⟩
  obtain ⟨y, hy⟩ : ∃ y, cutB a b = y := ⟨_, rfl⟩
  rw [hx, hy] at G ⊢
  clear hx hy hh
  clear h
  go_enter Try.func102, Try.ntmps102
  go_wp2_with fail
  refine (C.out _).mono ?_
  rintro e w1 ⟨rfl, l⟩
  have HL := Lib.hid l
  clear l
  go_wp2_with fail
  refine (G.out _).mono ?_
  rintro e w2 ⟨rfl, l⟩
  have GC := Lib.hid (gn_cells (lo_on HL.out l))
  obtain ⟨_, ⟨c1, c2, f1, f2⟩, LL⟩ := GC.out
  have TS := Lib.hid (two_set w2 (w.heap.size + 1) 0 (.int .i64 x) (.int .i64 y) c1 c2)
  have L := Lib.hid LL
  clear LL GC l C HL G
  go_wp2
  obtain ⟨q0, q1, _⟩ := TS.out
  rw [Nat.zero_add] at q0 q1
  exact bodyPost_ret (v := .tuple #[.agg #[.int .i64 x, .int .i64 y], .bool true]) (by simp [results, Try.results102, go_sem, q0, q1]) rfl ⟨rfl, two_up L.out _ _⟩
set_option maxRecDepth 100000 in
set_option maxHeartbeats 1600000 in
theorem stageGain_2 (a b : Int) (h : (rtB a && decide (b = 0)) = true) (w : World) : Calls Try.prog 102 #[.agg #[.int .i64 2, .int .i64 a, .int .i64 b]] w fun e w' => e = .returned (.tuple #[.agg #[.int .i64 (a), .int .i64 (1)], .bool true]) ∧ Below w.heap.size w w' := by
  have C := Lib.hid (fun w => machine_2 a b true h w)
  have G := Lib.hid (fun w => tackleGain_any 2 a b w)
  clear h
  go_enter Try.func102, Try.ntmps102
  go_wp2_with fail
  refine (C.out _).mono ?_
  rintro e w1 ⟨rfl, l⟩
  have HL := Lib.hid l
  clear l
  go_wp2_with fail
  refine (G.out _).mono ?_
  rintro e w2 ⟨rfl, l⟩
  have GC := Lib.hid (gn_cells (lo_on HL.out l))
  obtain ⟨_, ⟨c1, c2, f1, f2⟩, LL⟩ := GC.out
  have TS := Lib.hid (two_set w2 (w.heap.size + 1) 0 (.int .i64 a) (.int .i64 1) c1 c2)
  have L := Lib.hid LL
  clear LL GC l C HL G
  go_wp2
  obtain ⟨q0, q1, _⟩ := TS.out
  rw [Nat.zero_add] at q0 q1
  exact bodyPost_ret (v := .tuple #[.agg #[.int .i64 a, .int .i64 1], .bool true]) (by simp [results, Try.results102, go_sem, q0, q1]) rfl ⟨rfl, two_up L.out _ _⟩
set_option maxRecDepth 100000 in
set_option maxHeartbeats 1600000 in
theorem stageGain_4 (a b : Int) (h : (twoB a b && decide (b ≤ a)) = true) (w : World) : Calls Try.prog 102 #[.agg #[.int .i64 4, .int .i64 a, .int .i64 b]] w fun e w' => e = .returned (.tuple #[.agg #[.int .i64 (cutA a b), .int .i64 (cutB a b)], .bool true]) ∧ Below w.heap.size w w' := by
  have C := Lib.hid (fun w => machine_4 a b true h w)
  have hh := (show ((1 ≤ a ∧ a ≤ 24) ∧ 1 ≤ b ∧ b ≤ 24) from (twoB_iff a b).1 (by rw [Bool.and_eq_true] at h; exact h.1))
  have G := Lib.hid (fun w => rampGain_any 4 a b w hh.1 hh.2)
  obtain ⟨x, hx⟩ : ∃ x, cutA a b = x := ⟨_, rfl⟩
  obtain ⟨y, hy⟩ : ∃ y, cutB a b = y := ⟨_, rfl⟩
  rw [hx, hy] at G ⊢
  clear hx hy hh
  clear h
  go_enter Try.func102, Try.ntmps102
  go_wp2_with fail
  refine (C.out _).mono ?_
  rintro e w1 ⟨rfl, l⟩
  have HL := Lib.hid l
  clear l
  go_wp2_with fail
  refine (G.out _).mono ?_
  rintro e w2 ⟨rfl, l⟩
  have GC := Lib.hid (gn_cells (lo_on HL.out l))
  obtain ⟨_, ⟨c1, c2, f1, f2⟩, LL⟩ := GC.out
  have TS := Lib.hid (two_set w2 (w.heap.size + 1) 0 (.int .i64 x) (.int .i64 y) c1 c2)
  have L := Lib.hid LL
  clear LL GC l C HL G
  go_wp2
  obtain ⟨q0, q1, _⟩ := TS.out
  rw [Nat.zero_add] at q0 q1
  exact bodyPost_ret (v := .tuple #[.agg #[.int .i64 x, .int .i64 y], .bool true]) (by simp [results, Try.results102, go_sem, q0, q1]) rfl ⟨rfl, two_up L.out _ _⟩
set_option maxRecDepth 100000 in
set_option maxHeartbeats 1600000 in
theorem stageGain_5 (a b : Int) (h : (twoB a b && decide (b < a)) = true) (w : World) : Calls Try.prog 102 #[.agg #[.int .i64 5, .int .i64 a, .int .i64 b]] w fun e w' => e = .returned (.tuple #[.agg #[.int .i64 (cutA (2 * a) (a - b)), .int .i64 (cutB (2 * a) (a - b))], .bool true]) ∧ Below w.heap.size w w' := by
  have C := Lib.hid (fun w => machine_5 a b true h w)
  have hh := (show (((1 ≤ a ∧ a ≤ 24) ∧ 1 ≤ b ∧ b ≤ 24) ∧ b < a) by simpa [twoB_iff] using h)
  have G := Lib.hid (fun w => twinGain_any 5 a b w hh.1.1 hh.1.2 hh.2)
  obtain ⟨x, hx⟩ : ∃ x, cutA (2 * a) (a - b) = x := ⟨_, rfl⟩
  obtain ⟨y, hy⟩ : ∃ y, cutB (2 * a) (a - b) = y := ⟨_, rfl⟩
  rw [hx, hy] at G ⊢
  clear hx hy hh
  clear h
  go_enter Try.func102, Try.ntmps102
  go_wp2_with fail
  refine (C.out _).mono ?_
  rintro e w1 ⟨rfl, l⟩
  have HL := Lib.hid l
  clear l
  go_wp2_with fail
  refine (G.out _).mono ?_
  rintro e w2 ⟨rfl, l⟩
  have GC := Lib.hid (gn_cells (lo_on HL.out l))
  obtain ⟨_, ⟨c1, c2, f1, f2⟩, LL⟩ := GC.out
  have TS := Lib.hid (two_set w2 (w.heap.size + 1) 0 (.int .i64 x) (.int .i64 y) c1 c2)
  have L := Lib.hid LL
  clear LL GC l C HL G
  go_wp2
  obtain ⟨q0, q1, _⟩ := TS.out
  rw [Nat.zero_add] at q0 q1
  exact bodyPost_ret (v := .tuple #[.agg #[.int .i64 x, .int .i64 y], .bool true]) (by simp [results, Try.results102, go_sem, q0, q1]) rfl ⟨rfl, two_up L.out _ _⟩
set_option maxHeartbeats 800000 in
theorem stageGain_no (p : StageV) (h : stgB p = false) (w : World) : Calls Try.prog 102 #[.agg #[.int .i64 p.k, .int .i64 p.a, .int .i64 p.b]] w fun e w' => e = .returned (.tuple #[.agg #[.int .i64 0, .int .i64 0], .bool false]) ∧ Below w.heap.size w w' := by
  have C := Lib.hid (fun w => machine_any p w)
  rw [h] at C
  generalize mchV p = m at *
  obtain ⟨k, a, b⟩ := p
  simp only at C ⊢
  clear h
  go_enter Try.func102, Try.ntmps102
  go_wp2_with fail
  refine (C.out _).mono ?_
  rintro e w1 ⟨rfl, l⟩
  have GC := Lib.hid (gn_cells l)
  obtain ⟨_, ⟨c1, c2, f1, f2⟩, LL⟩ := GC.out
  have TS := Lib.hid (two_set w1 (w.heap.size + 1) 0 (.int .i64 0) (.int .i64 0) c1 c2)
  have L := Lib.hid LL
  clear LL GC l C
  go_wp2
  obtain ⟨q0, q1, _⟩ := TS.out
  rw [Nat.zero_add] at q0 q1
  exact bodyPost_ret (v := .tuple #[.agg #[.int .i64 0, .int .i64 0], .bool false]) (by simp [results, Try.results102, go_sem, q0, q1]) rfl ⟨rfl, two_up L.out _ _⟩
theorem stageGain_yes (p : StageV) (h : stgB p = true) (w : World) : Calls Try.prog 102 #[.agg #[.int .i64 p.k, .int .i64 p.a, .int .i64 p.b]] w fun e w' => e = .returned (.tuple #[.agg #[.int .i64 (gnF p).1, .int .i64 (gnF p).2], .bool true]) ∧ Below w.heap.size w w' := by
  obtain ⟨k, a, b⟩ := p
  unfold stgB at h
  unfold gnF
  simp only at h ⊢
  by_cases h1 : k = 1 ∨ k = 3
  · rw [if_pos h1] at h
    rw [if_neg (by omega), if_neg (by omega)]
    rcases h1 with rfl | rfl
    · exact stageGain_1 a b h w
    · exact stageGain_3 a b h w
  rw [if_neg h1] at h
  by_cases h2 : k = 2
  · subst h2
    rw [if_pos rfl] at h ⊢
    exact stageGain_2 a b h w
  rw [if_neg h2] at h ⊢
  by_cases h4 : k = 4
  · subst h4
    rw [if_pos rfl] at h
    rw [if_neg (by omega)]
    exact stageGain_4 a b h w
  rw [if_neg h4] at h
  by_cases h5 : k = 5
  · subst h5
    rw [if_pos rfl] at h ⊢
    exact stageGain_5 a b h w
  rw [if_neg h5] at h
  cases h
theorem stageGain_any (p : StageV) (w : World) : Calls Try.prog 102 #[.agg #[.int .i64 p.k, .int .i64 p.a, .int .i64 p.b]] w fun e w' => e = .returned (.tuple #[.agg #[.int .i64 (sgF p).1, .int .i64 (sgF p).2], .bool (stgB p)]) ∧ Below w.heap.size w w' := by
  unfold sgF
  cases h : stgB p with
  | false => exact stageGain_no p h w
  | true => exact stageGain_yes p h w
end Go.Proofs.Ytgjchkcjlmklbaa
