/- The program's ReachGain and ExactGain. -/
import Derived.Test.YtgjchkcjlmklbaaSr7
import Derived.Test.YtgjchkcjlmklbaaSr8
namespace Go.Proofs.Ytgjchkcjlmklbaa
open Go.RowKit
theorem fd_none (exact : Bool) {kit : List StageV} {n : Int} (h : kitB kit n = false) : fdB exact kit n = false ∧ fdL exact kit n = [] := by
  unfold fdB fdL foundF
  rw [h]
  exact ⟨rfl, rfl⟩
theorem found_len {exact : Bool} {kit : List StageV} {n : Int} : (fdL exact kit n).length ≤ 2000000 := by
  unfold fdL
  cases hf : foundF exact kit n with
  | none => simp
  | some xs =>
    simp only [Option.getD_some]
    unfold foundF at hf
    split at hf
    · have := List.find?_some hf
      unfold hitB at this
      rw [Bool.and_eq_true, decide_eq_true_iff] at this
      omega
    · cases hf
set_option maxHeartbeats 800000 in
theorem fewReachGain_any (v : Value) (kit : List StageV) (n : Int) (w : World) (hr : StgRow w v kit) (hn : kit.length ≤ 2000000) :
    Calls Try.prog 144 #[v, .int .i64 n, .func (.func 145) #[] #[]] w fun e w' => ∃ u, e = .returned (.tuple #[u, .bool (fdB false kit n)]) ∧ MineI w' w.heap.size w'.heap.size u (fdL false kit n) ∧ Below w.heap.size w w' := by
  cases hk : kitB kit n with
  | true => exact fewReachGain_yes v kit n w hr hk
  | false =>
    obtain ⟨h1, h2⟩ := fd_none false hk
    rw [h1, h2]
    cases hb : eightB kit with
    | false =>
      have C := Lib.hid (isKit_is v kit false hb w hr hn)
      obtain ⟨a, c, rfl, _, _⟩ := hr
      clear h1 h2 hk hb hn
      go_enter Try.func144, Try.ntmps144
      go_wp2_with fail
      refine C.out.mono ?_
      rintro e w1 ⟨rfl, l⟩
      go_wp2
      go_ret2
      exact ⟨_, rfl, mineI_nil _ _ _ _ _, l⟩
    | true =>
      have C := Lib.hid (isKit_is v kit true hb w hr hn)
      obtain ⟨a, c, rfl, _, _⟩ := hr
      by_cases hn0 : n < 1
      · clear h1 h2 hk hb hn
        go_enter Try.func144, Try.ntmps144
        go_wp2_with fail
        refine C.out.mono ?_
        rintro e w1 ⟨rfl, l⟩
        go_wp2
        go_ret2
        exact ⟨_, rfl, mineI_nil _ _ _ _ _, l⟩
      · have hn1 : 1000000 < n := by
          unfold kitB eightB at *
          rw [hb, Bool.true_and] at hk
          simp at hk
          omega
        clear h1 h2 hk hb hn
        go_enter Try.func144, Try.ntmps144
        go_wp2_with fail
        refine C.out.mono ?_
        rintro e w1 ⟨rfl, l⟩
        go_wp2
        go_ret2
        exact ⟨_, rfl, mineI_nil _ _ _ _ _, l⟩
theorem implReachGain_any (v : Value) (kit : List StageV) (n : Int) (w : World) (hr : StgRow w v kit) (hn : kit.length ≤ 2000000) :
    Calls Try.prog 64 #[v, .int .i64 n] w fun e w' => ∃ u, e = .returned (.tuple #[u, .bool (fdB false kit n)]) ∧ MineI w' w.heap.size w'.heap.size u (fdL false kit n) ∧ Below w.heap.size w w' := by
  have C := Lib.hid (fewReachGain_any v kit n w hr hn)
  generalize fdB false kit n = r at *
  generalize fdL false kit n = ys at *
  clear hr hn
  go_enter Try.func64, Try.ntmps64
  go_wp2_with fail
  refine C.out.mono ?_
  rintro e w1 ⟨u, rfl, m, l⟩
  have M := Lib.hid m
  have L := Lib.hid l
  clear m l C
  go_wp2
  go_ret2
  exact ⟨_, rfl, M.out, L.out⟩
set_option maxHeartbeats 800000 in
theorem fewExactGain_any (v : Value) (kit : List StageV) (n : Int) (w : World) (hr : StgRow w v kit) (hn : kit.length ≤ 2000000) :
    Calls Try.prog 144 #[v, .int .i64 n, .func (.func 147) #[] #[]] w fun e w' => ∃ u, e = .returned (.tuple #[u, .bool (fdB true kit n)]) ∧ MineI w' w.heap.size w'.heap.size u (fdL true kit n) ∧ Below w.heap.size w w' := by
  cases hk : kitB kit n with
  | true => exact fewExactGain_yes v kit n w hr hk
  | false =>
    obtain ⟨h1, h2⟩ := fd_none true hk
    rw [h1, h2]
    cases hb : eightB kit with
    | false =>
      have C := Lib.hid (isKit_is v kit false hb w hr hn)
      obtain ⟨a, c, rfl, _, _⟩ := hr
      clear h1 h2 hk hb hn
      go_enter Try.func144, Try.ntmps144
      go_wp2_with fail
      refine C.out.mono ?_
      rintro e w1 ⟨rfl, l⟩
      go_wp2
      go_ret2
      exact ⟨_, rfl, mineI_nil _ _ _ _ _, l⟩
    | true =>
      have C := Lib.hid (isKit_is v kit true hb w hr hn)
      obtain ⟨a, c, rfl, _, _⟩ := hr
      by_cases hn0 : n < 1
      · clear h1 h2 hk hb hn
        go_enter Try.func144, Try.ntmps144
        go_wp2_with fail
        refine C.out.mono ?_
        rintro e w1 ⟨rfl, l⟩
        go_wp2
        go_ret2
        exact ⟨_, rfl, mineI_nil _ _ _ _ _, l⟩
      · have hn1 : 1000000 < n := by
          unfold kitB eightB at *
          rw [hb, Bool.true_and] at hk
          simp at hk
          omega
        clear h1 h2 hk hb hn
        go_enter Try.func144, Try.ntmps144
        go_wp2_with fail
        refine C.out.mono ?_
        rintro e w1 ⟨rfl, l⟩
        go_wp2
        go_ret2
        exact ⟨_, rfl, mineI_nil _ _ _ _ _, l⟩
theorem implExactGain_any (v : Value) (kit : List StageV) (n : Int) (w : World) (hr : StgRow w v kit) (hn : kit.length ≤ 2000000) :
    Calls Try.prog 68 #[v, .int .i64 n] w fun e w' => ∃ u, e = .returned (.tuple #[u, .bool (fdB true kit n)]) ∧ MineI w' w.heap.size w'.heap.size u (fdL true kit n) ∧ Below w.heap.size w w' := by
  have C := Lib.hid (fewExactGain_any v kit n w hr hn)
  generalize fdB true kit n = r at *
  generalize fdL true kit n = ys at *
  clear hr hn
  go_enter Try.func68, Try.ntmps68
  go_wp2_with fail
  refine C.out.mono ?_
  rintro e w1 ⟨u, rfl, m, l⟩
  have M := Lib.hid m
  have L := Lib.hid l
  clear m l C
  go_wp2
  go_ret2
  exact ⟨_, rfl, M.out, L.out⟩
end Go.Proofs.Ytgjchkcjlmklbaa
