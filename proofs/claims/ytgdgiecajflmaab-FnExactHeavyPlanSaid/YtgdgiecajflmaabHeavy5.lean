/- The program's HeavyPlan for all numbers, and the model's where it fails. -/
import Derived.Test.YtgdgiecajflmaabHeavy4
namespace Go.Proofs.Ytgdgiecajflmaab
open Go.RowKit Go.Maps
set_option maxRecDepth 100000 in
theorem heavyPlan_no (n : Int) (hn : coinsB n = false) (w : World) :
    Calls Try.prog 7 #[.int .i64 n] w fun e w' => ∃ u, e = .returned (.tuple #[u, .bool false]) ∧ MineT w' w.heap.size w'.heap.size u [] ∧ Below w.heap.size w w' := by
  have ND := Lib.hid (needed_impl n w)
  rw [show neededF n = ((0 : Int), false) by unfold neededF; rw [if_neg (by rw [hn]; simp)]] at ND
  clear hn
  go_enter Try.func7, Try.ntmps7
  go_wp2_with fail
  refine ND.out.mono ?_
  rintro e w1 ⟨rfl, l1⟩
  have L1 := Lib.hid l1
  clear l1 ND
  go_wp2
  try rw [Exit.noGoto_ret]
  go_ret2
  exact ⟨_, rfl, .inl ⟨rfl, none, 0, rfl⟩, L1.out⟩
noncomputable def heavyL (n : Int) : List (List Int) := if coinsB n = true then gridL (needF n) n.toNat (fun j c => codeAt n.toNat (needF n) c j) else []
theorem heavyPlan_impl (n : Int) (w : World) :
    Calls Try.prog 7 #[.int .i64 n] w fun e w' => ∃ u, e = .returned (.tuple #[u, .bool (coinsB n)]) ∧ MineT w' w.heap.size w'.heap.size u (heavyL n) ∧ Below w.heap.size w w' := by
  unfold heavyL
  cases hc : coinsB n with
  | false => simpa using heavyPlan_no n hc w
  | true =>
    obtain ⟨N, rfl⟩ : ∃ N : Nat, n = N := ⟨n.toNat, by unfold coinsB at hc; simp at hc; omega⟩
    rw [if_pos rfl, Int.toNat_natCast]
    exact heavyPlan_yes N hc w
end Go.Proofs.Ytgdgiecajflmaab
