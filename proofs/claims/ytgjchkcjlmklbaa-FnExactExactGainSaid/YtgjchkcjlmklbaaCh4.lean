/- The contracts of the model's functions on a chain and a number. -/
import Derived.Test.YtgjchkcjlmklbaaCh3
namespace Go.Proofs.Ytgjchkcjlmklbaa
open Go.RowKit
theorem small5 {xs : List StageV} (h : xs.length ≤ 5) : decide ((xs.length : Int) ≤ 5) = true := by simp; omega
theorem chain_two (xs : List StageV) : (allB xs && decide ((xs.length : Int) ≤ 5)) = chainB xs := by
  unfold chainB
  by_cases h : xs.length ≤ 5
  · rw [show decide ((xs.length : Int) ≤ 5) = true by simp; omega, show decide (xs.length ≤ 5) = true by simp; omega]
  · rw [show decide ((xs.length : Int) ≤ 5) = false by simp; omega, show decide (xs.length ≤ 5) = false by simp; omega]
theorem l7Chains_is (v : Value) (xs : List StageV) (r : Bool) (h : chainB xs = r) (w : World) (hr : StgRow w v xs) (hn : xs.length ≤ 2000000) :
    Calls Try.prog 206 #[v, .int .i64 5] w fun e w' => e = .returned (.bool r) ∧ Below w.heap.size w w' :=
  l7Stages_is v xs 5 r (by rw [chain_two, h]) w hr hn
end Go.Proofs.Ytgjchkcjlmklbaa
