/- The digits of a number as a set of places: all ascending lists are told by the numbers below a power of 2. No program stands here. -/
import Derived.Test.YtcfbnadefdcjaaaAsc
namespace Go.Proofs.Ytcfbnadefdcjaaa
/-- The places of the digits of a number that are 1. -/
def bitsF (n c : Nat) : List Int := ((List.range n).filter (fun i => c.testBit i)).map (fun (i : Nat) => (i : Int))
def codeF (xs : List Int) : Nat := (xs.map (fun x => 2 ^ x.toNat)).sum
def codesB (n : Nat) : Bool := decide (∀ xs ∈ everyF n, bitsF n (codeF xs) = xs ∧ codeF xs < 2 ^ n)
theorem codes_are {n : Nat} (hn : n ≤ 8) : codesB n = true := by
  have : n = 0 ∨ n = 1 ∨ n = 2 ∨ n = 3 ∨ n = 4 ∨ n = 5 ∨ n = 6 ∨ n = 7 ∨ n = 8 := by omega
  rcases this with rfl | rfl | rfl | rfl | rfl | rfl | rfl | rfl | rfl <;> decide +kernel
theorem code_bits {n : Nat} (hn : n ≤ 8) {xs : List Int} (h : xs ∈ everyF n) : bitsF n (codeF xs) = xs ∧ codeF xs < 2 ^ n := of_decide_eq_true (codes_are hn) xs h
def permB (n : Nat) : Bool := ((everyF n).map codeF).isPerm (List.range (2 ^ n))
theorem perm_is {n : Nat} (hn : n ≤ 8) : permB n = true := by
  have : n = 0 ∨ n = 1 ∨ n = 2 ∨ n = 3 ∨ n = 4 ∨ n = 5 ∨ n = 6 ∨ n = 7 ∨ n = 8 := by omega
  rcases this with rfl | rfl | rfl | rfl | rfl | rfl | rfl | rfl | rfl <;> decide +kernel
theorem code_perm {n : Nat} (hn : n ≤ 8) : ((everyF n).map codeF).Perm (List.range (2 ^ n)) := List.isPerm_iff.1 (perm_is hn)
end Go.Proofs.Ytcfbnadefdcjaaa
