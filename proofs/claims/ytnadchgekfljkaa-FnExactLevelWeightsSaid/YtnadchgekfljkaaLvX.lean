/- The contract of slices.Max at a row of ints. -/
import Derived.Test.YtnadchgekfljkaaLvR
import Derived.Test.YtnadchgekfljkaaRod3
namespace Go.Proofs.Ytnadchgekfljkaa
open Go.RowKit
set_option maxRecDepth 100000 in
theorem max_any (b off c : Nat) (zs : List Int) (w : World) (h0 : 0 < zs.length) (hb : zs.length ≤ 2000000) (hc : ∀ j, j < zs.length → w.cell? ⟨b, off + j, none⟩ = some (.int .i64 (zs.getD j 0))) :
    Calls Try.prog 105 #[.slice (some ⟨b, off, none⟩) zs.length c] w fun e w' => e = .returned (.int .i64 (Lib.maxOf zs)) ∧ w' = w := by
  have HC := Lib.hid hc
  have HS := Lib.hid (fun k h1 h2 => Lib.maxOf_step zs k h1 h2)
  have HA := Lib.hid (show Lib.maxOf (zs.take zs.length) = Lib.maxOf zs by rw [List.take_length])
  have H1 := Lib.hid (Lib.maxOf_one zs)
  have c0 := hc 0 h0
  rw [Nat.add_zero] at c0
  obtain ⟨x0, hx0⟩ : ∃ x, zs.getD 0 0 = x := ⟨_, rfl⟩
  rw [hx0] at c0 H1
  clear hx0
  have hn1 : ¬ (zs.length : Int) < 1 := by omega
  have hn2 : (0 : Int) < (zs.length : Int) := by omega
  generalize hn : zs.length = n at *
  clear hc
  go_enter Try.func105, Try.ntmps105
  go_wp2
  go_loopw [3, 4] (fun m i wr => ∃ k : Nat, 0 < k ∧ k ≤ n ∧ i = .int .i64 k ∧ m = .int .i64 (Lib.maxOf (zs.take k)) ∧ wr = w) (fun _ i _ => n - (intOf i).toNat)
  case atStart => exact ⟨1, Nat.one_pos, h0, rfl, by rw [H1.out], rfl⟩
  case round =>
    obtain ⟨k, hk0, hk, rfl, rfl, rfl⟩ := hrel
    by_cases hlt : k < n
    · have hlt' : (k : Int) < (n : Int) := by omega
      have ck := HC.out k hlt
      have hs := HS.out k hk0 hlt
      obtain ⟨M, hM⟩ : ∃ M, Lib.maxOf (zs.take k) = M := ⟨_, rfl⟩
      obtain ⟨y, hy⟩ : ∃ y, zs.getD k 0 = y := ⟨_, rfl⟩
      rw [hy] at ck
      rw [hM, hy] at hs
      rw [hM]
      have HS1 := Lib.hid hs
      clear hs hM hy
      by_cases hmy : M < y
      · have e : max M y = y := by omega
        go_wp2
        go_roundw
        case rel => exact ⟨k + 1, by omega, by omega, by go_num, by rw [HS1.out, e], by first | rfl | trivial⟩
        case measure => simp [intOf]; omega
      · have e : max M y = M := by omega
        go_wp2
        go_roundw
        case rel => exact ⟨k + 1, by omega, by omega, by go_num, by rw [HS1.out, e], by first | rfl | trivial⟩
        case measure => simp [intOf]; omega
    · obtain rfl : k = n := by omega
      have hge : ¬ (k : Int) < (k : Int) := by omega
      go_wp2
      go_ret
      exact ⟨by rw [← HA.out]; rfl, rfl⟩
end Go.Proofs.Ytnadchgekfljkaa
