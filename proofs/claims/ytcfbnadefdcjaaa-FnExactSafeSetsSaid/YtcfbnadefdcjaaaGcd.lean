/- The contract of the program's greatest common divisor. -/
import Derived.Test.YtcfbnadefdcjaaaImpl2
namespace Go.Proofs.Ytcfbnadefdcjaaa
open Go.RowKit
theorem tmod_gcd (x y : Int) : Nat.gcd y.natAbs (x.tmod y).natAbs = Nat.gcd x.natAbs y.natAbs := by rw [Int.natAbs_tmod]; exact gc_step _ _
set_option maxRecDepth 100000 in
set_option maxHeartbeats 800000 in
theorem common_any (a b : Int) (w : World) (a0 : a.natAbs ≤ 1000000000000000) (b0 : b.natAbs ≤ 1000000000000000) :
    Calls Try.prog 220 #[.int .i64 a, .int .i64 b] w fun e w' => e = .returned (.int .i64 ((Nat.gcd a.natAbs b.natAbs : Nat) : Int)) ∧ ∃ d, w' = w.drewN d := by
  obtain ⟨g, hG⟩ : ∃ g, Nat.gcd a.natAbs b.natAbs = g := ⟨_, rfl⟩
  have HC := Lib.hid hG
  rw [hG]
  clear hG
  go_enter Try.func220, Try.ntmps220
  go_wp2
  go_loopw [0, 1] (fun u v wr => ∃ (x y : Int) (d : Nat), u = .int .i64 x ∧ v = .int .i64 y ∧ x.natAbs ≤ 1000000000000000 ∧ y.natAbs ≤ 1000000000000000 ∧ Hid (Nat.gcd x.natAbs y.natAbs = g) ∧ wr = w.drewN d) (fun _ v _ => (intOf v).natAbs)
  case atStart => exact ⟨a, b, 0, rfl, rfl, a0, b0, HC, rfl⟩
  case round =>
    obtain ⟨x, y, d, rfl, rfl, hx, hy, HH, rfl⟩ := hrel
    by_cases h0 : y = 0
    · subst h0
      have hgx := HH.out
      rw [show (0 : Int).natAbs = 0 from rfl, Nat.gcd_zero_right] at hgx
      by_cases hn : x < -x
      · have e : -x = (g : Int) := by omega
        go_wp2
        go_ret
        exact ⟨rfl, d, rfl⟩
      · have e : x = (g : Int) := by omega
        go_wp2
        go_ret
        exact ⟨rfl, d, rfl⟩
    · have hyb : (y != 0) = true := by simpa using h0
      have hz : (x.tmod y).natAbs < y.natAbs := by rw [Int.natAbs_tmod]; exact Nat.mod_lt _ (by omega)
      have HG := Lib.hid (tmod_gcd x y)
      have HM := Lib.hid hz
      obtain ⟨z, hzz⟩ : ∃ z, x.tmod y = z := ⟨_, rfl⟩
      have hw1 : IntKind.i64.wrap z = z := by rw [IntKind.wrap_i64]; omega
      have hw2 : RowKit.wrap64 z = z := Go.IntWalk.wrap64_in z (by omega)
      rw [hzz] at HG HM
      clear hz
      go_wp2
      go_quiet (fail)
      go_wp2
      go_roundw
      case rel => exact ⟨y, z, d + nq, rfl, rfl, hy, by have := HM.out; omega, Lib.hid (by rw [HG.out]; exact HH.out), by simp⟩
      case measure => have := HM.out; simp only [intOf]; omega
end Go.Proofs.Ytcfbnadefdcjaaa
