/- The contract of the model's CountTilts, whole. -/
import Derived.Test.YtgjchkcjlmklbaaSwD
namespace Go.Proofs.Ytgjchkcjlmklbaa
open Go.RowKit
set_option maxRecDepth 100000 in
set_option maxHeartbeats 1600000 in
theorem specCount_any (u v : Value) (ws qs : List Int) (m : Int) (w : World) (hu : IntRow w u ws) (hv : IntRow w v qs) (hn : ws.length ≤ 2000000) (hm : qs.length ≤ 2000000) :
    Calls Try.prog 42 #[u, v, .int .i64 m] w fun e w' => e = .returned (.tuple #[.int .i64 (ctN ws qs m), .bool (ctB ws qs m)]) ∧ Below w.heap.size w w' := by
  have hRR : ctN ws qs m = if ctB ws qs m = true then ((cntF (tnF ws qs) ws.length m : Nat) : Int) else 0 := rfl
  have hBB := ctB_parts ws qs m
  by_cases hall : armB ws qs = true ∧ -10000 ≤ m ∧ m ≤ 10000
  · obtain ⟨h, m1, m2⟩ := hall
    have e : (decide (-10000 ≤ m) && decide (m ≤ 10000)) = true := by simp; omega
    rw [h, e] at hBB
    rw [hRR, hBB, if_pos (by rfl)]
    exact specCount_yes u v ws qs m w hu hv hn hm h m1 m2
  generalize ctN ws qs m = R at hRR ⊢
  generalize ctB ws qs m = B at hRR hBB ⊢
  have AR := Lib.hid (l9Arms_is u v ws qs _ rfl w hu hv hn hm)
  have IN := Lib.hid (fun r h w => l1In_is m (-10000) 10000 r h w)
  cases h : armB ws qs with
  | false =>
    rw [h] at hBB AR
    have HF : Hid (R = 0 ∧ B = false) := Lib.hid (by subst hBB; exact ⟨hRR, rfl⟩)
    clear hu hv h hRR hBB IN hall
    go_enter Try.func42, Try.ntmps42
    go_wp2_with fail
    refine AR.out.mono ?_
    rintro e w' ⟨rfl, rfl⟩
    go_wp2
    go_ret2
    exact ⟨by simp [HF.out.1, HF.out.2], Below.refl _ _⟩
  | true =>
    have e : (decide (-10000 ≤ m) && decide (m ≤ 10000)) = false := by
      cases q : (decide (-10000 ≤ m) && decide (m ≤ 10000)) with
      | false => rfl
      | true => exact absurd ⟨h, by simpa using q⟩ hall
    rw [h, e] at hBB
    rw [h] at AR
    have I1 := Lib.hid (fun w => IN.out false e w)
    have HF : Hid (R = 0 ∧ B = false) := Lib.hid (by subst hBB; exact ⟨hRR, rfl⟩)
    clear hu hv h hRR hBB IN hall e
    go_enter Try.func42, Try.ntmps42
    go_wp2_with fail
    refine AR.out.mono ?_
    rintro e w' ⟨rfl, rfl⟩
    go_wp2_with fail
    refine (I1.out _).mono ?_
    rintro e w' ⟨rfl, rfl⟩
    go_wp2
    go_ret2
    exact ⟨by simp [HF.out.1, HF.out.2], Below.refl _ _⟩
end Go.Proofs.Ytgjchkcjlmklbaa
