/- The contracts of the law's own functions that mark a row of loads and look at the marks again. -/
import Derived.Test.YtcfbnadefdcjaaaLoadTo
import Derived.Test.YtcfbnadefdcjaaaOnly
namespace Go.Proofs.Ytcfbnadefdcjaaa
open Go.RowKit
/-- The marks that are written into n loads, from count m on. -/
def MarkedL (w : World) (g m n : Nat) : Prop := ∀ j, j < n → w.cell? ⟨g, j * 2, none⟩ = some (.int .i64 (m + j * 2 : Nat)) ∧ w.cell? ⟨g, j * 2 + 1, none⟩ = some (.int .i64 (m + j * 2 + 1 : Nat))
theorem markL_nil (a : Option Addr) (c m : Nat) (w : World) : Calls Try.prog 43 #[.slice a 0 c, .int .i64 m] w fun e w' => e = .returned (.int .i64 m) ∧ w = w' := by
  go_enter Try.func43, Try.ntmps43
  go_wp2
  refine wp_loop_rounds 1 ?_
  rw [rounds_succ]
  go_wp2
  go_ret
  exact ⟨rfl, rfl⟩
set_option maxHeartbeats 800000 in
/-- Into a row of loads of its own the law writes its marks: nothing that was there turns but this row. -/
theorem markL_any (g n c m : Nat) (w : World) (hn : n ≤ 2000000) (hm : m ≤ 4000000)
    (hc : ∀ j, j < n * 2 → ∃ z, w.cell? ⟨g, j, none⟩ = some (.int .i64 z)) (hf : ∀ j, j < n * 2 → w.frozen? ⟨g, j, none⟩ = false) :
    Calls Try.prog 43 #[.slice (some ⟨g, 0, none⟩) n c, .int .i64 m] w fun e w' => e = .returned (.int .i64 (m + n * 2 : Nat)) ∧ Only g w w' ∧ MarkedL w' g m n := by
  go_enter Try.func43, Try.ntmps43
  go_wp2
  go_loopw [1, 5] (fun x i wr => ∃ k : Nat, k ≤ n ∧ x = .int .i64 (m + k * 2 : Nat) ∧ i = .int .i64 k ∧ Hid (MarkedL wr g m k) ∧ Hid (∀ j, k * 2 ≤ j → j < n * 2 → ∃ z, wr.cell? ⟨g, j, none⟩ = some (.int .i64 z)) ∧ Hid (∀ j, j < n * 2 → wr.frozen? ⟨g, j, none⟩ = false) ∧ Only g w wr) (fun _ i _ => n - (intOf i).toNat)
  case atStart => exact ⟨0, Nat.zero_le _, rfl, rfl, Lib.hid (fun j h => by omega), Lib.hid (fun j _ h => hc j h), Lib.hid hf, Only.refl _ _⟩
  case round =>
    obtain ⟨k, hk, rfl, rfl, H1, H2, H3, ho⟩ := hrel
    by_cases hlt : k < n
    · obtain ⟨t, c1⟩ := H2.out (k * 2) (Nat.le_refl _) (by omega)
      obtain ⟨u, c2⟩ := H2.out (k * 2 + 1) (by omega) (by omega)
      have f1 := H3.out (k * 2) (by omega)
      have f2 := H3.out (k * 2 + 1) (by omega)
      have hlt' : (k : Int) < (n : Int) := by omega
      have TS := Lib.hid (two_set wr g (k * 2) (.int .i64 ((m : Int) + (k : Int) * 2)) (.int .i64 ((m : Int) + (k : Int) * 2 + 1)) c1 c2)
      clear hc hf
      go_wp2_with fail
      go_roundw
      case rel =>
        obtain ⟨t1, t2, t3⟩ := TS.out
        refine ⟨k + 1, by omega, by go_num, by go_num, Lib.hid (fun j hj => ?_), Lib.hid (fun j hj hjn => ?_), Lib.hid (fun j hj => ?_), ho.trans ((only_set _ _ _ _).trans (only_set _ _ _ _))⟩
        · by_cases e : j = k
          · subst e
            rw [t1, t2, show ((m + j * 2 + 1 : Nat) : Int) = (m : Int) + (j : Int) * 2 + 1 by omega, show ((m + j * 2 : Nat) : Int) = (m : Int) + (j : Int) * 2 by omega]
            exact ⟨rfl, rfl⟩
          · rw [t3 _ (by omega) (by omega), t3 _ (by omega) (by omega)]
            exact H1.out j (by omega)
        · rw [t3 _ (by omega) (by omega)]
          exact H2.out j (by omega) hjn
        · rw [World.frozen?_setCell, World.frozen?_setCell]
          exact H3.out j hj
      case measure => simp [intOf]; omega
    · obtain rfl : k = n := by omega
      clear hc hf
      go_wp2
      go_ret
      exact ⟨rfl, ho, H1.out⟩
end Go.Proofs.Ytcfbnadefdcjaaa
