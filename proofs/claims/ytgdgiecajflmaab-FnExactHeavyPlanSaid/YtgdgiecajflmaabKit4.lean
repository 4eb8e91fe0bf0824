/- The contracts on kits of powers. -/
import Derived.Test.YtgdgiecajflmaabKit3
import Derived.Laws.OwnMore
import Derived.Deep.AppendLies
import Derived.Deep.RegionHeld3
namespace Go.Proofs.Ytgdgiecajflmaab
open Go.RowKit
set_option maxRecDepth 100000 in
set_option maxHeartbeats 800000 in
theorem powersKit_yes (b : Int) (n : Nat) (m : Int) (hb : b = 2 ∨ b = 3) (h1 : 1 ≤ n) (h2 : (n : Int) ≤ m) (h3 : m ≤ 6) (w : World) :
    Calls Try.prog 73 #[.int .i64 b, .int .i64 (n : Int), .int .i64 m] w fun e w' => ∃ u, e = .returned (.tuple #[u, .bool true]) ∧ MineI w' w.heap.size w'.heap.size u (powsF b n) ∧ Below w.heap.size w w' := by
  have HM := make_ints n (by omega)
  have n1 : ¬ (n : Int) < 1 := by omega
  have n2 : ¬ m < (n : Int) := by omega
  have HB := Lib.hid hb
  clear hb
  go_enter Try.func73, Try.ntmps73
  go_wp2
  go_loopw [21] (fun i wr => ∃ k : Nat, k ≤ n ∧ i = .int .i64 k ∧ Hid (∀ j, j < k → wr.cell? ⟨w.heap.size, j, none⟩ = some (.int .i64 (powF b j))) ∧ Hid (∀ j, k ≤ j → j < n → wr.cell? ⟨w.heap.size, j, none⟩ = some (.int .i64 0)) ∧ Hid (∀ j, wr.frozen? ⟨w.heap.size, j, none⟩ = false) ∧ Hid (Below w.heap.size w wr) ∧ w.heap.size + 1 ≤ wr.heap.size) (fun i _ => n - (intOf i).toNat)
  case atStart => exact ⟨0, Nat.zero_le _, rfl, Lib.hid (fun j h => by omega), Lib.hid (fun j _ h => by rw [World.cell?_alloc_at _ _ _ _ rfl]; exact made_int _ _ h), Lib.hid (fun j => World.frozen?_alloc_at _ _ _ _ rfl), Lib.hid ((Below.refl _ _).alloc (Nat.le_refl _) _), by simp⟩
  case round =>
    obtain ⟨k, hk, rfl, H1, H2, H3, HW, hs1⟩ := hrel
    clear HM
    by_cases hlt : k < n
    · have hcw := H2.out k (Nat.le_refl _) hlt
      have hfw := H3.out k
      have hlt' : (k : Int) < (n : Int) := by omega
      have TS := Lib.hid (fun u => one_set wr w.heap.size k u hcw)
      have P := Lib.hid (power_any b k HB.out (by omega) wr)
      obtain ⟨y, hy⟩ : ∃ y, powF b k = y := ⟨_, rfl⟩
      rw [hy] at P
      have HY := Lib.hid hy
      clear hy
      go_wp2_with fail
      refine P.out.mono ?_
      rintro e w' ⟨rfl, rfl⟩
      go_wp2
      go_roundw
      case rel =>
        refine ⟨k + 1, by omega, by go_num, Lib.hid (fun j hj => ?_), Lib.hid (fun j hj hn => ?_), Lib.hid (fun j => ?_), Lib.hid (HW.out.setCell (p := ⟨w.heap.size, k, none⟩) (Nat.le_refl _) _), by simp; omega⟩
        · by_cases e : j = k
          · subst e; rw [HY.out]; exact (TS.out _).1
          · rw [(TS.out _).2 _ e]; exact H1.out j (by omega)
        · rw [(TS.out _).2 _ (by omega)]; exact H2.out j (by omega) hn
        · rw [World.frozen?_setCell]; exact H3.out j
      case measure => simp [intOf]; omega
    · obtain rfl : k = n := by omega
      have hge : ¬ (k : Int) < (k : Int) := by omega
      go_wp2
      go_ret2
      exact ⟨_, rfl, .inr ⟨_, _, by rw [powsF_len]; rfl, Nat.le_refl _, by omega, Nat.le_refl _, fun j hj => by rw [powsF_len] at hj; rw [powsF_at _ _ _ hj]; exact H1.out j hj, H3.out⟩, HW.out⟩
theorem powersKit_no (b k m : Int) (h : k < 1 ∨ m < k) (w : World) :
    Calls Try.prog 73 #[.int .i64 b, .int .i64 k, .int .i64 m] w fun e w' => e = .returned (.tuple #[.slice none 0 0, .bool false]) ∧ w = w' := by
  by_cases h1 : k < 1
  · go_enter Try.func73, Try.ntmps73
    go_wp2
    go_ret2
    exact ⟨rfl, rfl⟩
  · have h2 : m < k := by omega
    go_enter Try.func73, Try.ntmps73
    go_wp2
    go_ret2
    exact ⟨rfl, rfl⟩
/-- What a kit of powers is, for a limit. -/
def kitOf (b m k : Int) : List Int × Bool := if 1 ≤ k ∧ k ≤ m then (powsF b k.toNat, true) else ([], false)
theorem kitOf_len (b m k : Int) (hm : m ≤ 6) : (kitOf b m k).1.length ≤ 2000000 := by
  unfold kitOf
  split
  · rw [powsF_len]; omega
  · simp
theorem powersKit_any (b k m : Int) (hb : b = 2 ∨ b = 3) (h3 : m ≤ 6) (w : World) :
    Calls Try.prog 73 #[.int .i64 b, .int .i64 k, .int .i64 m] w fun e w' => ∃ u, e = .returned (.tuple #[u, .bool (kitOf b m k).2]) ∧ MineI w' w.heap.size w'.heap.size u (kitOf b m k).1 ∧ Below w.heap.size w w' := by
  unfold kitOf
  by_cases h : 1 ≤ k ∧ k ≤ m
  · rw [if_pos h]
    obtain ⟨n, rfl⟩ := Int.eq_ofNat_of_zero_le (show 0 ≤ k by omega)
    simp only [Int.toNat_natCast]
    exact powersKit_yes b n m hb (by omega) h.2 h3 w
  · rw [if_neg h]
    refine (powersKit_no b k m (by omega) w).mono ?_
    rintro e w' ⟨rfl, rfl⟩
    exact ⟨_, rfl, mineI_nil _ _ _ _ _, Below.refl _ _⟩
theorem threes_impl (k : Int) (w : World) : Calls Try.prog 24 #[.int .i64 k] w fun e w' => ∃ u, e = .returned (.tuple #[u, .bool (kitOf 3 5 k).2]) ∧ MineI w' w.heap.size w'.heap.size u (kitOf 3 5 k).1 ∧ Below w.heap.size w w' := by
  have C := Lib.hid (powersKit_any 3 k 5 (.inr rfl) (by omega) w)
  generalize (kitOf 3 5 k).1 = ys at *
  generalize (kitOf 3 5 k).2 = b at *
  go_enter Try.func24, Try.ntmps24
  go_wp2_with fail
  refine C.out.mono ?_
  rintro e w' ⟨u, rfl, m, l⟩
  have M := Lib.hid m
  have L := Lib.hid l
  clear m l
  go_wp2
  go_ret2
  exact ⟨u, rfl, M.out, L.out⟩
theorem twos_impl (k : Int) (w : World) : Calls Try.prog 26 #[.int .i64 k] w fun e w' => ∃ u, e = .returned (.tuple #[u, .bool (kitOf 2 6 k).2]) ∧ MineI w' w.heap.size w'.heap.size u (kitOf 2 6 k).1 ∧ Below w.heap.size w w' := by
  have C := Lib.hid (powersKit_any 2 k 6 (.inl rfl) (by omega) w)
  generalize (kitOf 2 6 k).1 = ys at *
  generalize (kitOf 2 6 k).2 = b at *
  go_enter Try.func26, Try.ntmps26
  go_wp2_with fail
  refine C.out.mono ?_
  rintro e w' ⟨u, rfl, m, l⟩
  have M := Lib.hid m
  have L := Lib.hid l
  clear m l
  go_wp2
  go_ret2
  exact ⟨u, rfl, M.out, L.out⟩
end Go.Proofs.Ytgdgiecajflmaab
