/- The contracts of the law's own functions that mark a list of texts and look at the marks again. -/
import Derived.Test.YtlmnkkodfnlbmaaStrs
namespace Go.Proofs.Ytlmnkkodfnlbmaa
open Go.RowKit
/-- The marks that are written into n cells, from count m on. -/
def marks (m n : Nat) : List ByteArray := (List.range n).map fun i => markB (m + i)
theorem marks_len (m n : Nat) : (marks m n).length = n := by simp [marks]
theorem marks_at (m n i : Nat) (h : i < n) : (marks m n).getD i ByteArray.empty = markB (m + i) := by simp [marks, List.getD, h]
theorem mark_nil (a : Option Addr) (c m : Nat) (w : World) : Calls Try.prog 19 #[.slice a 0 c, .int .i64 m] w fun e w' => e = .returned (.int .i64 m) ∧ w = w' := by
  go_enter Try.func19, Try.ntmps19
  go_wp2
  refine wp_loop_rounds 1 ?_
  rw [rounds_succ]
  go_wp2
  go_ret
  exact ⟨rfl, rfl⟩
theorem held_nil (a : Option Addr) (c m : Nat) (w : World) : Calls Try.prog 20 #[.slice a 0 c, .int .i64 m] w fun e w' => e = .returned (.int .i64 m) ∧ w = w' := by
  go_enter Try.func20, Try.ntmps20
  go_wp2
  refine wp_loop_rounds 1 ?_
  rw [rounds_succ]
  go_wp2
  go_ret
  exact ⟨rfl, rfl⟩
set_option maxHeartbeats 800000 in
/-- Into a list of texts of its own the law writes its marks: nothing that was there turns but this list. -/
theorem mark_any (g n c m : Nat) (w : World) (hg : g < w.heap.size) (hn : n ≤ 2000000) (hm0 : 1 ≤ m) (hm : m ≤ 2000000)
    (hc : ∀ j, j < n → ∃ t, w.cell? ⟨g, j, none⟩ = some (.string t)) (hf : ∀ j, j < n → w.frozen? ⟨g, j, none⟩ = false) :
    Calls Try.prog 19 #[.slice (some ⟨g, 0, none⟩) n c, .int .i64 m] w fun e w' => e = .returned (.int .i64 (m + n : Nat)) ∧ Only g w w' ∧
      ∀ j, j < n → w'.cell? ⟨g, j, none⟩ = some (.string (markB (m + j))) := by
  go_enter Try.func19, Try.ntmps19
  go_wp2
  go_loopw [1, 5] (fun x i wr => ∃ k : Nat, k ≤ n ∧ x = .int .i64 (m + k : Nat) ∧ i = .int .i64 k ∧ Hid (∀ j, j < k → wr.cell? ⟨g, j, none⟩ = some (.string (markB (m + j)))) ∧ Hid (∀ j, k ≤ j → j < n → ∃ t, wr.cell? ⟨g, j, none⟩ = some (.string t)) ∧ Hid (∀ j, j < n → wr.frozen? ⟨g, j, none⟩ = false) ∧ Only g w wr) (fun _ i _ => n - (intOf i).toNat)
  case atStart => exact ⟨0, Nat.zero_le _, rfl, rfl, Lib.hid (fun j h => by omega), Lib.hid (fun j _ h => hc j h), Lib.hid hf, Only.refl _ _⟩
  case round =>
    obtain ⟨k, hk, rfl, rfl, H1, H2, H3, ho⟩ := hrel
    by_cases hlt : k < n
    · obtain ⟨t, ht⟩ := H2.out k (Nat.le_refl _) hlt
      have hfk := H3.out k hlt
      have hgr : g < wr.heap.size := Nat.lt_of_lt_of_le hg ho.size
      have hlt' : (k : Int) < (n : Int) := by omega
      have MK := Lib.hid (markText_any (m + k) wr (by omega) (by omega))
      have HT := Lib.hid ht
      clear ht hfk hc hf
      go_wp2_with fail
      refine MK.out.mono ?_
      rintro e w1 ⟨rfl, l1⟩
      have c1 : w1.cell? ⟨g, k, none⟩ = some (.string t) := by rw [l1.cell (p := ⟨g, k, none⟩) hgr]; exact HT.out
      have f1 : w1.frozen? ⟨g, k, none⟩ = false := by rw [l1.frozen (p := ⟨g, k, none⟩) hgr]; exact H3.out k hlt
      have hsame : ∀ v, (w1.setCell ⟨g, k, none⟩ v).cell? ⟨g, k, none⟩ = some v := fun v => World.cell?_setCell_same' _ _ _ (by rw [c1]; rfl)
      have hother : ∀ v j, j ≠ k → (w1.setCell ⟨g, k, none⟩ v).cell? ⟨g, j, none⟩ = wr.cell? ⟨g, j, none⟩ := fun v j hj => by
        rw [World.cell?_setCell_other (h := fun hh => hj (congrArg Addr.off hh).symm), l1.cell (p := ⟨g, j, none⟩) hgr]
      have hfree : ∀ v j, (w1.setCell ⟨g, k, none⟩ v).frozen? ⟨g, j, none⟩ = wr.frozen? ⟨g, j, none⟩ := fun v j => by rw [World.frozen?_setCell, l1.frozen (p := ⟨g, j, none⟩) hgr]
      have HS := Lib.hid hsame
      have HO := Lib.hid hother
      have HF := Lib.hid hfree
      clear hsame hother hfree
      go_wp2
      go_roundw
      case rel =>
        refine ⟨k + 1, by omega, by go_num, by go_num, Lib.hid (fun j hj => ?_), Lib.hid (fun j hj hn => ?_), Lib.hid (fun j hj => ?_), ho.trans ((Only.of_lo l1).trans (only_set _ _ _ _))⟩
        · by_cases e : j = k
          · subst e; exact HS.out _
          · rw [HO.out _ j e]; exact H1.out j (by omega)
        · rw [HO.out _ j (by omega)]; exact H2.out j (by omega) hn
        · rw [HF.out _ j]; exact H3.out j hj
      case measure => simp [intOf]; omega
    · obtain rfl : k = n := by omega
      clear hc hf
      go_wp2
      go_ret
      exact ⟨rfl, ho, H1.out⟩
set_option maxRecDepth 100000 in
set_option maxHeartbeats 1600000 in
/-- The marks are there again. -/
theorem held_any (g n c m : Nat) (w : World) (hg : g < w.heap.size) (hn : n ≤ 2000000) (hm0 : 1 ≤ m) (hm : m ≤ 2000000)
    (hc : ∀ j, j < n → w.cell? ⟨g, j, none⟩ = some (.string (markB (m + j)))) :
    Calls Try.prog 20 #[.slice (some ⟨g, 0, none⟩) n c, .int .i64 m] w fun e w' => e = .returned (.int .i64 (m + n : Nat)) ∧ Below w.heap.size w w' := by
  have HC := Lib.hid hc
  clear hc
  go_enter Try.func20, Try.ntmps20
  go_wp2
  go_loopw [1, 5] (fun x i wr => ∃ k : Nat, k ≤ n ∧ x = .int .i64 (m + k : Nat) ∧ i = .int .i64 k ∧ Below w.heap.size w wr) (fun _ i _ => n - (intOf i).toNat)
  case atStart => exact ⟨0, Nat.zero_le _, rfl, rfl, Below.refl _ _⟩
  case round =>
    obtain ⟨k, hk, rfl, rfl, hb⟩ := hrel
    by_cases hlt : k < n
    · have c1 : wr.cell? ⟨g, k, none⟩ = some (.string (markB (m + k))) := by rw [hb.cell (p := ⟨g, k, none⟩) hg]; exact HC.out k hlt
      have hgr : g < wr.heap.size := Nat.lt_of_lt_of_le hg hb.size
      have hlt' : (k : Int) < (n : Int) := by omega
      have hk0 : (0 : Int) ≤ (k : Int) := Int.natCast_nonneg _
      go_wp2_with fail
      go_region_held3 (fun w' => w'.cell? ⟨g, k, none⟩ = some (.string (markB (m + k)))) (first | exact (hl.cell (p := ⟨g, k, none⟩) hgr).trans c1 | go_keep)
        (first | (go_at_call 34; refine (markText_any (m + k) _ (by omega) (by omega)).mono ?_; rintro e w1 ⟨rfl, hl⟩))
      go_wp2
      go_roundw
      case rel => exact ⟨k + 1, by omega, by go_num, by go_num, (hb.drew).trans (hl.mono hb.size)⟩
      case measure => simp [intOf]; omega
    · obtain rfl : k = n := by omega
      go_wp2
      go_ret
      exact ⟨rfl, hb⟩
end Go.Proofs.Ytlmnkkodfnlbmaa
