/- The contract of l1Split: the parts of a text, in memory of its own. -/
import Derived.Test.YtlmnkkodfnlbmaaRows
import Derived.Test.YtlmnkkodfnlbmaaSplitPlain
import Derived.Test.YtlmnkkodfnlbmaaCkPlain
import Derived.Maps.AppendAt
namespace Go.Proofs.Ytlmnkkodfnlbmaa
open Go.RowKit
theorem infoStr : (Try.prog.info? 9).map (fun i => (i.zero, i.size, i.bytes)) = some (some (.string ByteArray.empty), 1, 16) := by kernel_rfl
set_option maxRecDepth 100000 in
set_option maxHeartbeats 800000 in
theorem l1Split_any (s : ByteArray) (b : Int) (w : World) (hs : s.size ≤ 1048576) :
    Calls Try.prog 33 #[.string s, .int .u8 b] w fun e w' =>
      ∃ v, e = .returned v ∧ w'.ownsRow w.heap.size 9 1 v (sp b [] s.data.toList).length ((sp b [] s.data.toList).map encT) ∧ v ≠ .slice none 0 0 ∧ Below w.heap.size w w' := by
  obtain ⟨i0, hi, hz0, hz1, hz2⟩ := info_parts infoStr
  go_enter Try.func33, Try.ntmps33
  go_wp2
  have hrow0 : (w.alloc (.cells #[] 9)).ownsRow w.heap.size 9 1 (.slice (some ⟨w.heap.size, 0, none⟩) 0 0) 0 [] := World.ownsRow_lit w #[] 0 (Nat.le_refl _) (by decide) rfl
  go_loopw [5, 6, 7] (fun v x y wr => ∃ (k f : Nat) (parts : List (List UInt8)), k ≤ s.size ∧ f ≤ k ∧ x = .int .i64 f ∧ y = .int .i64 k ∧ SplitAt s b parts f k ∧ parts.length ≤ k ∧
    wr.ownsRow w.heap.size 9 1 v parts.length (parts.map encT) ∧ v ≠ .slice none 0 0 ∧ Below w.heap.size w wr) (fun _ _ y _ => s.size - (intOf y).toNat)
  case atStart => exact ⟨0, 0, [], Nat.zero_le _, Nat.le_refl _, rfl, rfl, splitAt_start s b, Nat.le_refl _, hrow0, by simp, (Below.refl _ _).alloc (Nat.le_refl _) _⟩
  case round =>
    obtain ⟨k, f, parts, hk, hf, rfl, rfl, hsp, hpl, hrow, hnn, hbl⟩ := hrel
    clear hrow0
    by_cases hlt : k < s.size
    · have hby := byte_lt s[k]
      by_cases hc : (s[k].toNat : Int) = b
      · have HS := Lib.hid (splitAt_sep hsp hlt hc)
        have hcb : ((s[k].toNat : Int) == b) = true := by simp [hc]
        clear hsp hc
        go_wp2_with (at_builtin; refine wpList_append_own _ rfl _ _ 26 rfl w.heap.size 9 i0 (.string ByteArray.empty) 1 16 Try.underlying26 hi hz0 hz1 hz2 rfl (by decide) _ _ _ rfl (hrow.alloc _) ⟨wr.heap.size, 0, none⟩ 1 1 [.string (s.extract f k)] rfl rfl (cell_one_new _ _ _) (fun x hx => by simp at hx; subst hx; rfl) (by unfold maxLen; omega) (by omega) (by have := hbl.size; simp; omega) ?_; intro v' w3 hown' hgrow3 hnil3)
        go_roundw
        case rel =>
          refine ⟨k + 1, k + 1, parts ++ [cutT s f k], by omega, Nat.le_refl _, by go_num, by go_num, HS.out, by simp; omega, ?_, fun h => by have := (hnil3.1 h).2; omega, (hbl.alloc hbl.size _).grown hgrow3 (by have := hbl.size; simp; omega) (fun q hq => (hrow.lt q hq).1)⟩
          rw [enc_cut] at hown'
          rw [List.map_append, List.length_append]
          exact hown'
        case measure => simp [intOf]; omega
      · have HS := Lib.hid (splitAt_on hsp hf hlt hc)
        have hcb : ((s[k].toNat : Int) == b) = false := by simp [hc]
        clear hsp hc
        go_wp2
        go_roundw
        case rel => exact ⟨k + 1, f, parts, by omega, by omega, rfl, by go_num, HS.out, by omega, hrow, hnn, hbl⟩
        case measure => simp [intOf]; omega
    · obtain rfl : k = s.size := by omega
      have HS := Lib.hid (splitAt_end hsp)
      clear hsp
      go_wp2_with (at_builtin; refine wpList_append_own _ rfl _ _ 26 rfl w.heap.size 9 i0 (.string ByteArray.empty) 1 16 Try.underlying26 hi hz0 hz1 hz2 rfl (by decide) _ _ _ rfl (hrow.alloc _) ⟨wr.heap.size, 0, none⟩ 1 1 [.string (s.extract f s.size)] rfl rfl (cell_one_new _ _ _) (fun x hx => by simp at hx; subst hx; rfl) (by unfold maxLen; omega) (by omega) (by have := hbl.size; simp; omega) ?_; intro v' w3 hown' hgrow3 hnil3)
      go_ret
      refine ⟨_, rfl, ?_, fun h => by have := (hnil3.1 h).2; omega, (hbl.alloc hbl.size _).grown hgrow3 (by have := hbl.size; simp; omega) (fun q hq => (hrow.lt q hq).1)⟩
      rw [enc_cut] at hown'
      rw [← HS.out, List.map_append, List.length_append]
      exact hown'
end Go.Proofs.Ytlmnkkodfnlbmaa
