/- The contracts of VerifyChecksum, and the walks of the laws on both. -/
import Derived.Test.YtlmnkkodfnlbmaaDoorSeal
namespace Go.Proofs.YtlmnkkodfnlbmaaDoor
open Go.RowKit
theorem preB_le (s : ByteArray) (hs : s.size ≤ 1048576) : (preB s).size ≤ 1048576 := by have := pre_size s; omega
/-- What a call of l1Split hands back: its first part lies in its first cell. -/
theorem split_head {w w' : World} {v : Value} {s : ByteArray} (h : w'.ownsRow w.heap.size 9 1 v (sp 35 [] s.data.toList).length ((sp 35 [] s.data.toList).map encT)) (hv : v ≠ .slice none 0 0) :
    ∃ g n cap, v = .slice (some ⟨g, 0, none⟩) n cap ∧ 0 < n ∧ n ≤ cap ∧ w'.cell? ⟨g, 0, none⟩ = some (.string (preB s)) := by
  rcases h.2 with ⟨h1, _⟩ | ⟨g, cap, cur, rfl, _, _, hn, _⟩
  · exact absurd h1 hv
  · have hpos : 0 < (sp 35 [] s.data.toList).length := List.length_pos_iff.2 (sp_ne _ _ _)
    refine ⟨g, _, cap, rfl, hpos, hn, ?_⟩
    have hc := h.cellAt 0 (by omega)
    rw [hc]
    have hh := sp_head 35 s.data.toList []
    rw [List.head?_eq_getElem?] at hh
    rw [List.getElem?_map, hh]
    rfl
theorem specVer_yes (s : ByteArray) (w : World) (h : ¬ Unsealed s) :
    Calls Tryd.prog 20 #[.string s] w fun e w' => e = .returned (.tuple #[.string (preB s), .bool true]) ∧ Lo w w' := by
  have h1 : s.size ≤ 4000 := by unfold Unsealed at h; omega
  obtain ⟨_, h2⟩ := sealed_seals h
  have hp := preB_le s (by omega)
  clear h
  go_enter Tryd.func20, Tryd.ntmps20
  go_wp2_with fail
  refine (l1Split_any s 35 _ (by omega)).mono ?_
  rintro e w1 ⟨v, rfl, ho, hv, l1⟩
  obtain ⟨g, n, cap, rfl, hn, hnc, hc⟩ := split_head ho hv
  clear ho hv
  have hn' : (0 : Int) < (n : Int) := by omega
  go_wp2_with fail
  refine (l1Seal_any _ _ hp).mono ?_
  rintro e w2 ⟨rfl, l2⟩
  go_wp2
  go_ret2
  exact ⟨rfl, lo_trans l1 l2⟩
theorem specVer_no (s : ByteArray) (w : World) (hs : s.size ≤ 1048576) (h : Unsealed s) :
    Calls Tryd.prog 20 #[.string s] w fun e w' => e = .returned (.tuple #[.string ⟨#[]⟩, .bool false]) ∧ Lo w w' := by
  by_cases h1 : 4000 < s.size
  · clear h
    go_enter Tryd.func20, Tryd.ntmps20
    go_wp2
    go_ret2
    exact ⟨rfl, Below.refl _ _⟩
  · have h2 : ((sealB (preB s)).toList == s.toList) = false := h.resolve_left h1
    have hp := preB_le s (by omega)
    clear h
    go_enter Tryd.func20, Tryd.ntmps20
    go_wp2_with fail
    refine (l1Split_any s 35 _ (by omega)).mono ?_
    rintro e w1 ⟨v, rfl, ho, hv, l1⟩
    obtain ⟨g, n, cap, rfl, hn, hnc, hc⟩ := split_head ho hv
    clear ho hv
    have hn' : (0 : Int) < (n : Int) := by omega
    go_wp2_with fail
    refine (l1Seal_any _ _ hp).mono ?_
    rintro e w2 ⟨rfl, l2⟩
    go_wp2
    go_ret2
    exact ⟨rfl, lo_trans l1 l2⟩
theorem implCut (s : ByteArray) (w : World) (hs : s.size ≤ 1048576) (hm : Len w) : Calls Tryd.prog 34 #[.string s, .string ⟨#[35]⟩] w fun e w' =>
    ∃ a b, e = .returned (.tuple #[.string (preB s), .string a, .bool b]) ∧ Lo w w' := by
  obtain ⟨m, hm⟩ := hm
  refine (Tryd.strings_Cut s ⟨#[35]⟩ m w (by omega) hm).mono ?_
  rintro e w' ⟨rfl, n, rfl⟩
  rw [show (⟨#[35]⟩ : ByteArray).data.toList = [35] from rfl, cut_pre]
  exact ⟨_, _, rfl, lo_drew _ _⟩
theorem implVer_yes (s : ByteArray) (w : World) (h : ¬ Unsealed s) (ht : Tab w) (hm : Len w) :
    Calls Tryd.prog 18 #[.string s] w fun e w' => e = .returned (.tuple #[.string (preB s), .bool true]) ∧ Lo w w' := by
  have h1 : s.size ≤ 4000 := by unfold Unsealed at h; omega
  obtain ⟨h3, h2⟩ := sealed_seals h
  have H3 := Lib.hid h3
  clear h h3
  go_enter Tryd.func18, Tryd.ntmps18
  go_wp2_with fail
  refine (implCut s _ (by omega) hm).mono ?_
  rintro e w1 ⟨a, b, rfl, l1⟩
  go_wp2_with fail
  refine (implSeal_yes _ _ H3.out (ht.lo l1) (hm.lo l1)).mono ?_
  rintro e w2 ⟨rfl, l2⟩
  go_wp2
  go_ret2
  exact ⟨rfl, lo_trans l1 l2⟩
theorem implVer_no (s : ByteArray) (w : World) (hs : s.size ≤ 1048576) (h : Unsealed s) (ht : Tab w) (hm : Len w) :
    Calls Tryd.prog 18 #[.string s] w fun e w' => e = .returned (.tuple #[.string ⟨#[]⟩, .bool false]) ∧ Lo w w' := by
  have h3 := unsealed_or h
  have hp := preB_le s hs
  by_cases hu : Unseal (preB s)
  · have HU := Lib.hid hu
    clear h h3 hu
    go_enter Tryd.func18, Tryd.ntmps18
    go_wp2_with fail
    refine (implCut s _ (by omega) hm).mono ?_
    rintro e w1 ⟨a, b, rfl, l1⟩
    go_wp2_with fail
    refine (implSeal_no _ _ hp HU.out (ht.lo l1) (hm.lo l1)).mono ?_
    rintro e w2 ⟨rfl, l2⟩
    go_wp2
    go_ret2
    exact ⟨rfl, lo_trans l1 l2⟩
  · have h2 : ((sealB (preB s)).toList == s.toList) = false := h3.resolve_left hu
    have HU := Lib.hid hu
    clear h h3 hu
    go_enter Tryd.func18, Tryd.ntmps18
    go_wp2_with fail
    refine (implCut s _ (by omega) hm).mono ?_
    rintro e w1 ⟨a, b, rfl, l1⟩
    go_wp2_with fail
    refine (implSeal_yes _ _ HU.out (ht.lo l1) (hm.lo l1)).mono ?_
    rintro e w2 ⟨rfl, l2⟩
    go_wp2
    go_ret2
    exact ⟨rfl, lo_trans l1 l2⟩
theorem exApp_walk (s : ByteArray) (w : World) (w0 : s.size ≤ maxLen) (ht : Tab w) (hm : Len w) : Calls Tryd.prog 6 #[.string s] w fun e w' => e = .returned (.bool true) ∧ Lo w w' := by
  unfold maxLen at w0
  by_cases h : 1048576 < s.size
  · go_enter Tryd.func6, Tryd.ntmps6
    go_wp2
    go_ret
    exact ⟨rfl, Below.refl _ _⟩
  · by_cases hu : Unseal s
    · have HU := Lib.hid hu
      clear hu
      go_enter Tryd.func6, Tryd.ntmps6
      go_wp2_with fail
      refine (specSeal_no s _ (by omega) HU.out).mono ?_
      rintro e w1 ⟨rfl, l1⟩
      go_wp2_with fail
      refine (implSeal_no s _ (by omega) HU.out (ht.lo l1) (hm.lo l1)).mono ?_
      rintro e w2 ⟨rfl, l2⟩
      go_wp2
      go_ret
      exact ⟨rfl, lo_trans l1 l2⟩
    · have HU := Lib.hid hu
      clear hu
      go_enter Tryd.func6, Tryd.ntmps6
      go_wp2_with fail
      refine (specSeal_yes s _ HU.out).mono ?_
      rintro e w1 ⟨rfl, l1⟩
      go_wp2_with fail
      refine (implSeal_yes s _ HU.out (ht.lo l1) (hm.lo l1)).mono ?_
      rintro e w2 ⟨rfl, l2⟩
      go_wp2
      go_ret
      exact ⟨rfl, lo_trans l1 l2⟩
theorem exVer_walk (s : ByteArray) (w : World) (w0 : s.size ≤ maxLen) (ht : Tab w) (hm : Len w) : Calls Tryd.prog 7 #[.string s] w fun e w' => e = .returned (.bool true) ∧ Lo w w' := by
  unfold maxLen at w0
  by_cases h : 1048576 < s.size
  · go_enter Tryd.func7, Tryd.ntmps7
    go_wp2
    go_ret
    exact ⟨rfl, Below.refl _ _⟩
  · by_cases hu : Unsealed s
    · have HU := Lib.hid hu
      clear hu
      go_enter Tryd.func7, Tryd.ntmps7
      go_wp2_with fail
      refine (specVer_no s _ (by omega) HU.out).mono ?_
      rintro e w1 ⟨rfl, l1⟩
      go_wp2_with fail
      refine (implVer_no s _ (by omega) HU.out (ht.lo l1) (hm.lo l1)).mono ?_
      rintro e w2 ⟨rfl, l2⟩
      go_wp2
      go_ret
      exact ⟨rfl, lo_trans l1 l2⟩
    · have HU := Lib.hid hu
      clear hu
      go_enter Tryd.func7, Tryd.ntmps7
      go_wp2_with fail
      refine (specVer_yes s _ HU.out).mono ?_
      rintro e w1 ⟨rfl, l1⟩
      go_wp2_with fail
      refine (implVer_yes s _ HU.out (ht.lo l1) (hm.lo l1)).mono ?_
      rintro e w2 ⟨rfl, l2⟩
      go_wp2
      go_ret
      exact ⟨rfl, lo_trans l1 l2⟩
end Go.Proofs.YtlmnkkodfnlbmaaDoor
