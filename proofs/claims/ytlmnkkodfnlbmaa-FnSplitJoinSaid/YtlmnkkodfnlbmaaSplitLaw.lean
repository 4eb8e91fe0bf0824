/- The walk of the law on SplitString. -/
import Derived.Test.YtlmnkkodfnlbmaaStrs2
import Derived.Test.YtlmnkkodfnlbmaaIter
namespace Go.Proofs.Ytlmnkkodfnlbmaa
open Go.RowKit
theorem implSplit_yes (s t : ByteArray) (hs : s.size ≤ 4000) (ht3 : 0 < t.size) (ht1 : t.size ≤ 1) (w : World) :
    Calls Try.prog 10 #[.string s, .string t] w fun e W' => ∃ v, e = .returned (.tuple #[v, .bool true]) ∧
      W'.ownsRow w.heap.size 9 1 v (spB (t[0].toNat : Int) s).length ((spB (t[0].toNat : Int) s).map Value.string) ∧ (v = .slice none 0 0 ↔ spB (t[0].toNat : Int) s = []) ∧ Below w.heap.size w W' :=
  (callsIn_wide (n := 3)).1 (implSplit_in Fence.wide 3 trivial trivial trivial rfl (by omega) s t hs ht3 ht1 w)
theorem implSplit_no (s t : ByteArray) (h : 4000 < s.size ∨ ((t.size : Int) != 1) = true) (w : World) :
    Calls Try.prog 10 #[.string s, .string t] w fun e w' => e = .returned (.tuple #[.slice none 0 0, .bool false]) ∧ w = w' := by
  by_cases h1 : 4000 < s.size
  · clear h
    go_enter Try.func10, Try.ntmps10
    go_wp2
    refine bodyPost_ret (results_tmp2 rfl _ _ _) rfl ⟨rfl, rfl⟩
  · have h2 := h.resolve_left h1
    clear h
    go_enter Try.func10, Try.ntmps10
    go_wp2
    refine bodyPost_ret (results_tmp2 rfl _ _ _) rfl ⟨rfl, rfl⟩
theorem specSplit_yes (s t : ByteArray) (hs : s.size ≤ 4000) (ht3 : 0 < t.size) (ht1 : t.size ≤ 1) (w : World) :
    Calls Try.prog 17 #[.string s, .string t] w fun e W' => ∃ v, e = .returned (.tuple #[v, .bool true]) ∧
      W'.ownsRow w.heap.size 9 1 v (spB (t[0].toNat : Int) s).length ((spB (t[0].toNat : Int) s).map Value.string) ∧ v ≠ .slice none 0 0 ∧ Below w.heap.size w W' := by
  have ht2 : ((t.size : Int) != 1) = false := by simp; omega
  have SP := Lib.hid (l1Split_any s (t[0].toNat : Int) w (by omega))
  go_enter Try.func17, Try.ntmps17
  go_wp2_with fail
  refine SP.out.mono ?_
  rintro e w1 ⟨v, rfl, ho, hv, hb⟩
  have e1 : (sp (t[0].toNat : Int) [] s.data.toList).length = (spB (t[0].toNat : Int) s).length := by unfold spB; simp
  have e2 : (sp (t[0].toNat : Int) [] s.data.toList).map encT = (spB (t[0].toNat : Int) s).map Value.string := by unfold spB; rw [List.map_map]; rfl
  rw [e1, e2] at ho
  have HO := Lib.hid ho
  have HV := Lib.hid hv
  clear ho hv e1 e2 SP
  go_wp2
  refine bodyPost_ret (results_tmp2 rfl _ _ _) rfl ⟨v, rfl, HO.out, HV.out, hb⟩
theorem specSplit_no (s t : ByteArray) (h : 4000 < s.size ∨ ((t.size : Int) != 1) = true) (w : World) :
    Calls Try.prog 17 #[.string s, .string t] w fun e w' => e = .returned (.tuple #[.slice (some ⟨w.heap.size, 0, none⟩) 0 0, .bool false]) ∧ Below w.heap.size w w' := by
  by_cases h1 : ((t.size : Int) != 1) = true
  · clear h
    go_enter Try.func17, Try.ntmps17
    go_wp2
    refine bodyPost_ret (results_tmp2 rfl _ _ _) rfl ⟨rfl, (Below.refl _ _).alloc (Nat.le_refl _) _⟩
  · have h2 := h.resolve_right h1
    have h3 : ((t.size : Int) != 1) = false := by simpa using h1
    clear h h1
    go_enter Try.func17, Try.ntmps17
    go_wp2
    refine bodyPost_ret (results_tmp2 rfl _ _ _) rfl ⟨rfl, (Below.refl _ _).alloc (Nat.le_refl _) _⟩
end Go.Proofs.Ytlmnkkodfnlbmaa
