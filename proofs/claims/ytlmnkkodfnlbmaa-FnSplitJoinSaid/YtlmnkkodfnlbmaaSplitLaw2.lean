/- The walk of the law on SplitString, from the contracts. -/
import Derived.Test.YtlmnkkodfnlbmaaSplitLaw
namespace Go.Proofs.Ytlmnkkodfnlbmaa
open Go.RowKit
/-- The texts xs lie in block g, which the call from w on has made. -/
structure OwnAt (w w' : World) (xs : List ByteArray) (g : Nat) : Prop where
  new : w.heap.size ≤ g
  lt : g < w'.heap.size
  cell : ∀ j, j < xs.length → w'.cell? ⟨g, j, none⟩ = some (.string (xs.getD j ByteArray.empty))
  free : ∀ j, w'.frozen? ⟨g, j, none⟩ = false
theorem own_at {w w' : World} {v : Value} {xs : List ByteArray} (h : w'.ownsRow w.heap.size 9 1 v xs.length (xs.map Value.string)) (hv : v ≠ .slice none 0 0) :
    ∃ g c, v = .slice (some ⟨g, 0, none⟩) xs.length c ∧ OwnAt w w' xs g := by
  rcases h.2 with ⟨rfl, _⟩ | ⟨g, cap, cur, rfl, hg, hb, _⟩
  · exact absurd rfl hv
  · refine ⟨g, cap, rfl, hg, (Array.getElem?_eq_some_iff.1 hb).1, fun j hj => ?_, fun j => h.frozenAt j⟩
    rw [h.cellAt j (by omega), List.getElem?_map, List.getElem?_eq_getElem hj]
    simp [List.getD, List.getElem?_eq_getElem hj]
theorem OwnAt.row {w w' : World} {xs : List ByteArray} {g : Nat} (h : OwnAt w w' xs g) (c : Nat) : StrRow w' (.slice (some ⟨g, 0, none⟩) xs.length c) xs :=
  ⟨_, c, rfl, .inr ⟨g, 0, rfl, h.lt, fun j hj => by rw [Nat.zero_add]; exact h.cell j hj⟩⟩
theorem OwnAt.on {w w' w'' : World} {xs : List ByteArray} {g : Nat} (h : OwnAt w w' xs g) (l : Below w'.heap.size w' w'') : OwnAt w w'' xs g :=
  ⟨h.new, Nat.lt_of_lt_of_le h.lt l.size, fun j hj => by rw [l.cell (p := ⟨g, j, none⟩) h.lt]; exact h.cell j hj, fun j => by rw [l.frozen (p := ⟨g, j, none⟩) h.lt]; exact h.free j⟩
theorem OwnAt.only {w w' w'' : World} {xs : List ByteArray} {g C : Nat} (h : OwnAt w w' xs g) (l : Only C w' w'') (hC : g ≠ C) : OwnAt w w'' xs g :=
  ⟨h.new, Nat.lt_of_lt_of_le h.lt l.size, fun j hj => by rw [l.cell (p := ⟨g, j, none⟩) hC h.lt]; exact h.cell j hj, fun j => by rw [World.frozen?_of_block (l.block g hC h.lt)]; exact h.free j⟩
theorem specSplit_own (s t : ByteArray) (hs : s.size ≤ 4000) (ht3 : 0 < t.size) (ht1 : t.size ≤ 1) (w : World) :
    Calls Try.prog 17 #[.string s, .string t] w fun e w' => ∃ g c, e = .returned (.tuple #[.slice (some ⟨g, 0, none⟩) (spB (t[0].toNat : Int) s).length c, .bool true]) ∧ OwnAt w w' (spB (t[0].toNat : Int) s) g ∧ Below w.heap.size w w' :=
  (specSplit_yes s t hs ht3 ht1 w).mono fun e w' ⟨v, he, ho, hv, hb⟩ => by
    obtain ⟨g, c, hv2, h⟩ := own_at ho hv
    exact ⟨g, c, by rw [he, hv2], h, hb⟩
theorem implSplit_own (s t : ByteArray) (hs : s.size ≤ 4000) (ht3 : 0 < t.size) (ht1 : t.size ≤ 1) (w : World) :
    Calls Try.prog 10 #[.string s, .string t] w fun e w' => ∃ g c, e = .returned (.tuple #[.slice (some ⟨g, 0, none⟩) (spB (t[0].toNat : Int) s).length c, .bool true]) ∧ OwnAt w w' (spB (t[0].toNat : Int) s) g ∧ Below w.heap.size w w' :=
  (implSplit_yes s t hs ht3 ht1 w).mono fun e w' ⟨v, he, ho, hv, hb⟩ => by
    have hne : spB (t[0].toNat : Int) s ≠ [] := by unfold spB; simp [sp_ne]
    obtain ⟨g, c, hv2, h⟩ := own_at ho (fun x => hne (hv.1 x))
    exact ⟨g, c, by rw [he, hv2], h, hb⟩
theorem lo_tr {a b c : World} (h : Below a.heap.size a b) (k : Below b.heap.size b c) : Below a.heap.size a c := h.trans (k.mono h.size)
set_option maxRecDepth 100000 in
set_option maxHeartbeats 1600000 in
theorem exSplit_yes (s t : ByteArray) (hs : s.size ≤ 4000) (ht3 : 0 < t.size) (ht1 : t.size ≤ 1) (w : World) :
    Calls Try.prog 4 #[.string s, .string t] w fun e w' => e = .returned (.bool true) ∧ Below w.heap.size w w' := by
  have hn := spB_len (t[0].toNat : Int) s hs
  have SP := Lib.hid (specSplit_own s t hs ht3 ht1)
  have IM := Lib.hid (implSplit_own s t hs ht3 ht1)
  generalize spB (t[0].toNat : Int) s = xs at hn SP IM
  go_enter Try.func4, Try.ntmps4
  go_wp2_with fail
  refine (SP.out w).mono ?_
  rintro e w1 ⟨g1, c1, rfl, o1, l1⟩
  go_wp2_with fail
  refine (IM.out w1).mono ?_
  rintro e w2 ⟨g2, c2, rfl, o2, l2⟩
  have hg : g1 ≠ g2 := by have := o1.lt; have := o2.new; omega
  have o1b := o1.on l2
  go_wp2_with fail
  refine (eqS_same _ _ xs w2 (o2.row c2) (o1b.row c1) (by omega)).mono ?_
  rintro e w3 ⟨rfl, l3⟩
  have o1c := o1b.on l3
  have o2c := o2.on l3
  go_wp2_with fail
  refine (mark_any g2 xs.length c2 1 w3 o2c.lt (by omega) (by omega) (by omega) (fun j hj => ⟨_, o2c.cell j hj⟩) (fun j _ => o2c.free j)).mono ?_
  rintro e w4 ⟨rfl, l4, mk⟩
  have MK := Lib.hid mk
  clear mk
  have o1d := o1c.only l4 hg
  have hg4 : g2 < w4.heap.size := Nat.lt_of_lt_of_le o2c.lt l4.size
  go_wp2_with fail
  refine (held_any g2 xs.length c2 1 w4 hg4 (by omega) (by omega) (by omega) MK.out).mono ?_
  rintro e w5 ⟨rfl, l5⟩
  have o1e := o1d.on l5
  have hg5 : g2 < w5.heap.size := Nat.lt_of_lt_of_le hg4 l5.size
  go_wp2_with fail
  refine (IM.out w5).mono ?_
  rintro e w6 ⟨g3, c3, rfl, o3, l6⟩
  have o1f := o1e.on l6
  go_wp2_with fail
  refine (eqS_same _ _ xs w6 (o3.row c3) (o1f.row c1) (by omega)).mono ?_
  rintro e w7 ⟨rfl, l7⟩
  have hg6 : g2 < w6.heap.size := Nat.lt_of_lt_of_le hg5 l6.size
  have hg7 : g2 < w7.heap.size := Nat.lt_of_lt_of_le hg6 l7.size
  have MK7 := Lib.hid (fun j (hj : j < xs.length) => show w7.cell? ⟨g2, j, none⟩ = some (.string (markB (1 + j))) by
    rw [l7.cell (p := ⟨g2, j, none⟩) hg6, l6.cell (p := ⟨g2, j, none⟩) hg5, l5.cell (p := ⟨g2, j, none⟩) hg4]; exact MK.out j hj)
  go_wp2_with fail
  refine (held_any g2 xs.length c2 1 w7 hg7 (by omega) (by omega) (by omega) MK7.out).mono ?_
  rintro e w8 ⟨rfl, l8⟩
  have L3 : Below w.heap.size w w3 := lo_tr (lo_tr l1 l2) l3
  have L4 : Below w.heap.size w w4 := L3.trans ((l4.below (Nat.le_of_lt o2c.lt)).mono (Nat.le_trans l1.size o2.new))
  go_wp2
  go_ret
  exact ⟨rfl, lo_tr (lo_tr (lo_tr (lo_tr L4 l5) l6) l7) l8⟩
theorem row_nil (w : World) (a : Option Addr) (c : Nat) : StrRow w (.slice a 0 c) [] := ⟨a, c, rfl, .inl rfl⟩
set_option maxRecDepth 100000 in
set_option maxHeartbeats 1600000 in
theorem exSplit_no (s t : ByteArray) (h : 4000 < s.size ∨ ((t.size : Int) != 1) = true) (k1 : s.size ≤ 1048576) (k2 : t.size ≤ 1048576) (w : World) :
    Calls Try.prog 4 #[.string s, .string t] w fun e w' => e = .returned (.bool true) ∧ Below w.heap.size w w' := by
  have SP := Lib.hid (specSplit_no s t h)
  have IM := Lib.hid (implSplit_no s t h)
  clear h
  go_enter Try.func4, Try.ntmps4
  go_wp2_with fail
  refine (SP.out w).mono ?_
  rintro e w1 ⟨rfl, l1⟩
  go_wp2_with fail
  refine (IM.out w1).mono ?_
  rintro e w2 ⟨rfl, rfl⟩
  go_wp2_with fail
  refine (eqS_same _ _ [] w1 (row_nil _ _ _) (row_nil _ _ _) (by simp)).mono ?_
  rintro e w3 ⟨rfl, l3⟩
  go_wp2_with fail
  refine (mark_nil _ _ 1 w3).mono ?_
  rintro e w4 ⟨rfl, rfl⟩
  go_wp2_with fail
  refine (held_nil _ _ 1 w3).mono ?_
  rintro e w4 ⟨rfl, rfl⟩
  go_wp2_with fail
  refine (IM.out w3).mono ?_
  rintro e w4 ⟨rfl, rfl⟩
  go_wp2_with fail
  refine (eqS_same _ _ [] w3 (row_nil _ _ _) (row_nil _ _ _) (by simp)).mono ?_
  rintro e w5 ⟨rfl, l5⟩
  go_wp2_with fail
  refine (held_nil _ _ 1 w5).mono ?_
  rintro e w6 ⟨rfl, rfl⟩
  go_wp2
  go_ret
  exact ⟨rfl, lo_tr (lo_tr l1 l3) l5⟩
theorem exSplit_walk (s t : ByteArray) (w : World) (w0 : s.size ≤ maxLen) (w1 : t.size ≤ maxLen) :
    Calls Try.prog 4 #[.string s, .string t] w fun e w' => e = .returned (.bool true) ∧ Below w.heap.size w w' := by
  unfold maxLen at w0 w1
  by_cases g0 : 1048576 < s.size
  · go_enter Try.func4, Try.ntmps4
    go_wp2
    go_ret
    exact ⟨rfl, Below.refl _ _⟩
  · by_cases g1 : 1048576 < t.size
    · go_enter Try.func4, Try.ntmps4
      go_wp2
      go_ret
      exact ⟨rfl, Below.refl _ _⟩
    · by_cases h : 4000 < s.size ∨ ((t.size : Int) != 1) = true
      · exact exSplit_no s t h (by omega) (by omega) w
      · have h1 : ¬ 4000 < s.size := fun x => h (.inl x)
        have h2 : t.size = 1 := by
          have : ¬ ((t.size : Int) != 1) = true := fun x => h (.inr x)
          simp at this; omega
        exact exSplit_yes s t (by omega) (by omega) (by omega) w
end Go.Proofs.Ytlmnkkodfnlbmaa
