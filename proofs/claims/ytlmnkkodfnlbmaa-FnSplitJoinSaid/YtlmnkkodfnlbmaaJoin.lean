/- The contracts of JoinStrings, the program's and the model's, and of the law's functions on a list of texts that came in. -/
import Derived.Test.YtlmnkkodfnlbmaaJoinPlain
import Derived.Test.YtlmnkkodfnlbmaaStands
import Derived.Test.YtlmnkkodfnlbmaaStrs
import Derived.Test.YtlmnkkodfnlbmaaShelf
import Derived.Test.YtlmnkkodfnlbmaaWorld
namespace Go.Proofs.Ytlmnkkodfnlbmaa
open Go.RowKit
/-- The texts xs in block g from off on. -/
def Texts (w : World) (g off : Nat) (xs : List ByteArray) : Prop := g < w.heap.size ∧ ∀ j, j < xs.length → w.cell? ⟨g, off + j, none⟩ = some (.string (xs.getD j ByteArray.empty))
theorem Texts.lo {w w' : World} {g off : Nat} {xs : List ByteArray} (h : Texts w g off xs) (l : Below w.heap.size w w') : Texts w' g off xs :=
  ⟨Nat.lt_of_lt_of_le h.1 l.size, fun j hj => by rw [l.cell (p := ⟨g, off + j, none⟩) h.1]; exact h.2 j hj⟩
theorem Texts.row {w : World} {g off : Nat} {xs : List ByteArray} (h : Texts w g off xs) (c : Nat) : StrRow w (.slice (some ⟨g, off, none⟩) xs.length c) xs := ⟨_, c, rfl, .inr ⟨g, off, rfl, h.1, h.2⟩⟩
theorem bad_sep_spec (a : Option Addr) (n c : Nat) (t : ByteArray) (h : ((t.size : Int) != 1) = true ∨ n = 0) (w : World) :
    Calls Try.prog 13 #[.slice a n c, .string t] w fun e w' => e = .returned (.tuple #[.string ⟨#[]⟩, .bool false]) ∧ w = w' := by
  by_cases h1 : ((t.size : Int) != 1) = true
  · clear h
    go_enter Try.func13, Try.ntmps13
    go_wp2
    go_ret2
    exact ⟨rfl, rfl⟩
  · obtain rfl := h.resolve_left h1
    have h2 : ((t.size : Int) != 1) = false := by simpa using h1
    clear h h1
    go_enter Try.func13, Try.ntmps13
    go_wp2
    go_ret2
    exact ⟨rfl, rfl⟩
theorem bad_sep_impl (a : Option Addr) (n c : Nat) (t : ByteArray) (h : ((t.size : Int) != 1) = true ∨ n = 0) (w : World) :
    Calls Try.prog 12 #[.slice a n c, .string t] w fun e w' => e = .returned (.tuple #[.string ⟨#[]⟩, .bool false]) ∧ w = w' := by
  by_cases h0 : n = 0
  · subst h0
    clear h
    go_enter Try.func12, Try.ntmps12
    go_wp2
    go_ret2
    exact ⟨rfl, rfl⟩
  · have h1 := h.resolve_right h0
    have h2 : ((n : Int) == 0) = false := by simp; omega
    clear h h0
    go_enter Try.func12, Try.ntmps12
    go_wp2
    go_ret2
    exact ⟨rfl, rfl⟩
/-- What JoinStrings ends in. -/
def joinEnd (xs : List ByteArray) (t : ByteArray) (ok : Bool) : Ending := .returned (.tuple #[.string (if ok then jB xs t xs.length else ⟨#[]⟩), .bool ok])
def JoinPost (xs : List ByteArray) (t : ByteArray) (b : Int) (w : World) (e : Ending) (w' : World) : Prop :=
  Below w.heap.size w w' ∧ ((Joins xs t b ∧ e = .returned (.tuple #[.string (jB xs t xs.length), .bool true])) ∨ (¬ Joins xs t b ∧ e = .returned (.tuple #[.string ⟨#[]⟩, .bool false])))
set_option maxRecDepth 100000 in
set_option maxHeartbeats 1600000 in
theorem specJoin_any (g off c : Nat) (xs : List ByteArray) (t : ByteArray) (w : World) (hx : Texts w g off xs) (hn : 0 < xs.length) (hn2 : xs.length ≤ 2000000) (h0 : 0 < t.size) (h1 : t.size ≤ 1)
    (hsz : ∀ k, k < xs.length → (xs.getD k ByteArray.empty).size ≤ 1048576) :
    Calls Try.prog 13 #[.slice (some ⟨g, off, none⟩) xs.length c, .string t] w (JoinPost xs t (t[0].toNat : Int) w) := by
  have ht2 : ((t.size : Int) != 1) = false := by simp; omega
  have hn3 : ((xs.length : Int) == 0) = false := by rw [beq_eq_false_iff_ne]; omega
  have HX := Lib.hid hx
  have HZ := Lib.hid hsz
  clear hx hsz
  go_enter Try.func13, Try.ntmps13
  go_wp2
  go_loopw [6, 7] (fun x y wr => ∃ k : Nat, k ≤ xs.length ∧ x = .string (jB xs t k) ∧ y = .int .i64 k ∧ (jB xs t k).size ≤ 4000 ∧ Hid (∀ j, j < k → has (t[0].toNat : Int) (xs.getD j ByteArray.empty).data.toList = false) ∧ Below w.heap.size w wr) (fun _ y _ => xs.length - (intOf y).toNat)
  case atStart => exact ⟨0, Nat.zero_le _, rfl, rfl, by rw [jB_zero]; decide, Lib.hid (fun j h => by omega), Below.refl _ _⟩
  case round =>
    obtain ⟨k, hk, rfl, rfl, hj, HF, hb⟩ := hrel
    by_cases hlt : k < xs.length
    · have hc : wr.cell? ⟨g, off + k, none⟩ = some (.string (xs.getD k ByteArray.empty)) := by rw [hb.cell (p := ⟨g, off + k, none⟩) HX.out.1]; exact HX.out.2 k hlt
      have hxs := HZ.out k hlt
      have hlt' : (k : Int) < (xs.length : Int) := by omega
      have hst : ∀ n, Calls Try.prog 32 #[.string (xs.getD k ByteArray.empty), .int .u8 (t[0].toNat : Int)] (wr.drewN n) fun e w' => e = .returned (.bool (has (t[0].toNat : Int) (xs.getD k ByteArray.empty).data.toList)) ∧ w' = wr.drewN n :=
        fun n => (l1Stands_any _ _ _ hxs).mono fun _ _ ⟨a, b⟩ => ⟨a, b.symm⟩
      have J0 := Lib.hid (fun h => jB_one xs t h)
      have J1 := Lib.hid (jB_succ xs t k hlt)
      cases hhas : has (t[0].toNat : Int) (xs.getD k ByteArray.empty).data.toList with
      | true =>
        rw [hhas] at hst
        have ST := Lib.hid hst
        have HN := Lib.hid (show ¬ Joins xs t (t[0].toNat : Int) from fun J => by rw [J.free k hlt] at hhas; cases hhas)
        clear hst hhas hj
        generalize xs.getD k ByteArray.empty = x at *
        go_wp2
        go_quiet ((go_at_call 32; exact Calls.quiet_of_same (ST.out _)))
        go_wp2
        go_ret2
        exact ⟨below_drewN hb _, .inr ⟨HN.out, rfl⟩⟩
      | false =>
        rw [hhas] at hst
        have ST := Lib.hid hst
        have HF2 := Lib.hid (show ∀ j, j < k + 1 → has (t[0].toNat : Int) (xs.getD j ByteArray.empty).data.toList = false from fun j hj2 => by
          by_cases e : j = k
          · subst e; exact hhas
          · exact HF.out j (by omega))
        have HB := Lib.hid (show 4000 < (jB xs t (k + 1)).size → ¬ Joins xs t (t[0].toNat : Int) from fun h J => by have := jB_size_le xs t (k + 1) (by omega); have := J.short; omega)
        clear hst hhas
        by_cases hpos : 0 < k
        · have hpos' : (0 : Int) < (k : Int) := by omega
          have hJ := J1.out hpos
          have hJs : (jB xs t (k + 1)).size = (jB xs t k).size + t.size + (xs.getD k ByteArray.empty).size := by rw [← hJ, ByteArray.size_append, ByteArray.size_append]
          have HJ := Lib.hid hJ
          have HJs := Lib.hid hJs
          clear hJ hJs J0 J1
          generalize xs.getD k ByteArray.empty = x at *
          by_cases hbig : 4000 < (jB xs t k).size + t.size + x.size
          · go_wp2
            go_quiet ((go_at_call 32; exact Calls.quiet_of_same (ST.out _)))
            go_wp2
            go_ret2
            exact ⟨below_drewN hb _, .inr ⟨HB.out (by rw [HJs.out]; omega), rfl⟩⟩
          · go_wp2
            go_quiet ((go_at_call 32; exact Calls.quiet_of_same (ST.out _)))
            go_wp2
            go_roundw
            case rel => exact ⟨k + 1, by omega, by rw [← HJ.out], by go_num, by rw [HJs.out]; omega, HF2, below_drewN hb _⟩
            case measure => simp [intOf]; omega
        · have hk0 : k ≤ 0 := by omega
          have hJ : jB xs t k ++ xs.getD k ByteArray.empty = jB xs t (k + 1) := by
            obtain rfl : k = 0 := by omega
            exact J0.out hlt
          have hz : (jB xs t k).size ≤ 0 := by
            obtain rfl : k = 0 := by omega
            rw [jB_zero]; decide
          have hJs : (jB xs t (k + 1)).size = (jB xs t k).size + (xs.getD k ByteArray.empty).size := by rw [← hJ, ByteArray.size_append]
          have HJ := Lib.hid hJ
          have HJs := Lib.hid hJs
          clear hJ hJs J0 J1 hj hpos
          generalize xs.getD k ByteArray.empty = x at *
          by_cases hbig : 4000 < (jB xs t k).size + x.size
          · go_wp2
            go_quiet ((go_at_call 32; exact Calls.quiet_of_same (ST.out _)))
            go_wp2
            go_ret2
            exact ⟨below_drewN hb _, .inr ⟨HB.out (by rw [HJs.out]; omega), rfl⟩⟩
          · go_wp2
            go_quiet ((go_at_call 32; exact Calls.quiet_of_same (ST.out _)))
            go_wp2
            go_roundw
            case rel => exact ⟨k + 1, by omega, by rw [← HJ.out], by go_num, by rw [HJs.out]; omega, HF2, below_drewN hb _⟩
            case measure => simp [intOf]; omega
    · obtain rfl : k = xs.length := by omega
      go_wp2
      go_ret2
      exact ⟨hb, .inl ⟨⟨hn, by omega, HF.out, hj⟩, rfl⟩⟩
theorem tot_all (xs : List ByteArray) (t : ByteArray) (ht : t.size = 1) (hn : 0 < xs.length) : (jB xs t xs.length).size + 1 = tot xs xs.length + xs.length := jB_size xs t ht xs.length (Nat.le_refl _) hn
set_option maxRecDepth 100000 in
set_option maxHeartbeats 1600000 in
theorem implJoin_any (g off c : Nat) (xs : List ByteArray) (t : ByteArray) (w : World) (hx : Texts w g off xs) (hn : 0 < xs.length) (hn2 : xs.length ≤ 2000000) (hcap : xs.length ≤ c) (h0 : 0 < t.size) (h1 : t.size ≤ 1)
    (hsz : ∀ k, k < xs.length → (xs.getD k ByteArray.empty).size ≤ 1048576) (hm : Len w) :
    Calls Try.prog 12 #[.slice (some ⟨g, off, none⟩) xs.length c, .string t] w (JoinPost xs t (t[0].toNat : Int) w) := by
  have ht2 : ((t.size : Int) != 1) = false := by simp; omega
  have hn3 : ((xs.length : Int) == 0) = false := by rw [beq_eq_false_iff_ne]; omega
  have HX := Lib.hid hx
  have HZ := Lib.hid hsz
  have HL := Lib.hid (one_list t h0 h1)
  have HT := Lib.hid (tot_all xs t (by omega) hn)
  obtain ⟨m, hm⟩ := hm
  have HM := Lib.hid hm
  clear hx hsz hm
  go_enter Try.func12, Try.ntmps12
  go_wp2
  go_loopw [6, 22] (fun x y wr => ∃ k z : Nat, k ≤ xs.length ∧ x = .int .i64 z ∧ y = .int .i64 k ∧ Hid (z + 1 = xs.length + tot xs k) ∧ z ≤ 3000000 ∧ (0 < k → z ≤ 4000) ∧ Hid (∀ j, j < k → has (t[0].toNat : Int) (xs.getD j ByteArray.empty).data.toList = false) ∧ wr = w) (fun _ y _ => xs.length - (intOf y).toNat)
  case atStart => exact ⟨0, xs.length - 1, Nat.zero_le _, by congr 1; omega, rfl, Lib.hid (by simp only [tot]; omega), by omega, by omega, Lib.hid (fun j h => by omega), rfl⟩
  case round =>
    obtain ⟨k, z, hk, rfl, rfl, HZK, hz, hz4, HF, rfl⟩ := hrel
    by_cases hlt : k < xs.length
    · have hc := HX.out.2 k hlt
      have hxs := HZ.out k hlt
      have hlt' : (k : Int) < (xs.length : Int) := by omega
      have CT := Try.strings_Contains (xs.getD k ByteArray.empty) t m wr (by omega) HM.out
      rw [HL.out, contains_one] at CT
      have HZ1 := Lib.hid (show z + (xs.getD k ByteArray.empty).size + 1 = xs.length + tot xs (k + 1) by have := HZK.out; rw [tot]; omega)
      have HB := Lib.hid (show 4000 < z + (xs.getD k ByteArray.empty).size → ¬ Joins xs t (t[0].toNat : Int) from fun h J => by
        have a := J.short
        have b := HT.out
        have c := HZ1.out
        have d := tot_le xs (k + 1) (xs.length - (k + 1))
        rw [show k + 1 + (xs.length - (k + 1)) = xs.length by omega] at d
        omega)
      by_cases hbig : 4000 < z + (xs.getD k ByteArray.empty).size
      · have HB2 := Lib.hid (HB.out hbig)
        clear CT hz4 HB HZ1
        generalize xs.getD k ByteArray.empty = x at *
        go_wp2
        go_ret2
        exact ⟨Below.refl _ _, .inr ⟨HB2.out, rfl⟩⟩
      · cases hhas : has (t[0].toNat : Int) (xs.getD k ByteArray.empty).data.toList with
        | true =>
          rw [hhas] at CT
          have ST := Lib.hid CT
          have HN := Lib.hid (show ¬ Joins xs t (t[0].toNat : Int) from fun J => by rw [J.free k hlt] at hhas; cases hhas)
          clear CT hhas hz4 HB HZ1
          generalize xs.getD k ByteArray.empty = x at *
          go_wp2_with fail
          refine ST.out.mono ?_
          rintro e w1 ⟨rfl, rfl⟩
          go_wp2
          go_ret2
          exact ⟨Below.refl _ _, .inr ⟨HN.out, rfl⟩⟩
        | false =>
          rw [hhas] at CT
          have ST := Lib.hid CT
          have HF2 := Lib.hid (show ∀ j, j < k + 1 → has (t[0].toNat : Int) (xs.getD j ByteArray.empty).data.toList = false from fun j hj2 => by
            by_cases e : j = k
            · subst e; exact hhas
            · exact HF.out j (by omega))
          clear CT hhas hz4 HB
          generalize xs.getD k ByteArray.empty = x at *
          go_wp2_with fail
          refine ST.out.mono ?_
          rintro e w1 ⟨rfl, rfl⟩
          go_wp2
          go_roundw
          case rel => exact ⟨k + 1, z + x.size, by omega, by go_num, by go_num, HZ1, by omega, fun _ => by omega, HF2, trivial⟩
          case measure => simp [intOf]; omega
    · obtain rfl : k = xs.length := by omega
      have hshort : (jB xs t xs.length).size ≤ 4000 := by have := HT.out; have := HZK.out; have := hz4 hn; omega
      have JN := Lib.hid (Try.strings_Join g off c xs t wr (fun j x hj => by
        have hjl : j < xs.length := by
          rcases Nat.lt_or_ge j xs.length with h | h
          · exact h
          · rw [List.getElem?_eq_none h] at hj; cases hj
        have := HX.out.2 j hjl
        rw [this]
        simp [List.getD, hj]) HX.out.1 (by omega) hcap (by
          have e : (Lib.join (xs.map (·.data.toList)) t.data.toList).length = (jB xs t xs.length).size := by
            unfold jB jL
            rw [List.take_of_length_le (Nat.le_refl _)]
            rfl
          rw [e]; omega))
      have hjb : (⟨(Lib.join (xs.map (·.data.toList)) t.data.toList).toArray⟩ : ByteArray) = jB xs t xs.length := by
        unfold jB jL
        rw [List.take_of_length_le (Nat.le_refl _)]
      rw [hjb] at JN
      clear hjb hz4
      go_wp2_with fail
      refine JN.out.mono ?_
      rintro e w1 ⟨rfl, l1⟩
      go_wp2
      go_ret2
      exact ⟨l1, .inl ⟨⟨hn, by omega, HF.out, hshort⟩, rfl⟩⟩
end Go.Proofs.Ytlmnkkodfnlbmaa
