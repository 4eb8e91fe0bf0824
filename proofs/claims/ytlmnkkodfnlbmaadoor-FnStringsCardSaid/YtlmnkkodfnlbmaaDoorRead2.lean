/- The contract of the model's ParseInt. -/
import Derived.Test.YtlmnkkodfnlbmaaDoorRead
import Derived.Lib.Strings
namespace Go.Proofs.YtlmnkkodfnlbmaaDoor
open Go.RowKit
theorem tOf_dash (l : List UInt8) (h : 1 < l.length) (h0 : (l[0]'(by omega)).toNat = 45) : tOf l = l.drop 1 := by
  match l, h, h0 with
  | c :: d :: r, _, h0 =>
    have h0' : c.toNat = 45 := h0
    simp [tOf, h0']
theorem tail_data (s : ByteArray) (h : 1 < s.size) (h0 : s[0].toNat = 45) : (s.extract 1 s.size).data.toList = tOf s.data.toList := by
  rw [Lib.extract_data, tOf_dash _ (by simpa using h) h0]
  exact List.take_of_length_le (by simp)
theorem same_data (s : ByteArray) (h : ¬ (1 < s.size ∧ ∀ h : 0 < s.size, s[0].toNat = 45)) : s.data.toList = tOf s.data.toList := by
  obtain ⟨⟨l⟩⟩ := s
  match l, h with
  | [], _ => rfl
  | [c], _ => rfl
  | c :: d :: r, h =>
    have hc : ¬ c.toNat = 45 := fun x => h ⟨by show 1 < (c :: d :: r).length; simp, fun _ => x⟩
    simp [tOf, hc]
def ReadAt (t : ByteArray) (k : Nat) (v : Int) : Prop := valF 0 (t.data.toList.take k) = v ∧ Dig (t.data.toList.take k)
theorem readAt_zero (t : ByteArray) : ReadAt t 0 0 := ⟨rfl, Dig.nil⟩
theorem readAt_bd {t : ByteArray} {k : Nat} {v : Int} (h : ReadAt t k v) (hk : k ≤ 6) : 0 ≤ v ∧ v ≤ 999999 := by
  obtain ⟨rfl, hd⟩ := h
  exact valF_le6 _ hd (by rw [List.length_take]; omega)
theorem readAt_succ {t : ByteArray} {k : Nat} {v : Int} (h : ReadAt t k v) (hk : k < t.size) (h1 : 48 ≤ (t[k].toNat : Int)) (h2 : (t[k].toNat : Int) ≤ 57) : ReadAt t (k + 1) (10 * v + ((t[k].toNat : Int) - 48)) := by
  obtain ⟨rfl, hd⟩ := h
  refine ⟨by rw [take_snoc t k hk, valF_snoc]; rfl, ?_⟩
  rw [take_snoc t k hk, dig_append]
  exact ⟨hd, fun c hc => by simp only [List.mem_singleton] at hc; subst hc; omega⟩
theorem readAt_all {t : ByteArray} {v : Int} (h : ReadAt t t.size v) : valF 0 t.data.toList = v := by
  obtain ⟨rfl, _⟩ := h
  rw [take_all]
theorem nondig {s t : ByteArray} {k : Nat} {w w1 : World} (ht : t.data.toList = tOf s.data.toList) (hk : k < t.size) (h : (t[k].toNat : Int) < 48 ∨ 57 < (t[k].toNat : Int)) (l1 : Lo w w1) :
    Reads s.data.toList w (.returned (.tuple #[.int .i64 0, .bool false])) w1 :=
  ⟨none, read_none_dig (k := k) (c := t[k]) (by rw [← ht]; exact List.getElem?_eq_getElem (by simpa using hk)) (by omega), rfl, l1⟩
theorem badlen {s t : ByteArray} {w w1 : World} (ht : t.data.toList = tOf s.data.toList) (h : ¬ (1 ≤ t.size ∧ t.size ≤ 6)) (l1 : Lo w w1) :
    Reads s.data.toList w (.returned (.tuple #[.int .i64 0, .bool false])) w1 :=
  ⟨none, read_none_len (by rw [← ht]; simpa using h), rfl, l1⟩
theorem val_neg {s t : ByteArray} {v : Int} (ht : t.data.toList = tOf s.data.toList) (hv : valF 0 t.data.toList = v) (h : t.size < s.size) : -v = if (tOf s.data.toList).length < s.data.toList.length then -(valF 0 (tOf s.data.toList)) else valF 0 (tOf s.data.toList) := by
  rw [← ht, if_pos (by simpa using h), hv]
theorem val_pos {s t : ByteArray} {v : Int} (ht : t.data.toList = tOf s.data.toList) (hv : valF 0 t.data.toList = v) (h : ¬ t.size < s.size) : v = if (tOf s.data.toList).length < s.data.toList.length then -(valF 0 (tOf s.data.toList)) else valF 0 (tOf s.data.toList) := by
  rw [← ht, if_neg (by simpa using h), hv]
theorem reads2_no {s : ByteArray} {n : Int} {w w1 : World} (hn : n = if (tOf s.data.toList).length < s.data.toList.length then -(valF 0 (tOf s.data.toList)) else valF 0 (tOf s.data.toList)) (hq : (!Lib.itoa n == s.toList) = true) (l1 : Lo w w1) :
    Reads s.data.toList w (.returned (.tuple #[.int .i64 0, .bool false])) w1 :=
  ⟨none, read_none_val hn (fun h => by rw [bytes_list] at hq; simp [h] at hq), rfl, l1⟩
set_option maxRecDepth 100000 in
set_option maxHeartbeats 1600000 in
theorem l1Read_any (s : ByteArray) (w : World) (hs : s.size ≤ 1048576) :
    Calls Tryd.prog 28 #[.string s] w (Reads s.data.toList w) := by
  by_cases hm : 1 < s.size ∧ ∀ h : 0 < s.size, s[0].toNat = 45
  · obtain ⟨hm1, hm2⟩ := hm
    have hb : ((s[0].toNat : Int) == 45) = true := by have := hm2 (by omega); simp; omega
    have hT := Lib.hid (tail_data s hm1 (hm2 (by omega)))
    clear hm2
    by_cases hl : s.size ≤ 7
    · have c := l1In_any ((s.size - 1 : Nat) : Int) 1 6 w
      rw [show (decide ((1 : Int) ≤ ((s.size - 1 : Nat) : Int)) && decide (((s.size - 1 : Nat) : Int) ≤ 6)) = true by simp; omega] at c
      have C := Lib.hid c
      clear c
      go_enter Tryd.func28, Tryd.ntmps28
      go_wp2_with (go_at_call 24; refine C.out.mono ?_; rintro e w' ⟨rfl, rfl⟩)
      have hz : (s.extract 1 s.size).size = s.size - 1 := by simp
      generalize s.extract 1 s.size = t at *
      have z1 : t.size < s.size := by omega
      have z2 : t.size ≤ 6 := by omega
      clear hz C
      go_loop [5, 6] (fun a b => ∃ (k : Nat) (v : Int), k ≤ t.size ∧ a = .int .i64 v ∧ b = .int .i64 k ∧ ReadAt t k v) (fun _ b => t.size - (intOf b).toNat)
      case atStart => exact ⟨0, 0, Nat.zero_le _, rfl, rfl, readAt_zero _⟩
      case round =>
        obtain ⟨k, v, hk, rfl, rfl, hr⟩ := hrel
        have hv := readAt_bd hr (by omega)
        have hv0 := hv.1
        have hv1 := hv.2
        clear hv
        by_cases hlt : k < t.size
        · have hb := byte_lt t[k]
          by_cases d1 : (t[k].toNat : Int) < 48
          · go_wp2
            go_ret2
            exact nondig hT.out hlt (.inl d1) (Below.refl _ _)
          · by_cases d2 : 57 < (t[k].toNat : Int)
            · go_wp2
              go_ret2
              exact nondig hT.out hlt (.inr d2) (Below.refl _ _)
            · have HR := Lib.hid (readAt_succ hr hlt (by omega) (by omega))
              have e1 : 48 ≤ (t[k].toNat : Int) := by omega
              have e2 : (t[k].toNat : Int) ≤ 57 := by omega
              clear d1 d2 hb
              go_wp2
              go_round
              case rel => exact ⟨k + 1, _, by omega, rfl, by go_num, HR.out⟩
              case measure => simp [intOf]; omega
        · obtain rfl : k = t.size := by omega
          have HV := Lib.hid (readAt_all hr)
          clear hr
          go_wp2_with (go_at_call 25; refine (l1Num_any _ _ (by omega) (by omega)).mono ?_; rintro e w' ⟨rfl, m, rfl⟩)
          · have hq : (!Lib.itoa (-v) == s.toList) = true := by assumption
            go_ret2
            exact reads2_no (val_neg hT.out HV.out (by omega)) hq (lo_drew _ _)
          · have hq : (!Lib.itoa (-v) == s.toList) = false := by assumption
            go_ret2
            exact reads_yes (by omega) hq (lo_drew _ _)
    · have c := l1In_any ((s.size - 1 : Nat) : Int) 1 6 w
      rw [show (decide ((1 : Int) ≤ ((s.size - 1 : Nat) : Int)) && decide (((s.size - 1 : Nat) : Int) ≤ 6)) = false by simp; omega] at c
      have C := Lib.hid c
      clear c
      go_enter Tryd.func28, Tryd.ntmps28
      go_wp2_with (go_at_call 24; refine C.out.mono ?_; rintro e w' ⟨rfl, rfl⟩)
      go_ret2
      exact badlen hT.out (by simp; omega) (Below.refl _ _)
  · have hT := Lib.hid (same_data s hm)
    by_cases hm1 : 1 < s.size
    · have hb : ((s[0].toNat : Int) == 45) = false := by
        have : ¬ s[0].toNat = 45 := fun x => hm ⟨hm1, fun _ => x⟩
        simp; omega
      clear hm
      by_cases hl : s.size ≤ 6
      · have c := l1In_any (s.size : Int) 1 6 w
        rw [show (decide ((1 : Int) ≤ (s.size : Int)) && decide ((s.size : Int) ≤ 6)) = true by simp; omega] at c
        have C := Lib.hid c
        clear c
        go_enter Tryd.func28, Tryd.ntmps28
        go_wp2_with (go_at_call 24; refine C.out.mono ?_; rintro e w' ⟨rfl, rfl⟩)
        clear C hb
        go_loop [5, 6] (fun a b => ∃ (k : Nat) (v : Int), k ≤ s.size ∧ a = .int .i64 v ∧ b = .int .i64 k ∧ ReadAt s k v) (fun _ b => s.size - (intOf b).toNat)
        case atStart => exact ⟨0, 0, Nat.zero_le _, rfl, rfl, readAt_zero _⟩
        case round =>
          obtain ⟨k, v, hk, rfl, rfl, hr⟩ := hrel
          have hv := readAt_bd hr (by omega)
          have hv0 := hv.1
          have hv1 := hv.2
          clear hv
          by_cases hlt : k < s.size
          · have hb := byte_lt s[k]
            by_cases d1 : (s[k].toNat : Int) < 48
            · go_wp2
              go_ret2
              exact nondig hT.out hlt (.inl d1) (Below.refl _ _)
            · by_cases d2 : 57 < (s[k].toNat : Int)
              · go_wp2
                go_ret2
                exact nondig hT.out hlt (.inr d2) (Below.refl _ _)
              · have HR := Lib.hid (readAt_succ hr hlt (by omega) (by omega))
                have e1 : 48 ≤ (s[k].toNat : Int) := by omega
                have e2 : (s[k].toNat : Int) ≤ 57 := by omega
                clear d1 d2 hb
                go_wp2
                go_round
                case rel => exact ⟨k + 1, _, by omega, rfl, by go_num, HR.out⟩
                case measure => simp [intOf]; omega
          · obtain rfl : k = s.size := by omega
            have HV := Lib.hid (readAt_all hr)
            clear hr
            go_wp2_with (go_at_call 25; refine (l1Num_any _ _ (by omega) (by omega)).mono ?_; rintro e w' ⟨rfl, m, rfl⟩)
            · have hq : (!Lib.itoa (v) == s.toList) = true := by assumption
              go_ret2
              exact reads2_no (val_pos hT.out HV.out (by omega)) hq (lo_drew _ _)
            · have hq : (!Lib.itoa (v) == s.toList) = false := by assumption
              go_ret2
              exact reads_yes (by omega) hq (lo_drew _ _)
      · have c := l1In_any (s.size : Int) 1 6 w
        rw [show (decide ((1 : Int) ≤ (s.size : Int)) && decide ((s.size : Int) ≤ 6)) = false by simp; omega] at c
        have C := Lib.hid c
        clear c
        go_enter Tryd.func28, Tryd.ntmps28
        go_wp2_with (go_at_call 24; refine C.out.mono ?_; rintro e w' ⟨rfl, rfl⟩)
        go_ret2
        exact badlen hT.out (by omega) (Below.refl _ _)
    · clear hm
      by_cases hl : 1 ≤ s.size
      · have c := l1In_any (s.size : Int) 1 6 w
        rw [show (decide ((1 : Int) ≤ (s.size : Int)) && decide ((s.size : Int) ≤ 6)) = true by simp; omega] at c
        have C := Lib.hid c
        clear c
        go_enter Tryd.func28, Tryd.ntmps28
        go_wp2_with (go_at_call 24; refine C.out.mono ?_; rintro e w' ⟨rfl, rfl⟩)
        clear C
        go_loop [5, 6] (fun a b => ∃ (k : Nat) (v : Int), k ≤ s.size ∧ a = .int .i64 v ∧ b = .int .i64 k ∧ ReadAt s k v) (fun _ b => s.size - (intOf b).toNat)
        case atStart => exact ⟨0, 0, Nat.zero_le _, rfl, rfl, readAt_zero _⟩
        case round =>
          obtain ⟨k, v, hk, rfl, rfl, hr⟩ := hrel
          have hv := readAt_bd hr (by omega)
          have hv0 := hv.1
          have hv1 := hv.2
          clear hv
          by_cases hlt : k < s.size
          · have hb := byte_lt s[k]
            by_cases d1 : (s[k].toNat : Int) < 48
            · go_wp2
              go_ret2
              exact nondig hT.out hlt (.inl d1) (Below.refl _ _)
            · by_cases d2 : 57 < (s[k].toNat : Int)
              · go_wp2
                go_ret2
                exact nondig hT.out hlt (.inr d2) (Below.refl _ _)
              · have HR := Lib.hid (readAt_succ hr hlt (by omega) (by omega))
                have e1 : 48 ≤ (s[k].toNat : Int) := by omega
                have e2 : (s[k].toNat : Int) ≤ 57 := by omega
                clear d1 d2 hb
                go_wp2
                go_round
                case rel => exact ⟨k + 1, _, by omega, rfl, by go_num, HR.out⟩
                case measure => simp [intOf]; omega
          · obtain rfl : k = s.size := by omega
            have HV := Lib.hid (readAt_all hr)
            clear hr
            go_wp2_with (go_at_call 25; refine (l1Num_any _ _ (by omega) (by omega)).mono ?_; rintro e w' ⟨rfl, m, rfl⟩)
            · have hq : (!Lib.itoa (v) == s.toList) = true := by assumption
              go_ret2
              exact reads2_no (val_pos hT.out HV.out (by omega)) hq (lo_drew _ _)
            · have hq : (!Lib.itoa (v) == s.toList) = false := by assumption
              go_ret2
              exact reads_yes (by omega) hq (lo_drew _ _)
      · have c := l1In_any (s.size : Int) 1 6 w
        rw [show (decide ((1 : Int) ≤ (s.size : Int)) && decide ((s.size : Int) ≤ 6)) = false by simp; omega] at c
        have C := Lib.hid c
        clear c
        go_enter Tryd.func28, Tryd.ntmps28
        go_wp2_with (go_at_call 24; refine C.out.mono ?_; rintro e w' ⟨rfl, rfl⟩)
        go_ret2
        exact badlen hT.out (by omega) (Below.refl _ _)
theorem specParse_any (s : ByteArray) (w : World) (hs : s.size ≤ 1048576) :
    Calls Tryd.prog 14 #[.string s] w (Reads s.data.toList w) := by
  go_enter Tryd.func14, Tryd.ntmps14
  go_wp2_with fail
  refine (l1Read_any s w hs).mono ?_
  rintro e w' ⟨r, hr, rfl, l1⟩
  cases r with
  | none =>
    unfold retOpt
    go_wp2
    go_ret2
    exact ⟨none, hr, rfl, l1⟩
  | some n =>
    unfold retOpt
    go_wp2
    go_ret2
    exact ⟨some n, hr, rfl, l1⟩
end Go.Proofs.YtlmnkkodfnlbmaaDoor
