/- The contracts of ParseInt: the program's and the model's. -/
import Derived.Test.YtlmnkkodfnlbmaaDoorReadPlain
import Derived.Test.YtlmnkkodfnlbmaaDoorFmt
import Derived.Test.YtlmnkkodfnlbmaaDoorCkPlain
namespace Go.Proofs.YtlmnkkodfnlbmaaDoor
open Go.RowKit
def retOpt : Option Int → Ending
  | some n => .returned (.tuple #[.int .i64 n, .bool true])
  | none => .returned (.tuple #[.int .i64 0, .bool false])
/-- What a call that reads the text l ends in. -/
def Reads (l : List UInt8) (w : World) (e : Ending) (w' : World) : Prop := ∃ r, IsRead l r ∧ e = retOpt r ∧ Lo w w'
theorem scan_at (s : ByteArray) (k : Nat) (sz sg : Int) (h : k < s.size) : scan k sz sg (s.data.toList.drop k) = if s[k].toNat = 45 ∧ k = 0 then scan (k + 1) sz (-1) (s.data.toList.drop (k + 1)) else
    if s[k].toNat < 48 ∨ 57 < s[k].toNat ∨ 999999 < sz then (sz, sg) else scan (k + 1) (stepV sz s[k]) sg (s.data.toList.drop (k + 1)) := by
  rw [List.drop_eq_getElem_cons (by simpa using h), scan]; rfl
def ScanAt (s : ByteArray) (k : Nat) (sz sg : Int) : Prop := scan k sz sg (s.data.toList.drop k) = scan 0 0 1 s.data.toList
theorem scan_end {s : ByteArray} {sz sg : Int} (h : ScanAt s s.size sz sg) : (sz, sg) = scan 0 0 1 s.data.toList := by
  unfold ScanAt at h
  rw [List.drop_of_length_le (by simp)] at h
  exact h
theorem bytes_list (s : ByteArray) : s.toList = s.data.toList := by
  exact Lib.toList_data s
theorem reads_no {s : ByteArray} {n : Int} {w w1 : World} (hn : n = (scan 0 0 1 s.data.toList).2 * (scan 0 0 1 s.data.toList).1) (hq : (!Lib.itoa n == s.toList) = true) (l1 : Lo w w1) :
    Reads s.data.toList w (.returned (.tuple #[.int .i64 0, .bool false])) w1 :=
  ⟨none, read_none_scan hn (fun h => by rw [bytes_list] at hq; simp [h.2] at hq), rfl, l1⟩
theorem reads_yes {s : ByteArray} {n : Int} {w w1 : World} (hb : -999999 ≤ n ∧ n ≤ 999999) (hq : (!Lib.itoa n == s.toList) = false) (l1 : Lo w w1) :
    Reads s.data.toList w (.returned (.tuple #[.int .i64 n, .bool true])) w1 :=
  ⟨some n, read_some hb (by rw [bytes_list] at hq; simpa using hq), rfl, l1⟩
set_option maxRecDepth 100000 in
set_option maxHeartbeats 1600000 in
theorem implParse_any (s : ByteArray) (w : World) (hs : s.size ≤ 1048576) (ht : Tab w) :
    Calls Tryd.prog 13 #[.string s] w (Reads s.data.toList w) := by
  go_enter Tryd.func13, Tryd.ntmps13
  go_wp2
  go_step3
  go_wp2
  go_step3
  go_wp2
  go_loop [4, 5, 13] (fun a b c => ∃ (k : Nat) (sz sg : Int), k ≤ s.size ∧ a = .int .i64 sz ∧ b = .int .i64 sg ∧ c = .int .i64 k ∧ 0 ≤ sz ∧ sz ≤ 10000000 ∧ (sg = 1 ∨ sg = -1) ∧ ScanAt s k sz sg) (fun _ _ c => s.size - (intOf c).toNat)
  case atStart => exact ⟨0, 0, 1, Nat.zero_le _, rfl, rfl, rfl, by omega, by omega, .inl rfl, rfl⟩
  case round =>
    obtain ⟨k, sz, sg, hk, rfl, rfl, rfl, hz0, hz1, hsg, hsc⟩ := hrel
    by_cases hlt : k < s.size
    · have hb := byte_lt s[k]
      have he := scan_at s k sz sg hlt
      by_cases c1 : s[k].toNat = 45 ∧ k = 0
      · rw [if_pos c1] at he
        obtain ⟨c0, rfl⟩ := c1
        have HE := Lib.hid he
        have b3 : ((s[0].toNat : Int) == 45) = true := by simp; omega
        clear he c0
        go_wp2
        go_round
        case rel => exact ⟨1, sz, -1, by omega, rfl, rfl, rfl, hz0, hz1, .inr rfl, HE.out.symm.trans hsc⟩
        case measure => simp [intOf]; omega
      · by_cases c2 : s[k].toNat < 48
        · rw [if_neg c1, if_pos (by omega)] at he
          have HE := Lib.hid (he.symm.trans hsc)
          have b1 : (s[k].toNat : Int) < 48 := by omega
          clear he hsc
          by_cases d1 : s[k].toNat = 45
          · have b3 : ((s[k].toNat : Int) == 45) = true := by simp; omega
            have b4 : ((k : Int) == 0) = false := by simp; omega
            clear c1 d1
            rcases hsg with rfl | rfl
            · by_cases hb : -999999 ≤ sz ∧ sz ≤ 999999
              · go_wp2_with (go_at_call 10; refine (implFmt_yes _ _ hb.1 hb.2 ht).mono ?_; rintro e w1 ⟨rfl, l1⟩)
                · have hq : (!Lib.itoa sz == s.toList) = true := by assumption
                  try rw [Exit.noGoto_ret]
                  go_ret2
                  exact reads_no (by rw [← HE.out]; omega) hq l1
                · have hq : (!Lib.itoa sz == s.toList) = false := by assumption
                  try rw [Exit.noGoto_ret]
                  go_ret2
                  exact reads_yes hb hq l1
              · go_wp2_with (go_at_call 10; refine (implFmt_no _ _ hb).mono ?_; rintro e w1 ⟨rfl, l1⟩)
                try rw [Exit.noGoto_ret]
                go_ret2
                exact ⟨none, read_none_scan (by rw [← HE.out]; omega) (fun h => hb h.1), rfl, l1⟩
            · by_cases hb : -999999 ≤ -sz ∧ -sz ≤ 999999
              · go_wp2_with (go_at_call 10; refine (implFmt_yes _ _ hb.1 hb.2 ht).mono ?_; rintro e w1 ⟨rfl, l1⟩)
                · have hq : (!Lib.itoa (-sz) == s.toList) = true := by assumption
                  try rw [Exit.noGoto_ret]
                  go_ret2
                  exact reads_no (by rw [← HE.out]; omega) hq l1
                · have hq : (!Lib.itoa (-sz) == s.toList) = false := by assumption
                  try rw [Exit.noGoto_ret]
                  go_ret2
                  exact reads_yes hb hq l1
              · go_wp2_with (go_at_call 10; refine (implFmt_no _ _ hb).mono ?_; rintro e w1 ⟨rfl, l1⟩)
                try rw [Exit.noGoto_ret]
                go_ret2
                exact ⟨none, read_none_scan (by rw [← HE.out]; omega) (fun h => hb h.1), rfl, l1⟩
          · have b3 : ((s[k].toNat : Int) == 45) = false := by simp; omega
            clear c1 d1
            rcases hsg with rfl | rfl
            · by_cases hb : -999999 ≤ sz ∧ sz ≤ 999999
              · go_wp2_with (go_at_call 10; refine (implFmt_yes _ _ hb.1 hb.2 ht).mono ?_; rintro e w1 ⟨rfl, l1⟩)
                · have hq : (!Lib.itoa sz == s.toList) = true := by assumption
                  try rw [Exit.noGoto_ret]
                  go_ret2
                  exact reads_no (by rw [← HE.out]; omega) hq l1
                · have hq : (!Lib.itoa sz == s.toList) = false := by assumption
                  try rw [Exit.noGoto_ret]
                  go_ret2
                  exact reads_yes hb hq l1
              · go_wp2_with (go_at_call 10; refine (implFmt_no _ _ hb).mono ?_; rintro e w1 ⟨rfl, l1⟩)
                try rw [Exit.noGoto_ret]
                go_ret2
                exact ⟨none, read_none_scan (by rw [← HE.out]; omega) (fun h => hb h.1), rfl, l1⟩
            · by_cases hb : -999999 ≤ -sz ∧ -sz ≤ 999999
              · go_wp2_with (go_at_call 10; refine (implFmt_yes _ _ hb.1 hb.2 ht).mono ?_; rintro e w1 ⟨rfl, l1⟩)
                · have hq : (!Lib.itoa (-sz) == s.toList) = true := by assumption
                  try rw [Exit.noGoto_ret]
                  go_ret2
                  exact reads_no (by rw [← HE.out]; omega) hq l1
                · have hq : (!Lib.itoa (-sz) == s.toList) = false := by assumption
                  try rw [Exit.noGoto_ret]
                  go_ret2
                  exact reads_yes hb hq l1
              · go_wp2_with (go_at_call 10; refine (implFmt_no _ _ hb).mono ?_; rintro e w1 ⟨rfl, l1⟩)
                try rw [Exit.noGoto_ret]
                go_ret2
                exact ⟨none, read_none_scan (by rw [← HE.out]; omega) (fun h => hb h.1), rfl, l1⟩
        · by_cases c3 : 57 < s[k].toNat
          · rw [if_neg c1, if_pos (by omega)] at he
            have HE := Lib.hid (he.symm.trans hsc)
            have b1 : (57 : Int) < (s[k].toNat : Int) := by omega
            have b3 : ((s[k].toNat : Int) == 45) = false := by simp; omega
            clear he hsc c1 c2
            rcases hsg with rfl | rfl
            · by_cases hb : -999999 ≤ sz ∧ sz ≤ 999999
              · go_wp2_with (go_at_call 10; refine (implFmt_yes _ _ hb.1 hb.2 ht).mono ?_; rintro e w1 ⟨rfl, l1⟩)
                · have hq : (!Lib.itoa sz == s.toList) = true := by assumption
                  try rw [Exit.noGoto_ret]
                  go_ret2
                  exact reads_no (by rw [← HE.out]; omega) hq l1
                · have hq : (!Lib.itoa sz == s.toList) = false := by assumption
                  try rw [Exit.noGoto_ret]
                  go_ret2
                  exact reads_yes hb hq l1
              · go_wp2_with (go_at_call 10; refine (implFmt_no _ _ hb).mono ?_; rintro e w1 ⟨rfl, l1⟩)
                try rw [Exit.noGoto_ret]
                go_ret2
                exact ⟨none, read_none_scan (by rw [← HE.out]; omega) (fun h => hb h.1), rfl, l1⟩
            · by_cases hb : -999999 ≤ -sz ∧ -sz ≤ 999999
              · go_wp2_with (go_at_call 10; refine (implFmt_yes _ _ hb.1 hb.2 ht).mono ?_; rintro e w1 ⟨rfl, l1⟩)
                · have hq : (!Lib.itoa (-sz) == s.toList) = true := by assumption
                  try rw [Exit.noGoto_ret]
                  go_ret2
                  exact reads_no (by rw [← HE.out]; omega) hq l1
                · have hq : (!Lib.itoa (-sz) == s.toList) = false := by assumption
                  try rw [Exit.noGoto_ret]
                  go_ret2
                  exact reads_yes hb hq l1
              · go_wp2_with (go_at_call 10; refine (implFmt_no _ _ hb).mono ?_; rintro e w1 ⟨rfl, l1⟩)
                try rw [Exit.noGoto_ret]
                go_ret2
                exact ⟨none, read_none_scan (by rw [← HE.out]; omega) (fun h => hb h.1), rfl, l1⟩
          · by_cases c4 : 999999 < sz
            · rw [if_neg c1, if_pos (by omega)] at he
              have HE := Lib.hid (he.symm.trans hsc)
              have b1 : 48 ≤ (s[k].toNat : Int) := by omega
              have b2 : (s[k].toNat : Int) ≤ 57 := by omega
              have b3 : ((s[k].toNat : Int) == 45) = false := by simp; omega
              clear he hsc c1 c2 c3
              rcases hsg with rfl | rfl
              · by_cases hb : -999999 ≤ sz ∧ sz ≤ 999999
                · exact absurd hb (by omega)
                · go_wp2_with (go_at_call 10; refine (implFmt_no _ _ hb).mono ?_; rintro e w1 ⟨rfl, l1⟩)
                  try rw [Exit.noGoto_ret]
                  go_ret2
                  exact ⟨none, read_none_scan (by rw [← HE.out]; omega) (fun h => hb h.1), rfl, l1⟩
              · by_cases hb : -999999 ≤ -sz ∧ -sz ≤ 999999
                · exact absurd hb (by omega)
                · go_wp2_with (go_at_call 10; refine (implFmt_no _ _ hb).mono ?_; rintro e w1 ⟨rfl, l1⟩)
                  try rw [Exit.noGoto_ret]
                  go_ret2
                  exact ⟨none, read_none_scan (by rw [← HE.out]; omega) (fun h => hb h.1), rfl, l1⟩
            · rw [if_neg c1, if_neg (by omega)] at he
              have HE := Lib.hid he
              have b1 : 48 ≤ (s[k].toNat : Int) := by omega
              have b2 : (s[k].toNat : Int) ≤ 57 := by omega
              have b3 : ((s[k].toNat : Int) == 45) = false := by simp; omega
              have b4 : sz ≤ 999999 := by omega
              clear he c1 c2 c3 c4 hb
              go_wp2
              go_round
              case rel => exact ⟨k + 1, stepV sz s[k], sg, by omega, by unfold stepV; rfl, rfl, by go_num, by unfold stepV; omega, by unfold stepV; omega, hsg, HE.out.symm.trans hsc⟩
              case measure => simp [intOf]; omega
    · obtain rfl : k = s.size := by omega
      have HE := Lib.hid (scan_end hsc)
      clear hsc
      rcases hsg with rfl | rfl
      · by_cases hb : -999999 ≤ sz ∧ sz ≤ 999999
        · go_wp2_with (go_at_call 10; refine (implFmt_yes _ _ hb.1 hb.2 ht).mono ?_; rintro e w1 ⟨rfl, l1⟩)
          · have hq : (!Lib.itoa sz == s.toList) = true := by assumption
            try rw [Exit.noGoto_ret]
            go_ret2
            exact reads_no (by rw [← HE.out]; omega) hq l1
          · have hq : (!Lib.itoa sz == s.toList) = false := by assumption
            try rw [Exit.noGoto_ret]
            go_ret2
            exact reads_yes hb hq l1
        · go_wp2_with (go_at_call 10; refine (implFmt_no _ _ hb).mono ?_; rintro e w1 ⟨rfl, l1⟩)
          try rw [Exit.noGoto_ret]
          go_ret2
          exact ⟨none, read_none_scan (by rw [← HE.out]; omega) (fun h => hb h.1), rfl, l1⟩
      · by_cases hb : -999999 ≤ -sz ∧ -sz ≤ 999999
        · go_wp2_with (go_at_call 10; refine (implFmt_yes _ _ hb.1 hb.2 ht).mono ?_; rintro e w1 ⟨rfl, l1⟩)
          · have hq : (!Lib.itoa (-sz) == s.toList) = true := by assumption
            try rw [Exit.noGoto_ret]
            go_ret2
            exact reads_no (by rw [← HE.out]; omega) hq l1
          · have hq : (!Lib.itoa (-sz) == s.toList) = false := by assumption
            try rw [Exit.noGoto_ret]
            go_ret2
            exact reads_yes hb hq l1
        · go_wp2_with (go_at_call 10; refine (implFmt_no _ _ hb).mono ?_; rintro e w1 ⟨rfl, l1⟩)
          try rw [Exit.noGoto_ret]
          go_ret2
          exact ⟨none, read_none_scan (by rw [← HE.out]; omega) (fun h => hb h.1), rfl, l1⟩
end Go.Proofs.YtlmnkkodfnlbmaaDoor
