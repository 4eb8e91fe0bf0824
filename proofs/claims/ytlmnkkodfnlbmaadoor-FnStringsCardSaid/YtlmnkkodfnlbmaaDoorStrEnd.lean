/- The contracts of chapter 1 as functions of the arguments: for the laws that call several of them. -/
import Derived.Test.YtlmnkkodfnlbmaaDoorDraw1
import Derived.Test.YtlmnkkodfnlbmaaDoorVer
import Derived.Test.YtlmnkkodfnlbmaaDoorRead2
import Derived.Test.YtlmnkkodfnlbmaaDoorDetPlain
namespace Go.Proofs.YtlmnkkodfnlbmaaDoor
open Go.RowKit
def okStr (s : ByteArray) (b : Bool) : Ending := .returned (.tuple #[.string s, .bool b])
def fmtB (a : Int) : Bool := decide (-999999 ≤ a) && decide (a ≤ 999999)
def fmtS (a : Int) : ByteArray := if fmtB a then ⟨(Lib.itoa a).toArray⟩ else ⟨#[]⟩
theorem fmtB_iff (a : Int) : fmtB a = true ↔ -999999 ≤ a ∧ a ≤ 999999 := by simp [fmtB]
theorem fmtS_yes {a : Int} (h : fmtB a = true) : fmtS a = ⟨(Lib.itoa a).toArray⟩ := by unfold fmtS; rw [h]; rfl
theorem fmtS_no {a : Int} (h : fmtB a = false) : fmtS a = ⟨#[]⟩ := by unfold fmtS; rw [h]; rfl
theorem fmtS_size (a : Int) : (fmtS a).size ≤ 30 := by
  cases h : fmtB a with
  | true =>
    have hb := (fmtB_iff a).1 h
    rw [fmtS_yes h]; exact itoa_size _ (by omega) (by omega)
  | false => rw [fmtS_no h]; decide
theorem specFmt_all (a : Int) (w : World) : Calls Tryd.prog 11 #[.int .i64 a] w fun e w' => e = .returned (.tuple #[.string (fmtS a), .bool (fmtB a)]) ∧ Lo w w' := by
  cases h : fmtB a with
  | true => have hb := (fmtB_iff a).1 h; rw [fmtS_yes h]; exact specFmt_yes a w hb.1 hb.2
  | false => rw [fmtS_no h]; exact specFmt_no a w (fun hb => by rw [(fmtB_iff a).2 hb] at h; cases h)
theorem implFmt_all (a : Int) (w : World) (ht : Tab w) : Calls Tryd.prog 10 #[.int .i64 a] w fun e w' => e = .returned (.tuple #[.string (fmtS a), .bool (fmtB a)]) ∧ Lo w w' := by
  cases h : fmtB a with
  | true => have hb := (fmtB_iff a).1 h; rw [fmtS_yes h]; exact implFmt_yes a w hb.1 hb.2 ht
  | false => rw [fmtS_no h]; exact implFmt_no a w (fun hb => by rw [(fmtB_iff a).2 hb] at h; cases h)
/-- What a text reads as. -/
def parseO (l : List UInt8) : Option Int :=
  let n := (scan 0 0 1 l).2 * (scan 0 0 1 l).1
  if (-999999 ≤ n ∧ n ≤ 999999) ∧ Lib.itoa n = l then some n else none
theorem parseO_is (l : List UInt8) : IsRead l (parseO l) := by
  unfold parseO
  by_cases h : (-999999 ≤ (scan 0 0 1 l).2 * (scan 0 0 1 l).1 ∧ (scan 0 0 1 l).2 * (scan 0 0 1 l).1 ≤ 999999) ∧ Lib.itoa ((scan 0 0 1 l).2 * (scan 0 0 1 l).1) = l
  · simp only [h]; exact ⟨h.1, h.2⟩
  · simp only [h]; exact read_none_scan rfl h
def parseV (l : List UInt8) : Int := (parseO l).getD 0
def parseB (l : List UInt8) : Bool := (parseO l).isSome
theorem reads_end {l : List UInt8} {w w' : World} {e : Ending} (h : Reads l w e w') : e = .returned (.tuple #[.int .i64 (parseV l), .bool (parseB l)]) ∧ Lo w w' := by
  obtain ⟨r, hr, rfl, l1⟩ := h
  obtain rfl := isRead_one hr (parseO_is l)
  refine ⟨?_, l1⟩
  unfold parseV parseB
  cases parseO l <;> rfl
theorem parse_itoa {n : Int} (h : fmtB n = true) : parseV (fmtS n).data.toList = n ∧ parseB (fmtS n).data.toList = true := by
  have hb := (fmtB_iff n).1 h
  rw [fmtS_yes h]
  have e := isRead_one (parseO_is (Lib.itoa n)) (read_some hb rfl)
  unfold parseV parseB
  show (parseO (Lib.itoa n)).getD 0 = n ∧ _
  rw [e]
  exact ⟨rfl, rfl⟩
theorem specParse_all (s : ByteArray) (w : World) (hs : s.size ≤ 1048576) : Calls Tryd.prog 14 #[.string s] w fun e w' => e = .returned (.tuple #[.int .i64 (parseV s.data.toList), .bool (parseB s.data.toList)]) ∧ Lo w w' :=
  (specParse_any s w hs).mono fun _ _ h => reads_end h
theorem implParse_all (s : ByteArray) (w : World) (hs : s.size ≤ 1048576) (ht : Tab w) : Calls Tryd.prog 13 #[.string s] w fun e w' => e = .returned (.tuple #[.int .i64 (parseV s.data.toList), .bool (parseB s.data.toList)]) ∧ Lo w w' :=
  (implParse_any s w hs ht).mono fun _ _ h => reads_end h
def sealOk (s : ByteArray) : Bool := decide (s.size ≤ 4000) && !(has 35 s.data.toList) && decide ((sealB s).size ≤ 4000)
theorem sealOk_iff (s : ByteArray) : sealOk s = true ↔ ¬ Unseal s := by
  unfold sealOk Unseal
  cases has 35 s.data.toList <;> simp
def sealS (s : ByteArray) : ByteArray := if sealOk s then sealB s else ⟨#[]⟩
theorem sealS_yes {s : ByteArray} (h : sealOk s = true) : sealS s = sealB s := by unfold sealS; rw [h]; rfl
theorem sealS_no {s : ByteArray} (h : sealOk s = false) : sealS s = ⟨#[]⟩ := by unfold sealS; rw [h]; rfl
theorem specSeal_all (s : ByteArray) (w : World) (hs : s.size ≤ 1048576) : Calls Tryd.prog 17 #[.string s] w fun e w' => e = .returned (.tuple #[.string (sealS s), .bool (sealOk s)]) ∧ Lo w w' := by
  cases h : sealOk s with
  | true => rw [sealS_yes h]; exact specSeal_yes s w ((sealOk_iff s).1 h)
  | false => rw [sealS_no h]; exact specSeal_no s w hs (Classical.byContradiction fun hu => by rw [(sealOk_iff s).2 hu] at h; cases h)
theorem implSeal_all (s : ByteArray) (w : World) (hs : s.size ≤ 1048576) (ht : Tab w) (hm : Len w) : Calls Tryd.prog 16 #[.string s] w fun e w' => e = .returned (.tuple #[.string (sealS s), .bool (sealOk s)]) ∧ Lo w w' := by
  cases h : sealOk s with
  | true => rw [sealS_yes h]; exact implSeal_yes s w ((sealOk_iff s).1 h) ht hm
  | false => rw [sealS_no h]; exact implSeal_no s w hs (Classical.byContradiction fun hu => by rw [(sealOk_iff s).2 hu] at h; cases h) ht hm
theorem sealB_list (s : ByteArray) : (sealB s).data.toList = sealL s.data.toList := by simp [sealB, sealL]
/-- A sealed text is opened again. -/
theorem seal_open {s : ByteArray} (h : sealOk s = true) : ¬ Unsealed (sealB s) ∧ preB (sealB s) = s := by
  have hu := (sealOk_iff s).1 h
  unfold Unseal at hu
  have h2 : has 35 s.data.toList = false := by cases hh : has 35 s.data.toList <;> simp_all
  have hp : preB (sealB s) = s := by
    unfold preB
    rw [sealB_list]
    unfold sealL
    rw [pre_at _ _ h2]
  refine ⟨?_, hp⟩
  rintro (h3 | h3)
  · omega
  · rw [hp] at h3; simp at h3
/-- With one byte changed it is not. -/
theorem seal_bad {s : ByteArray} (h : sealOk s = true) (k : Nat) (c' : UInt8) (hk : k < (sealB s).size) (hc : (sealB s)[k] ≠ c') : Unsealed ⟨((sealB s).data.toList.set k c').toArray⟩ := by
  right
  have hu := (sealOk_iff s).1 h
  unfold Unseal at hu
  have h2 : has 35 s.data.toList = false := by cases hh : has 35 s.data.toList <;> simp_all
  have hl : k < (sealL s.data.toList).length := by rw [← sealB_list]; simpa using hk
  have hget : (sealB s)[k] = (sealL s.data.toList)[k] := by
    have e : (sealB s)[k] = (sealB s).data.toList[k]'(by simpa using hk) := rfl
    rw [e]
    congr 1
    exact sealB_list s
  rw [hget] at hc
  rw [sealB_list]
  have e1 : sealL s.data.toList = (sealL s.data.toList).take k ++ (sealL s.data.toList)[k] :: (sealL s.data.toList).drop (k + 1) := by
    rw [← List.drop_eq_getElem_cons hl, List.take_append_drop]
  have e2 : (sealL s.data.toList).set k c' = (sealL s.data.toList).take k ++ c' :: (sealL s.data.toList).drop (k + 1) := List.set_eq_take_append_cons_drop.trans (by rw [if_pos hl])
  have hd := seal_det s.data.toList _ _ _ c' h2 e1 hc
  rw [← e2] at hd
  rw [Lib.toList_data, Lib.toList_data, sealB_list]
  exact beq_eq_false_iff_ne.2 hd
end Go.Proofs.YtlmnkkodfnlbmaaDoor
