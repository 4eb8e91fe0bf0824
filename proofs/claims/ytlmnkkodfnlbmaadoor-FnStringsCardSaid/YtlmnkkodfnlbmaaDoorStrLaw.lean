/- The walk of the law on strings and checksums. -/
import Derived.Test.YtlmnkkodfnlbmaaDoorStrEnd
import Derived.Lib.ConvBytes
import Derived.StillTailTactics
namespace Go.Proofs.YtlmnkkodfnlbmaaDoor
open Go.RowKit
theorem code_end {w : World} {a : Option Addr} {len : Nat} (h : CodeAt w w.heap.size a len) {w' : World} (l : Lo w w') : CodeAt w' w'.heap.size a len := by
  have h2 := h.lo l (Nat.le_refl _)
  rcases h2 with h2 | ⟨b, off, e, hb, hc⟩
  · exact .inl h2
  · exact .inr ⟨b, off, e, Nat.lt_of_lt_of_le hb l.size, hc⟩
def AtIs (w : World) (a : Option Addr) (len i : Nat) (x : Int) : Prop :=
  (len ≤ i ∧ x = ((i : Int) * 7 + (len : Int)) % 256) ∨ (i < len ∧ ∃ b off, a = some ⟨b, off, none⟩ ∧ w.cell? ⟨b, off + i, none⟩ = some (.int .u8 x))
theorem atIs_of {w : World} {B : Nat} {a : Option Addr} {len : Nat} (h : CodeAt w B a len) (i : Nat) : ∃ x : Int, 0 ≤ x ∧ x ≤ 255 ∧ AtIs w a len i x := by
  by_cases hlt : i < len
  · rcases h with hz | ⟨b, off, e, _, hc⟩
    · omega
    · obtain ⟨z, hz, z0, z1⟩ := hc i hlt
      exact ⟨z, z0, z1, .inr ⟨hlt, b, off, e, hz⟩⟩
  · exact ⟨_, by omega, by omega, .inl ⟨by omega, rfl⟩⟩
theorem vAt_at (a : Option Addr) (len cap i : Nat) (x : Int) (w : World) (h : AtIs w a len i x) (hlen : len ≤ 1048576) (hi : i ≤ 1000) (x0 : 0 ≤ x) (x1 : x ≤ 255) :
    Calls Tryd.prog 19 #[.slice a len cap, .int .i64 i] w fun e w' => e = .returned (.int .i64 x) ∧ w' = w := by
  rcases h with ⟨hge, rfl⟩ | ⟨hlt, b, off, rfl, hc⟩
  · have hge' : (len : Int) ≤ (i : Int) := by omega
    go_enter Tryd.func19, Tryd.ntmps19
    go_wp2
    go_ret
    exact ⟨rfl, rfl⟩
  · have hlt' : (i : Int) < (len : Int) := by omega
    go_enter Tryd.func19, Tryd.ntmps19
    go_wp2
    go_ret
    exact ⟨rfl, rfl⟩
theorem vBig_any (a : Option Addr) (len cap : Nat) (w : World) :
    Calls Tryd.prog 8 #[.slice a len cap] w fun e w' => e = .returned (.bool (decide (65536 < (len : Int)))) ∧ w = w' := by
  go_enter Tryd.func8, Tryd.ntmps8
  go_wp2
  go_ret
  exact ⟨rfl, rfl⟩
theorem implParse_back {n : Int} (h : fmtB n = true) (w : World) (ht : Tab w) : Calls Tryd.prog 13 #[.string (fmtS n)] w fun e w' => e = .returned (.tuple #[.int .i64 n, .bool true]) ∧ Lo w w' := by
  have c := implParse_all (fmtS n) w (by have := fmtS_size n; omega) ht
  rw [(parse_itoa h).1, (parse_itoa h).2] at c
  exact c
theorem implVer_seal {x : ByteArray} (h : sealOk x = true) (w : World) (ht : Tab w) (hm : Len w) : Calls Tryd.prog 18 #[.string (sealS x)] w fun e w' => e = .returned (.tuple #[.string x, .bool true]) ∧ Lo w w' := by
  have c := implVer_yes (sealB x) w (seal_open h).1 ht hm
  rw [(seal_open h).2] at c
  rw [sealS_yes h]
  exact c
/-- The world behind a conversion of a text to bytes. -/
def bwW (w : World) (s : ByteArray) : World := Lib.bytesWorld w 5 s
def capW (w : World) (s : ByteArray) : Nat := grownCap w s.size 0 5
theorem bw_conv (s : ByteArray) (w : World) : (convert 9 22 (.string s)).run Tryd.prog w = .ok (.slice (some ⟨w.heap.size, 0, none⟩) s.size (capW w s)) (bwW w s) :=
  Lib.run_convert_string_bytes (P := Tryd.prog) w 9 22 5 s Tryd.underlying9 Tryd.underlying22 Tryd.underlying5
theorem bw_size (w : World) (s : ByteArray) : (bwW w s).heap.size = w.heap.size + 1 := Lib.bytesWorld_size w _ s
theorem bw_lo (w : World) (s : ByteArray) : Lo w (bwW w s) := ⟨rfl, rfl, rfl, by rw [bw_size]; omega, fun k hk => Lib.bytesWorld_at_old w _ s k hk⟩
theorem bw_cell (w : World) (s : ByteArray) (j : Nat) (h : j < s.size) : (bwW w s).cell? ⟨w.heap.size, j, none⟩ = some (.int .u8 (s[j].toNat : Int)) := by
  have := Lib.bytesWorld_cell w 5 s j h
  unfold bwW
  rw [this]
  congr 4
  have hl : j < s.data.toList.length := by simpa using h
  simp only [List.getD, List.getElem?_eq_getElem hl, Option.getD_some]
  rfl
theorem cap_le (w : World) (s : ByteArray) : s.size ≤ capW w s := grownCap_ge w s.size 0 _
theorem bw_free (w : World) (s : ByteArray) (j : Nat) (h : j < s.size) : (bwW w s).frozen? ⟨w.heap.size, j, none⟩ = false := by
  have hb := Lib.bytesWorld_at_new w 5 s
  have hc := cap_le w s
  unfold capW at hc
  have hz : (Lib.bytesCells w 5 s).size = grownCap w s.size 0 5 := by
    unfold Lib.bytesCells
    simp
    have : s.data.size = s.size := rfl
    omega
  unfold bwW World.frozen?
  rw [hb]
  simp
  omega
/-- A byte that is xored with a number from 1 to 255 is another one. -/
theorem xor_byte (c : UInt8) (m : Int) (h1 : 1 ≤ m) (h2 : m ≤ 255) : ∃ c' : UInt8, c ≠ c' ∧ bits BinOp.xor IntKind.u8 (c.toNat : Int) m = (c'.toNat : Int) := by
  refine ⟨⟨BitVec.ofInt 8 (c.toNat : Int) ^^^ BitVec.ofInt 8 m⟩, ?_, ?_⟩
  · intro e
    have e1 : c.toBitVec = BitVec.ofInt 8 (c.toNat : Int) ^^^ BitVec.ofInt 8 m := congrArg UInt8.toBitVec e
    have e2 : BitVec.ofInt 8 (c.toNat : Int) = c.toBitVec := by rw [BitVec.ofInt_natCast]; simp
    rw [e2] at e1
    have e3 : BitVec.ofInt 8 m = 0#8 := by
      have : c.toBitVec ^^^ c.toBitVec = c.toBitVec ^^^ (c.toBitVec ^^^ BitVec.ofInt 8 m) := by rw [← e1]
      rw [← BitVec.xor_assoc, BitVec.xor_self, BitVec.zero_xor] at this
      exact this.symm
    have e4 := congrArg BitVec.toNat e3
    rw [BitVec.toNat_ofInt] at e4
    simp at e4
    omega
  · show IntKind.u8.wrap ((BitVec.ofInt 8 (c.toNat : Int) ^^^ BitVec.ofInt 8 m).toNat : Int) = _
    have hlt := (BitVec.ofInt 8 (c.toNat : Int) ^^^ BitVec.ofInt 8 m).isLt
    have hw : ∀ n : Nat, n < 256 → IntKind.u8.wrap (n : Int) = n := fun n hn => by
      have : IntKind.u8.wrap (n : Int) = (n : Int) % 256 := rfl
      rw [this]; omega
    exact hw _ hlt
def setB (s : ByteArray) (k : Nat) (c : UInt8) : ByteArray := ⟨(s.data.toList.set k c).toArray⟩
theorem setB_size (s : ByteArray) (k : Nat) (c : UInt8) : (setB s k c).size = s.size := by
  show (s.data.toList.set k c).length = _
  simp
theorem back_set (s : ByteArray) (k : Nat) (c : UInt8) (hk : k < s.size) (w : World) :
    (convert 22 9 (.slice (some ⟨w.heap.size, 0, none⟩) s.size (capW w s))).run Tryd.prog (((bwW w s).setCell ⟨w.heap.size, k, none⟩ (.int .u8 (c.toNat : Int))).drew) =
      .ok (.string (setB s k c)) (((bwW w s).setCell ⟨w.heap.size, k, none⟩ (.int .u8 (c.toNat : Int))).drew) := by
  have hl : (s.data.toList.set k c).length = s.size := by simp
  have h := run_convert_bytes_back (P := Tryd.prog) (((bwW w s).setCell ⟨w.heap.size, k, none⟩ (.int .u8 (c.toNat : Int))).drew) 22 9 5 ⟨w.heap.size, 0, none⟩ (capW w s) (s.data.toList.set k c) Tryd.underlying22 Tryd.underlying5 Tryd.underlying9 (fun j hj => by
    rw [Go.WideShapes.add_plain, Nat.zero_add]
    show ((bwW w s).setCell ⟨w.heap.size, k, none⟩ (.int .u8 (c.toNat : Int))).cell? ⟨w.heap.size, j, none⟩ = _
    have hj' : j < s.size := by rw [hl] at hj; exact hj
    by_cases e : k = j
    · subst e
      rw [World.cell?_setCell_same' _ _ _ (by rw [bw_cell w s k hk]; rfl)]
      simp
    · rw [World.cell?_setCell_other (h := fun hh => e (congrArg Addr.off hh)), bw_cell w s j hj', List.getElem_set_ne e]
      rfl)
  rw [hl] at h
  exact h
theorem lo_stored (w0 w : World) (s : ByteArray) (k : Nat) (v : Value) (h : Lo w0 w) : Lo w0 (((bwW w s).setCell ⟨w.heap.size, k, none⟩ v).drew) :=
  (Below.setCell (lo_trans h (bw_lo w s)) (p := ⟨w.heap.size, k, none⟩) h.size v).drew
set_option maxRecDepth 100000 in
set_option maxHeartbeats 2000000 in
theorem strings_walk (a : Option Addr) (len cap : Nat) (w : World) (hcode : CodeAt w w.heap.size a len) (ht : Tab w) (hm : Len w) :
    Calls Tryd.prog 3 #[.slice a len cap] w fun e w' => e = .returned (.bool true) ∧ Lo w w' := by
  have HC := Lib.hid hcode
  clear hcode
  by_cases hbig : 65536 < (len : Int)
  · have VB := vBig_any a len cap w
    rw [show decide (65536 < (len : Int)) = true by simpa using hbig] at VB
    have HV := Lib.hid VB
    clear VB
    go_enter Tryd.func3, Tryd.ntmps3
    go_wp2_with fail
    refine HV.out.mono ?_
    rintro e w' ⟨rfl, rfl⟩
    go_wp2
    go_ret
    exact ⟨rfl, Below.refl _ _⟩
  have VB := vBig_any a len cap w
  rw [show decide (65536 < (len : Int)) = false by simpa using hbig] at VB
  have HV := Lib.hid VB
  clear VB
  go_enter Tryd.func3, Tryd.ntmps3
  go_wp2_with fail
  refine HV.out.mono ?_
  rintro e w' ⟨rfl, rfl⟩
  go_wp2_with fail
  refine (drawFmt_any a len cap w HC.out).mono ?_
  rintro e w1 ⟨n, rfl, hn, L1⟩
  clear hn
  obtain ⟨q, hq⟩ : ∃ q, fmtB n = q := ⟨_, rfl⟩
  have C2 := implFmt_all n w1 (ht.lo L1)
  rw [hq] at C2
  have D2 := Lib.hid C2
  clear C2
  have HQ := Lib.hid hq
  clear hq
  go_wp2_with fail
  refine D2.out.mono ?_
  rintro e w2 ⟨rfl, k2⟩
  have L2 := lo_trans L1 k2
  have C3 := specFmt_all n w2
  rw [HQ.out] at C3
  have D3 := Lib.hid C3
  clear C3
  go_wp2_with fail
  refine D3.out.mono ?_
  rintro e w3 ⟨rfl, k3⟩
  have L3 := lo_trans L2 k3
  go_wp2_with fail
  refine (drawParse_any a len cap _ (code_end HC.out L3)).mono ?_
  rintro e w4 ⟨t, rfl, hts, k4⟩
  have L4 := lo_trans L3 k4
  go_wp2_with fail
  refine (implParse_all t _ (by omega) (ht.lo L4)).mono ?_
  rintro e w5 ⟨rfl, k5⟩
  have L5 := lo_trans L4 k5
  go_wp2_with fail
  refine (specParse_all t _ (by omega)).mono ?_
  rintro e w6 ⟨rfl, k6⟩
  have L6 := lo_trans L5 k6
  go_wp2_with fail
  refine (drawApp_any a len cap _ (code_end HC.out L6)).mono ?_
  rintro e w7 ⟨x, rfl, hxs, k7⟩
  have L7 := lo_trans L6 k7
  obtain ⟨r, hr⟩ : ∃ r, sealOk x = r := ⟨_, rfl⟩
  have C8 := implSeal_all x w7 (by omega) (ht.lo L7) (hm.lo L7)
  rw [hr] at C8
  have D8 := Lib.hid C8
  clear C8
  have HR := Lib.hid hr
  clear hr
  go_wp2_with fail
  refine D8.out.mono ?_
  rintro e w8 ⟨rfl, k8⟩
  have L8 := lo_trans L7 k8
  have C9 := specSeal_all x w8 (by omega)
  rw [HR.out] at C9
  have D9 := Lib.hid C9
  clear C9
  go_wp2_with fail
  refine D9.out.mono ?_
  rintro e w9 ⟨rfl, k9⟩
  have L9 := lo_trans L8 k9
  clear k2 k3 k4 k5 k6 k7 k8 k9 L1 L2 L3 L4 L5 L6 L7 L8 hts D2 D3 D8 D9
  have PB : ∃ (v : Int) (b : Bool), Hid (Calls Tryd.prog 13 #[.string (fmtS n)] w9 fun e w' => e = .returned (.tuple #[.int .i64 v, .bool b]) ∧ Lo w9 w') ∧ Hid (q = true → v = n ∧ b = true) := by
    cases q with
    | true => exact ⟨n, true, Lib.hid (implParse_back HQ.out w9 (ht.lo L9)), Lib.hid (fun _ => ⟨rfl, rfl⟩)⟩
    | false => exact ⟨_, _, Lib.hid (implParse_all (fmtS n) w9 (by have := fmtS_size n; omega) (ht.lo L9)), Lib.hid (fun h => by cases h)⟩
  obtain ⟨v, b, PB, hvb⟩ := PB
  go_wp2_with fail
  refine PB.out.mono ?_
  rintro e w10 ⟨rfl, k10⟩
  have L10 := lo_trans L9 k10
  clear PB k10 L9
  cases r with
  | false =>
    have he : (sealS x).toList.isEmpty = true := by rw [sealS_no HR.out, Lib.toList_data]; rfl
    cases q
    all_goals (try obtain ⟨rfl, rfl⟩ := hvb.out rfl)
    all_goals go_wp2
    all_goals go_ret
    all_goals exact ⟨rfl, L10⟩
  | true =>
    have hy : (sealB x).size ≤ 4000 := by have := (sealOk_iff x).1 HR.out; unfold Unseal at this; omega
    have hy0 : 0 < (sealB x).size := by have := seal_size x; omega
    rw [sealS_yes HR.out]
    have IV := Lib.hid (implVer_seal HR.out)
    rw [sealS_yes HR.out] at IV
    cases q
    all_goals (try obtain ⟨rfl, rfl⟩ := hvb.out rfl)
    all_goals go_wp2_with fail
    all_goals (refine (IV.out _ (ht.lo L10) (hm.lo L10)).mono ?_; rintro e w11 ⟨rfl, k11⟩)
    all_goals (have L11 := lo_trans L10 k11; have kc := bw_conv (sealB x); have hw := bw_size w11 (sealB x); have hl := bw_lo w11 (sealB x); have L12 := lo_trans L11 hl)
    all_goals (clear L10 k11 IV hw; have HL := Lib.hid hl; clear hl)
    all_goals go_wp2_with fail
    all_goals (obtain ⟨y, y0, y1, hy9⟩ := atIs_of (HC.out.lo L12 (Nat.le_refl _)) 9; have HY9 := Lib.hid hy9; clear hy9)
    all_goals (obtain ⟨z, z0, z1, hz10⟩ := atIs_of (HC.out.lo L12 (Nat.le_refl _)) 10; have HZ := Lib.hid hz10; clear hz10)
    all_goals (refine (vAt_at a len cap 9 y _ HY9.out (by omega) (by omega) y0 y1).mono ?_; rintro e w13 ⟨rfl, rfl⟩)
    all_goals (clear kc; obtain ⟨k, hk⟩ := Int.eq_ofNat_of_zero_le (Int.emod_nonneg y (b := ((sealB x).size : Int)) (by omega)); have hk2 := Int.emod_lt_of_pos y (b := ((sealB x).size : Int)) (by omega); rw [hk] at hk2)
    all_goals (have hkl : k < (sealB x).size := by omega)
    all_goals (have hc := bw_cell w11 (sealB x) k hkl; have hf := bw_free w11 (sealB x) k hkl)
    all_goals go_wp2_with fail
    all_goals (rw [hk]; clear hk)
    all_goals (have hzc : Hid (Calls Tryd.prog 19 #[.slice a len cap, .int .i64 10] (bwW w11 (sealB x)).drew fun e w' => e = .returned (.int .i64 z) ∧ w' = (bwW w11 (sealB x)).drew) := Lib.hid (vAt_at a len cap 10 z (bwW w11 (sealB x)).drew HZ.out (by omega) (by omega) z0 z1))
    all_goals (refine wp_region_still_tail 13 (by kernel_rfl) (by kernel_rfl) ?_; simp only [List.take_succ_cons, List.take_zero, List.drop_succ_cons, List.drop_zero]; change wpStill _ _ (bwW w11 (sealB x)).drew _ _ _)
    all_goals (repeat still_step)
    all_goals (still_call hzc.out)
    all_goals (repeat still_step)
    all_goals (obtain ⟨c', hne, hx⟩ := xor_byte (sealB x)[k] (1 + z % 255) (by omega) (by omega); have hcv := back_set (sealB x) k c' hkl w11)
    all_goals (have HU := Lib.hid (seal_bad HR.out k c' hkl hne); clear hne; have LS := lo_stored w w11 (sealB x) k (.int .u8 (c'.toNat : Int)) L11)
    all_goals (refine wpStill_nil ?_; change wpList _ _ _ _ _ (bwW w11 (sealB x)).drew)
    all_goals go_wp2_with fail
    all_goals (refine (implVer_no (setB (sealB x) k c') _ (by rw [setB_size]; omega) HU.out (ht.lo LS) (hm.lo LS)).mono ?_; rintro e w14 ⟨rfl, k14⟩)
    all_goals go_wp2
    all_goals go_ret
    all_goals exact ⟨rfl, lo_trans LS k14⟩
end Go.Proofs.YtlmnkkodfnlbmaaDoor
