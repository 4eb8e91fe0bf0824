/- The contracts of the law's own functions on lists of texts: to compare, to mark, to look again. -/
import Derived.Test.YtlmnkkodfnlbmaaSplit
import Derived.Test.YtlmnkkodfnlbmaaOnly
import Derived.Lib.ItoaLen
import Derived.Deep.QuietTactic
import Derived.BigQuiet
import Derived.Deep.RegionHeld3
namespace Go.Proofs.Ytlmnkkodfnlbmaa
open Go.RowKit
/-- The slice value v reads as the texts xs. -/
def StrRow (w : World) (v : Value) (xs : List ByteArray) : Prop :=
  ∃ a c, v = .slice a xs.length c ∧ (xs = [] ∨ ∃ g off, a = some ⟨g, off, none⟩ ∧ g < w.heap.size ∧ ∀ j, j < xs.length → w.cell? ⟨g, off + j, none⟩ = some (.string (xs.getD j ByteArray.empty)))
theorem StrRow.lo {w w' : World} {v : Value} {xs : List ByteArray} (h : StrRow w v xs) (l : Below w.heap.size w w') : StrRow w' v xs := by
  obtain ⟨a, c, rfl, h⟩ := h
  refine ⟨a, c, rfl, ?_⟩
  rcases h with h | ⟨g, off, e, hg, hc⟩
  · exact .inl h
  · exact .inr ⟨g, off, e, Nat.lt_of_lt_of_le hg l.size, fun j hj => by rw [l.cell (p := ⟨g, off + j, none⟩) hg]; exact hc j hj⟩
theorem strRow_own {w : World} {B : Nat} {v : Value} {xs : List ByteArray} (h : w.ownsRow B 9 1 v xs.length (xs.map Value.string)) (hv : v ≠ .slice none 0 0 ∨ xs = []) : StrRow w v xs := by
  rcases h.2 with ⟨rfl, h0⟩ | ⟨g, cap, cur, rfl, _, hb, _⟩
  · have : xs = [] := List.length_eq_zero_iff.1 h0
    subst this
    exact ⟨none, 0, rfl, .inl rfl⟩
  · refine ⟨_, cap, rfl, .inr ⟨g, 0, rfl, (Array.getElem?_eq_some_iff.1 hb).1, fun j hj => ?_⟩⟩
    rw [Nat.zero_add, h.cellAt j (by omega), List.getElem?_map, List.getElem?_eq_getElem hj]
    simp [List.getD, List.getElem?_eq_getElem hj]
set_option maxHeartbeats 800000 in
theorem eqS_same (va vb : Value) (xs : List ByteArray) (w : World) (ha : StrRow w va xs) (hb : StrRow w vb xs) (hn : xs.length ≤ 2000000) :
    Calls Try.prog 18 #[va, vb] w fun e w' => e = .returned (.bool true) ∧ Below w.heap.size w w' := by
  obtain ⟨a, c, rfl, ha⟩ := ha
  obtain ⟨a', c', rfl, hb⟩ := hb
  go_enter Try.func18, Try.ntmps18
  go_wp2
  go_loopw [5] (fun i wr => ∃ k n : Nat, k ≤ xs.length ∧ i = .int .i64 k ∧ wr = w.drewN n) (fun i _ => xs.length - (intOf i).toNat)
  case atStart => exact ⟨0, 0, Nat.zero_le _, rfl, rfl⟩
  case round =>
    obtain ⟨k, n, hk, rfl, rfl⟩ := hrel
    by_cases hlt : k < xs.length
    · rcases ha with h | ⟨g, off, rfl, _, hc⟩
      · subst h; simp at hlt
      rcases hb with h | ⟨g', off', rfl, _, hc'⟩
      · subst h; simp at hlt
      have h1 := hc k hlt
      have h2 := hc' k hlt
      have hlt' : (k : Int) < (xs.length : Int) := by omega
      clear hc hc'
      generalize xs.getD k ByteArray.empty = x at h1 h2
      go_wp2
      go_quiet (fail)
      go_wp2
      go_roundw
      case rel => exact ⟨k + 1, _, by omega, by go_num, rfl⟩
      case measure => simp [intOf]; omega
    · have hge : ¬ (k : Int) < (xs.length : Int) := by omega
      go_wp2
      go_ret
      exact ⟨rfl, below_drewN (Below.refl _ _) n⟩
/-- The text that the law writes at count k. -/
def markL (k : Nat) : List UInt8 := 109 :: Lib.decDigits k
def markB (k : Nat) : ByteArray := ⟨(markL k).toArray⟩
theorem dec_next (u : Nat) (h : 10 ≤ u) : Lib.decDigits u = Lib.decDigits (u / 10) ++ [UInt8.ofNat (48 + u % 10)] := by
  conv => lhs; rw [Lib.decDigits, dif_neg (by omega)]
theorem dec_len2 (u : Nat) (h : u ≤ 1000000000) : (Lib.decDigits u).length ≤ 20 := by
  rw [Lib.decDigits_length]; exact Lib.nDigits_le20 u (by omega)
def dgB (u : Nat) : UInt8 := UInt8.ofNat (48 + u % 10)
def strL (l : List UInt8) : ByteArray := ⟨l.toArray⟩
theorem cat_strL (x y : List UInt8) (hx : (x.length : Int) ≤ 8388608) (hy : (y.length : Int) ≤ 8388608) (w : World) : (Op.stringOp .add (strL x) (strL y)).run Try.prog w = .ok (.string (strL (x ++ y))) w :=
  run_string_add_lists (P := Try.prog) w x y hx hy
/-- What the loop of markText keeps. -/
def MarkAt (k0 u : Nat) (out : List UInt8) : Prop := (if u = 0 then out else Lib.decDigits u ++ out) = Lib.decDigits k0
theorem markAt_step {k0 u : Nat} {out : List UInt8} (h : MarkAt k0 u out) (hu : 0 < u) : MarkAt k0 (u / 10) ([dgB u] ++ out) := by
  show MarkAt k0 (u / 10) (UInt8.ofNat (48 + u % 10) :: out)
  unfold MarkAt at *
  rw [if_neg (by omega)] at h
  rw [← h]
  by_cases h10 : u < 10
  · rw [if_pos (by omega), Lib.decDigits_one h10, show u % 10 = u by omega]; rfl
  · rw [if_neg (by omega), dec_next u (by omega)]; simp
theorem markAt_len {k0 u : Nat} {out : List UInt8} (h : MarkAt k0 u out) (hk : k0 ≤ 1000000000) : (out.length : Int) ≤ 20 := by
  have hl := dec_len2 k0 hk
  unfold MarkAt at h
  rw [← h] at hl
  split at hl
  · omega
  · rw [List.length_append] at hl; omega
theorem infoU8 : (Try.prog.info? 5).map (fun i => (i.zero, i.size, i.bytes)) = some (some (.int .u8 0), 1, 1) := by kernel_rfl
theorem byte_nat (n : Nat) (h : n < 256) : ((UInt8.ofNat n).toNat : Int) = (n : Int) := by rw [UInt8.toNat_ofNat']; omega
theorem one_byte (c : UInt8) (w : World) : (convert 22 9 (.slice (some ⟨w.heap.size, 0, none⟩) 1 1)).run Try.prog (w.alloc (.cells #[.int .u8 (c.toNat : Int)] 5)) =
    .ok (.string (strL [c])) (w.alloc (.cells #[.int .u8 (c.toNat : Int)] 5)) :=
  run_convert_bytes_back (P := Try.prog) _ 22 9 5 ⟨w.heap.size, 0, none⟩ 1 [c] Try.underlying22 Try.underlying5 Try.underlying9 (fun j hj => by
    obtain rfl : j = 0 := by simpa using hj
    rw [Go.WideShapes.add_plain, Nat.zero_add, World.cell?_alloc_at _ _ _ _ rfl]; rfl)
set_option maxHeartbeats 800000 in
theorem markText_any (k0 : Nat) (w : World) (h1 : 1 ≤ k0) (h2 : k0 ≤ 1000000000) :
    Calls Try.prog 34 #[.int .i64 k0] w fun e w' => e = .returned (.string (markB k0)) ∧ Below w.heap.size w w' := by
  go_enter Try.func34, Try.ntmps34
  go_wp2
  go_loopw [0, 3] (fun x y wr => ∃ (u : Nat) (out : List UInt8), u ≤ k0 ∧ x = .int .i64 u ∧ y = .string (strL out) ∧ MarkAt k0 u out ∧ Below w.heap.size w wr) (fun x _ _ => (intOf x).toNat)
  case atStart => exact ⟨k0, [], Nat.le_refl _, rfl, rfl, by simp [MarkAt]; omega, Below.refl _ _⟩
  case round =>
    obtain ⟨u, out, hu, rfl, rfl, hm, hb⟩ := hrel
    have hl := markAt_len hm h2
    by_cases hpos : 0 < u
    · have HM := Lib.hid (markAt_step hm hpos)
      have hpos' : (0 : Int) < (u : Int) := by omega
      have hone := one_byte (dgB u) wr
      rw [show ((dgB u).toNat : Int) = ((48 + u % 10 : Nat) : Int) from byte_nat _ (by omega), show ((48 + u % 10 : Nat) : Int) = 48 + (u : Int) % 10 by omega] at hone
      have hcat := cat_strL [dgB u] out (by simp) (by omega)
      have hlt2 : 48 + (u : Int) % 10 ≤ 57 := by omega
      clear hm
      go_wp2
      go_roundw
      case rel => exact ⟨u / 10, _, by omega, by go_num, rfl, HM.out, hb.alloc hb.size _⟩
      case measure => simp [intOf]; omega
    · obtain rfl : u = 0 := by omega
      have HO := Lib.hid (show Lib.decDigits k0 = out from hm.symm)
      have hcat : ∀ w, (Op.stringOp .add ⟨#[109]⟩ (strL out)).run Try.prog w = .ok (.string (strL ([109] ++ out))) w := cat_strL [109] out (by simp) (by omega)
      clear hm
      go_wp2
      go_ret
      exact ⟨by unfold markB markL; rw [HO.out]; rfl, hb⟩
end Go.Proofs.Ytlmnkkodfnlbmaa
