/- The contracts of the cursor that draws from bytes: all that they write is the cursor's own block. -/
import Derived.Test.YtpklccpkgefniaaRows
import Derived.WalkKit
import Derived.Lib.Hide
import Derived.Deep.QuietTactic
import Derived.BigQuiet
import Derived.WalkSmall
import Derived.Test.YtpklccpkgefniaaCurPlain
import Derived.Test.YtpklccpkgefniaaOnly
namespace Go.Proofs.Ytpklccpkgefniaa
open Go.RowKit
/-- The cursor's three cells in block C. -/
structure CurAt (w : World) (C : Nat) (cv : Value) (p seed : Int) : Prop where
  code : w.cell? ⟨C, 0, none⟩ = some cv
  place : w.cell? ⟨C, 1, none⟩ = some (.int .i64 p)
  seed : w.cell? ⟨C, 2, none⟩ = some (.int .u64 seed)
  free1 : w.frozen? ⟨C, 1, none⟩ = false
  free2 : w.frozen? ⟨C, 2, none⟩ = false
/-- The code that came in can be read: each of its cells holds a byte, in a block below B. -/
def CodeAt (w : World) (B : Nat) (a : Option Addr) (len : Nat) : Prop :=
  len = 0 ∨ ∃ b off, a = some ⟨b, off, none⟩ ∧ b < B ∧ ∀ i, i < len → ∃ z : Int, w.cell? ⟨b, off + i, none⟩ = some (.int .u8 z) ∧ 0 ≤ z ∧ z ≤ 255
theorem CodeAt.on {w w' : World} {B B' : Nat} {a : Option Addr} {len : Nat} (h : CodeAt w B a len) (hb : Below B' w w') (hle : B ≤ B') : CodeAt w' B a len := by
  rcases h with h | ⟨b, off, e, hlt, hc⟩
  · exact .inl h
  · refine .inr ⟨b, off, e, hlt, fun i hi => ?_⟩
    obtain ⟨z, hz, r⟩ := hc i hi
    exact ⟨z, by rw [hb.cell (p := ⟨b, off + i, none⟩) (show b < B' by omega)]; exact hz, r⟩
theorem CurAt.drewN {w : World} {C : Nat} {cv : Value} {p seed : Int} (h : CurAt w C cv p seed) (n : Nat) : CurAt (w.drewN n) C cv p seed := ⟨h.code, h.place, h.seed, h.free1, h.free2⟩
theorem CurAt.stored {w : World} {C : Nat} {cv : Value} {p seed : Int} (h : CurAt w C cv p seed) (p' seed' : Int) :
    CurAt ((w.setCell ⟨C, 1, none⟩ (.int .i64 p')).setCell ⟨C, 2, none⟩ (.int .u64 seed')) C cv p' seed' := by
  obtain ⟨h0, h1, h2, f1, f2⟩ := h
  have n12 : (⟨C, 1, none⟩ : Addr) ≠ ⟨C, 2, none⟩ := by simp
  have n10 : (⟨C, 1, none⟩ : Addr) ≠ ⟨C, 0, none⟩ := by simp
  have n20 : (⟨C, 2, none⟩ : Addr) ≠ ⟨C, 0, none⟩ := by simp
  have n21 : (⟨C, 2, none⟩ : Addr) ≠ ⟨C, 1, none⟩ := by simp
  have e1 : (w.setCell ⟨C, 1, none⟩ (.int .i64 p')).cell? ⟨C, 2, none⟩ = some (.int .u64 seed) := by rw [World.cell?_setCell_other (h := n12)]; exact h2
  refine ⟨?_, ?_, ?_, ?_, ?_⟩
  · rw [World.cell?_setCell_other (h := n20), World.cell?_setCell_other (h := n10)]; exact h0
  · rw [World.cell?_setCell_other (h := n21)]; exact World.cell?_setCell_same' _ _ _ (by rw [h1]; rfl)
  · exact World.cell?_setCell_same' _ _ _ (by rw [e1]; rfl)
  · rw [World.frozen?_setCell, World.frozen?_setCell]; exact f1
  · rw [World.frozen?_setCell, World.frozen?_setCell]; exact f2
theorem only_stored (w : World) (C : Nat) (x y : Value) : Only C w ((w.setCell ⟨C, 1, none⟩ x).setCell ⟨C, 2, none⟩ y) := by
  have b := ((Below.refl C w).setCell (p := ⟨C, 1, none⟩) (Nat.le_refl _) x).setCell (p := ⟨C, 2, none⟩) (Nat.le_refl _) y
  exact ⟨b.os, b.tape, b.output, b.size, fun k hk _ => by rw [Below.heap_setCell _ _ _ _ hk, Below.heap_setCell _ _ _ _ hk]⟩
/-- What a call of next ends in. -/
def NextEnd (C : Nat) (cv : Value) (p : Int) (w : World) (e : Ending) (w' : World) : Prop :=
  ∃ (x seed' : Int), e = .returned (.int .i64 x) ∧ 0 ≤ x ∧ x ≤ 255 ∧ CurAt w' C cv (p + 1) seed' ∧ Only C w w'
theorem next_done {w : World} {C : Nat} {cv : Value} {p seed : Int} (h : Hid (CurAt w C cv p seed)) (n k : Nat) (z seed' : Int) (z0 : 0 ≤ z) (z1 : z ≤ 255) :
    NextEnd C cv p w (.returned (.int .i64 z)) ((((w.drewN n).setCell ⟨C, 1, none⟩ (.int .i64 (p + 1))).setCell ⟨C, 2, none⟩ (.int .u64 seed')).drewN k) :=
  ⟨z, seed', rfl, z0, z1, ((h.out.drewN n).stored (p + 1) seed').drewN k, (((Only.refl _ _).drewN _).trans (only_stored _ _ _ _)).drewN _⟩
set_option maxRecDepth 100000 in
set_option maxHeartbeats 800000 in
theorem next_in (C B : Nat) (a : Option Addr) (len cap : Nat) (p : Nat) (seed : Int) (w : World) (h : CurAt w C (.slice a len cap) p seed) (hcode : CodeAt w B a len) (hp : p ≤ 1000000) (hlt : p < len) :
    Calls Try.prog 197 #[.pointer (some ⟨C, 0, none⟩)] w (NextEnd C (.slice a len cap) p w) := by
  have H := Lib.hid h
  obtain ⟨h0, h1, h2, f1, f2⟩ := h
  rcases hcode with hz | ⟨b, off, rfl, hb, hc⟩
  · omega
  obtain ⟨z, hz, z0, z1⟩ := hc p hlt
  clear hc
  have hlt' : (p : Int) < (len : Int) := by omega
  go_enter Try.func197, Try.ntmps197
  go_wp2
  go_quiet (fail)
  go_wp2
  go_quiet (fail)
  go_wp2
  go_quiet (fail)
  go_wp2
  go_ret
  exact next_done H _ _ z _ z0 z1
set_option maxRecDepth 100000 in
set_option maxHeartbeats 800000 in
theorem next_out (C : Nat) (a : Option Addr) (len cap : Nat) (p : Nat) (seed : Int) (w : World) (h : CurAt w C (.slice a len cap) p seed) (hp : p ≤ 1000000) (hge : len ≤ p) :
    Calls Try.prog 197 #[.pointer (some ⟨C, 0, none⟩)] w (NextEnd C (.slice a len cap) p w) := by
  have H := Lib.hid h
  obtain ⟨h0, h1, h2, f1, f2⟩ := h
  have hge' : (len : Int) ≤ (p : Int) := by omega
  go_enter Try.func197, Try.ntmps197
  go_wp2
  go_quiet (fail)
  go_wp2
  go_quiet (fail)
  go_wp2
  go_ret
  exact next_done H _ _ _ _ (draw255 _).1 (draw255 _).2
/-- The same wherever the cursor stands. -/
theorem next_any (C B : Nat) (a : Option Addr) (len cap : Nat) (p : Nat) (seed : Int) (w : World) (h : CurAt w C (.slice a len cap) p seed) (hcode : CodeAt w B a len) (hp : p ≤ 1000000) :
    Calls Try.prog 197 #[.pointer (some ⟨C, 0, none⟩)] w (NextEnd C (.slice a len cap) p w) := by
  by_cases hlt : p < len
  · exact next_in C B a len cap p seed w h hcode hp hlt
  · exact next_out C a len cap p seed w h hp (by omega)
/-- What a call of pick ends in: a number below n, the cursor two places on at most. -/
def PickEnd (C : Nat) (cv : Value) (p : Nat) (n : Int) (w : World) (e : Ending) (w' : World) : Prop :=
  ∃ (x seed' : Int) (p' : Nat), e = .returned (.int .i64 x) ∧ 0 ≤ x ∧ x < n ∧ p' ≤ p + 2 ∧ CurAt w' C cv p' seed' ∧ Only C w w'
set_option maxHeartbeats 800000 in
theorem pick_any (C B : Nat) (a : Option Addr) (len cap : Nat) (p : Nat) (seed n : Int) (w : World) (h : CurAt w C (.slice a len cap) p seed) (hcode : CodeAt w B a len) (hBC : B ≤ C) (hC : C ≤ w.heap.size) (hp : p ≤ 900000) (hn : 1 ≤ n) (hn2 : n ≤ 1000000) :
    Calls Try.prog 141 #[.pointer (some ⟨C, 0, none⟩), .int .i64 n] w (PickEnd C (.slice a len cap) p n w) := by
  by_cases n1 : n ≤ 1
  · obtain rfl : n = 1 := by omega
    go_enter Try.func141, Try.ntmps141
    go_wp2
    go_ret
    exact ⟨0, seed, p, rfl, by omega, by omega, by omega, h, Only.refl _ _⟩
  · have NX := Lib.hid (next_any C B a len cap p seed w h hcode (by omega))
    have HC := Lib.hid hcode
    clear h hcode
    by_cases n2 : 200 < n
    · go_enter Try.func141, Try.ntmps141
      go_wp2_with fail
      refine NX.out.mono ?_
      rintro e w1 ⟨x, s1, rfl, x0, x1, hc1, b1⟩
      have NX2 := Lib.hid (next_any C B a len cap (p + 1) s1 w1 hc1 (HC.out.on (b1.below hC) hBC) (by omega))
      clear hc1
      go_wp2_with fail
      refine NX2.out.mono ?_
      rintro e w2 ⟨y, s2, rfl, y0, y1, hc2, b2⟩
      go_wp2
      go_ret
      exact ⟨_, s2, p + 2, rfl, Int.emod_nonneg _ (by omega), Int.emod_lt_of_pos _ (by omega), by omega, hc2, b1.trans b2⟩
    · go_enter Try.func141, Try.ntmps141
      go_wp2_with fail
      refine NX.out.mono ?_
      rintro e w1 ⟨x, s1, rfl, x0, x1, hc1, b1⟩
      go_wp2
      go_ret
      exact ⟨_, s1, p + 1, rfl, Int.emod_nonneg _ (by omega), Int.emod_lt_of_pos _ (by omega), by omega, hc1, b1⟩
theorem one_any (C B : Nat) (a : Option Addr) (len cap : Nat) (p : Nat) (seed n : Int) (w : World) (h : CurAt w C (.slice a len cap) p seed) (hcode : CodeAt w B a len) (hBC : B ≤ C) (hC : C ≤ w.heap.size) (hp : p ≤ 900000) (hn : 1 ≤ n) (hn2 : n ≤ 1000000) :
    Calls Try.prog 140 #[.pointer (some ⟨C, 0, none⟩), .int .i64 n] w fun e w' =>
      ∃ (x : Bool) (seed' : Int) (p' : Nat), e = .returned (.bool x) ∧ p' ≤ p + 2 ∧ CurAt w' C (.slice a len cap) p' seed' ∧ Only C w w' := by
  have NX := Lib.hid (pick_any C B a len cap p seed n w h hcode hBC hC hp hn hn2)
  clear h hcode
  go_enter Try.func140, Try.ntmps140
  go_wp2_with fail
  refine NX.out.mono ?_
  rintro e w1 ⟨x, s1, p1, rfl, x0, x1, hp1, hc1, b1⟩
  go_wp2
  go_ret
  exact ⟨_, s1, p1, rfl, hp1, hc1, b1⟩
theorem among_any (C B L : Nat) (a : Option Addr) (len cap : Nat) (p n c : Nat) (seed : Int) (w : World) (T : Int → Prop) (h : CurAt w C (.slice a len cap) p seed) (hcode : CodeAt w B a len) (hBC : B ≤ C) (hC : C ≤ w.heap.size) (hp : p ≤ 900000) (hn : 1 ≤ n) (hn2 : n ≤ 1000000)
    (hL : L ≠ C) (hL2 : L < w.heap.size) (hT : ∀ j, j < n → ∃ t, w.cell? ⟨L, j, none⟩ = some (.int .i64 t) ∧ T t) :
    Calls Try.prog 142 #[.pointer (some ⟨C, 0, none⟩), .slice (some ⟨L, 0, none⟩) n c] w fun e w' =>
      ∃ (t : Int) (seed' : Int) (p' : Nat), e = .returned (.int .i64 t) ∧ T t ∧ p' ≤ p + 2 ∧ CurAt w' C (.slice a len cap) p' seed' ∧ Only C w w' := by
  have NX := Lib.hid (pick_any C B a len cap p seed n w h hcode hBC hC hp (by omega) (by omega))
  clear h hcode
  go_enter Try.func142, Try.ntmps142
  go_wp2_with fail
  refine NX.out.mono ?_
  rintro e w1 ⟨x, s1, p1, rfl, x0, x1, hp1, hc1, b1⟩
  obtain ⟨j, rfl⟩ := Int.eq_ofNat_of_zero_le x0
  obtain ⟨t, ht, hTt⟩ := hT j (by omega)
  have ht1 : w1.cell? ⟨L, j, none⟩ = some (.int .i64 t) := by rw [b1.cell (p := ⟨L, j, none⟩) hL hL2]; exact ht
  clear hT ht
  go_wp2
  go_ret
  exact ⟨t, s1, p1, rfl, hTt, hp1, hc1, b1⟩
end Go.Proofs.Ytpklccpkgefniaa
