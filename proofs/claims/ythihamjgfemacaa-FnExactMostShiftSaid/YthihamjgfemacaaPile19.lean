/- The greatest shift: the program's. -/
import Derived.Test.YthihamjgfemacaaPile18
import Derived.Test.YthihamjgfemacaaPile8
namespace Go.Proofs.Ythihamjgfemacaa
open Go.RowKit
noncomputable def shG (p : PileV) (x : Int) : Bool := firmB (keptP (pileB p && shiftB x) (movedP p x))
set_option maxRecDepth 100000 in
set_option maxHeartbeats 1600000 in
theorem mostClo_any (p : PileV) (b : Nat) (a c : Option Addr) (d f : Nat) (x : Int) (w : World) (hb : Box3 w b (.int .i64 p.wd) (.slice a p.ls.length d) (.slice c p.ws.length f)) (hv : PileRow w (.agg #[.int .i64 p.wd, .slice a p.ls.length d, .slice c p.ws.length f]) p) (hs : SmallP p) :
    Calls Try.prog 116 #[.int .i64 x, .pointer (some ⟨b, 0, none⟩)] w fun e w' => e = .returned (.bool (shG p x)) ∧ Below w.heap.size w w' := by
  have SH := Lib.hid (shift_any _ p x w hv hs)
  unfold MadeP at SH
  obtain ⟨q, hq⟩ : ∃ q, keptP (pileB p && shiftB x) (movedP p x) = q := ⟨_, rfl⟩
  have HQ := Lib.hid (show SmallP q by rw [← hq]; exact keptP_small _ _)
  have HG := Lib.hid (show shG p x = firmB q by unfold shG; rw [hq])
  rw [hq] at SH
  obtain ⟨g, hgf⟩ : ∃ g, firmB q = g := ⟨_, rfl⟩
  have HGF := Lib.hid hgf
  rw [HG.out, hgf]
  clear hgf
  generalize (pileB p && shiftB x && pileB (movedP p x)) = r at SH
  clear hq HG hv hs
  obtain ⟨_, u0, u1, u2⟩ := hb
  go_enter Try.func116, Try.ntmps116
  go_wp2_with fail
  refine SH.out.mono ?_
  rintro e w1 ⟨u, rfl, hu, hcap, l1⟩
  obtain ⟨ka, kb, kc, kd, rfl⟩ := hu.row.form
  have HU := Lib.hid hu
  have L1 := Lib.hid l1
  clear hu l1 SH u0 u1 u2
  obtain ⟨W3, hW3⟩ : ∃ W, w1.alloc (.cells #[.int .i64 q.wd, .slice ka q.ls.length kc, .slice kb q.ws.length kd] 63) = W := ⟨_, rfl⟩
  have l3 : Below w1.heap.size w1 W3 := by rw [← hW3]; exact (Below.refl _ _).alloc (Nat.le_refl _) _
  have BZ := Lib.hid (show Box3 W3 w1.heap.size (.int .i64 q.wd) (.slice ka q.ls.length kc) (.slice kb q.ws.length kd) by rw [← hW3]; exact box3_new _ _ _ _ _)
  have SF := Lib.hid (standsFirm_any _ q W3 (HU.out.lo l3).row hcap HQ.out)
  have L3 := Lib.hid (lo_on L1.out l3)
  rw [HGF.out] at SF
  generalize pileB q = t at SF
  clear l3 hcap HU
  obtain ⟨_, u0, u1, u2⟩ := BZ.out
  go_wp2_with fail
  clear hW3 u0 u1 u2
  refine SF.out.mono ?_
  rintro e w5 ⟨rfl, l5⟩
  have L5 := Lib.hid (lo_on L3.out l5)
  clear l5 SF
  go_wp2
  go_ret
  exact ⟨rfl, L5.out⟩
set_option maxRecDepth 100000 in
set_option maxHeartbeats 1600000 in
theorem mostShift_any (v : Value) (p : PileV) (w : World) (hv : PileRow w v p) (hs : SmallP p) :
    Calls Try.prog 73 #[v] w fun e w' => e = .returned (.tuple #[.int .i64 (spanS (shG p) 199).2.1, .bool (spanS (shG p) 199).2.2]) ∧ Below w.heap.size w w' := by
  obtain ⟨a, b, c, d, rfl⟩ := hv.form
  obtain ⟨W, hW⟩ : ∃ W, w.alloc (.cells #[.int .i64 p.wd, .slice a p.ls.length c, .slice b p.ws.length d] 63) = W := ⟨_, rfl⟩
  have LW := Lib.hid (show Below w.heap.size w W by rw [← hW]; exact (Below.refl _ _).alloc (Nat.le_refl _) _)
  have BX := Lib.hid (show Box3 W w.heap.size (.int .i64 p.wd) (.slice a p.ls.length c) (.slice b p.ws.length d) by rw [← hW]; exact box3_new _ _ _ _ _)
  have SP := Lib.hid (spanOf_1 w.heap.size (shG p) W (fun x w1 _ _ l => mostClo_any p w.heap.size a b c d x w1 (BX.out.lo l) ((hv.lo LW.out).lo l) hs))
  generalize spanS (shG p) 199 = s at *
  clear hv hs
  go_enter Try.func73, Try.ntmps73
  go_wp2_with fail
  clear hW
  refine SP.out.mono ?_
  rintro e w1 ⟨rfl, l1⟩
  have L1 := Lib.hid (lo_on LW.out l1)
  clear l1 SP
  go_wp2
  go_ret2
  exact ⟨rfl, L1.out⟩
end Go.Proofs.Ythihamjgfemacaa
