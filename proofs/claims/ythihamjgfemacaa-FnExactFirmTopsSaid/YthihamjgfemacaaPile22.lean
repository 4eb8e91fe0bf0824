/- The places of a further brick: the program's. -/
import Derived.Test.YthihamjgfemacaaPile18
import Derived.Test.YthihamjgfemacaaPile21
import Derived.Test.YthihamjgfemacaaPile8
namespace Go.Proofs.Ythihamjgfemacaa
open Go.RowKit
noncomputable def tpG (p : PileV) (z x : Int) : Bool := firmB (keptP (pileB p) (topP p x z))
set_option maxRecDepth 100000 in
set_option maxHeartbeats 1600000 in
theorem topClo_any (p : PileV) (b g : Nat) (a c : Option Addr) (d f : Nat) (x z : Int) (w : World) (hb : Box3 w b (.int .i64 p.wd) (.slice a p.ls.length d) (.slice c p.ws.length f)) (hz : w.cell? ⟨g, 0, none⟩ = some (.int .i64 z)) (hv : PileRow w (.agg #[.int .i64 p.wd, .slice a p.ls.length d, .slice c p.ws.length f]) p) (hs : SmallP p) :
    Calls Try.prog 119 #[.int .i64 x, .pointer (some ⟨b, 0, none⟩), .pointer (some ⟨g, 0, none⟩)] w fun e w' => e = .returned (.bool (tpG p z x)) ∧ Below w.heap.size w w' := by
  have SH := Lib.hid (topLoad_any _ p x z w hv hs)
  unfold MadeP at SH
  obtain ⟨q, hq⟩ : ∃ q, keptP (pileB p) (topP p x z) = q := ⟨_, rfl⟩
  have HQ := Lib.hid (show SmallP q by rw [← hq]; exact keptP_small _ _)
  have HG := Lib.hid (show tpG p z x = firmB q by unfold tpG; rw [hq])
  rw [hq] at SH
  obtain ⟨h, hgf⟩ : ∃ g, firmB q = g := ⟨_, rfl⟩
  have HGF := Lib.hid hgf
  rw [HG.out, hgf]
  clear hgf
  generalize (pileB p && pileB (topP p x z)) = r at SH
  clear hq HG hv hs
  obtain ⟨_, u0, u1, u2⟩ := hb
  go_enter Try.func119, Try.ntmps119
  go_wp2_with fail
  refine SH.out.mono ?_
  rintro e w1 ⟨u, rfl, hu, hcap, l1⟩
  obtain ⟨ka, kb, kc, kd, rfl⟩ := hu.row.form
  have HU := Lib.hid hu
  have L1 := Lib.hid l1
  clear hu l1 SH u0 u1 u2 hz
  obtain ⟨W3, hW3⟩ : ∃ W, w1.alloc (.cells #[.int .i64 q.wd, .slice ka q.ls.length kc, .slice kb q.ws.length kd] 63) = W := ⟨_, rfl⟩
  have l3 : Below w1.heap.size w1 W3 := by rw [← hW3]; exact (Below.refl _ _).alloc (Nat.le_refl _) _
  have BZ := Lib.hid (show Box3 W3 w1.heap.size (.int .i64 q.wd) (.slice ka q.ls.length kc) (.slice kb q.ws.length kd) by rw [← hW3]; exact box3_new _ _ _ _ _)
  have SF := Lib.hid (standsFirm_any _ q W3 (HU.out.lo l3).row hcap HQ.out)
  have L3 := Lib.hid (lo_on L1.out l3)
  rw [HGF.out] at SF
  generalize pileB q = t at SF
  clear l3 hcap HU
  obtain ⟨_, u0, u1, u2⟩ := BZ.out
  go_wp2_with fail
  clear hW3 u0 u1 u2
  refine SF.out.mono ?_
  rintro e w5 ⟨rfl, l5⟩
  have L5 := Lib.hid (lo_on L3.out l5)
  clear l5 SF
  go_wp2
  go_ret
  exact ⟨rfl, L5.out⟩
noncomputable def ftV (p : PileV) (z : Int) : Int × Int × Bool := if firmB p = true then spanS (tpG p z) 199 else (0, 0, false)
set_option maxRecDepth 100000 in
set_option maxHeartbeats 1600000 in
theorem firmTops_any (v : Value) (p : PileV) (z : Int) (w : World) (hv : PileRow w v p) (hc : PileCap v) (hs : SmallP p) :
    Calls Try.prog 75 #[v, .int .i64 z] w fun e w' => e = .returned (.tuple #[.int .i64 (ftV p z).1, .int .i64 (ftV p z).2.1, .bool (ftV p z).2.2]) ∧ Below w.heap.size w w' := by
  obtain ⟨a, b, c, d, rfl⟩ := hv.form
  obtain ⟨W, hW⟩ : ∃ W, (w.alloc (.cells #[.int .i64 p.wd, .slice a p.ls.length c, .slice b p.ws.length d] 63)).alloc (.cells #[.int .i64 z] 3) = W := ⟨_, rfl⟩
  have LW := Lib.hid (show Below w.heap.size w W by rw [← hW]; exact ((Below.refl _ _).alloc (Nat.le_refl _) _).alloc (by simp) _)
  have BX := Lib.hid (show Box3 W w.heap.size (.int .i64 p.wd) (.slice a p.ls.length c) (.slice b p.ws.length d) by rw [← hW]; exact (box3_new _ _ _ _ _).lo ((Below.refl _ _).alloc (Nat.le_refl _) _))
  have hsz : W.heap.size = w.heap.size + 2 := by rw [← hW]; simp
  have CZ := Lib.hid (show W.cell? ⟨w.heap.size + 1, 0, none⟩ = some (.int .i64 z) by rw [← hW, World.cell?_alloc_at _ _ _ _ (by simp)]; rfl)
  have SF := Lib.hid (standsFirm_any _ p W (hv.lo LW.out) hc hs)
  have SP := Lib.hid (fun W1 (l1 : Below W.heap.size W W1) => spanOf_2 w.heap.size (w.heap.size + 1) (tpG p z) W1 (fun x w1 _ _ l => topClo_any p w.heap.size (w.heap.size + 1) a b c d x z w1 ((BX.out.lo l1).lo l) ((l.cell (p := ⟨w.heap.size + 1, 0, none⟩) (by have := l1.size; simp only; omega)).trans ((l1.cell (p := ⟨w.heap.size + 1, 0, none⟩) (by simp only; omega)).trans CZ.out)) (((hv.lo LW.out).lo l1).lo l) hs))
  generalize pileB p = t at SF
  unfold ftV
  generalize spanS (tpG p z) 199 = s at *
  generalize firmB p = h at *
  clear hv hs hc hsz
  obtain ⟨_, u0, u1, u2⟩ := BX.out
  cases h with
  | false =>
    go_enter Try.func75, Try.ntmps75
    go_wp2_with fail
    clear hW u0 u1 u2
    refine SF.out.mono ?_
    rintro e w1 ⟨rfl, l1⟩
    have L1 := Lib.hid (lo_on LW.out l1)
    clear l1 SF SP
    go_wp2
    exact bodyPost_ret (v := .tuple #[.int .i64 0, .int .i64 0, .bool false]) (by simp [results, Try.results75, go_sem]) rfl ⟨rfl, L1.out⟩
  | true =>
    go_enter Try.func75, Try.ntmps75
    go_wp2_with fail
    clear hW u0 u1 u2
    refine SF.out.mono ?_
    rintro e w1 ⟨rfl, l1⟩
    have L1 := Lib.hid (lo_on LW.out l1)
    have SP1 := Lib.hid (SP.out w1 l1)
    clear l1 SF SP
    go_wp2_with fail
    refine SP1.out.mono ?_
    rintro e w2 ⟨rfl, l2⟩
    have L2 := Lib.hid (lo_on L1.out l2)
    clear l2 SP1
    go_wp2
    exact bodyPost_ret (v := .tuple #[.int .i64 s.1, .int .i64 s.2.1, .bool s.2.2]) (by simp [results, Try.results75, go_sem]) rfl ⟨rfl, L2.out⟩
end Go.Proofs.Ythihamjgfemacaa
