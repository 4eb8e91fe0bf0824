/- The model's shears and bends of a beam. -/
import Derived.Test.YthncgcdnljoakaaBm5
import Derived.Deep.AppendLies
namespace Go.Proofs.Ythncgcdnljoakaa
open Go.RowKit
theorem icl_len (xs : List Int) : (icells xs).length = xs.length := by simp [icells]
theorem icl_get (xs : List Int) (j : Nat) (hj : j < xs.length) : (icells xs)[j]? = some (.int .i64 (xs.getD j 0)) := icells_at xs j hj
theorem owns_lo {w w' : World} {B : Nat} {e : TypeId} {s : Nat} {v : Value} {n : Nat} {xs : List Value} (h : w.ownsRow B e s v n xs) (l : Below w.heap.size w w') : w'.ownsRow B e s v n xs := by
  refine ⟨h.1, ?_⟩
  rcases h.2 with h2 | ⟨g, cap, cur, e1, hb, hg, h3⟩
  · exact .inl h2
  · refine .inr ⟨g, cap, cur, e1, hb, ?_, h3⟩
    rw [l.block g (Array.getElem?_eq_some_iff.1 hg).1]
    exact hg
theorem only_grow {V w u w' : World} {C : Nat} {row : Option Nat} (h : Only C V w) (l : Below w.heap.size w u) (hg : u.grownBy w' row) (hr : ∀ q, row = some q → q = C ∨ V.heap.size ≤ q) : Only C V w' := by
  refine ⟨hg.os.trans (l.os.trans h.os), hg.tape.trans (l.tape.trans h.tape), hg.output.trans (l.output.trans h.output), ?_, fun k hk hlt => ?_⟩
  · have := hg.size; have := h.size; have := l.size; omega
  · have h1 : k < w.heap.size := Nat.lt_of_lt_of_le hlt h.size
    rw [hg.block k (by have := l.size; omega) (fun e => by have := hr k e.symm; omega), l.block k h1, h.block k hk hlt]
/-- A row of ints that is being built: its block is C, or was made since V; of V's blocks C alone may have turned. -/
structure GrowI (V : World) (C B : Nat) (w : World) (v : Value) (xs : List Int) : Prop where
  own : OwnI w B v xs
  apart : ∀ q, v.ownBlock = some q → q = C ∨ V.heap.size ≤ q
  only : Only C V w
theorem GrowI.app {V w u w' : World} {C B k g cap : Nat} {v : Value} {ys : List Int} {x : Int} (h : GrowI V C B w v ys) (hk : ys.length = k) (hu : Below w.heap.size w u) (hg : u.grownBy w' v.ownBlock)
    (hown : w'.ownsRow B 3 1 (.slice (some ⟨g, 0, none⟩) (k + 1) cap) (k + 1) (icells ys ++ [.int .i64 x])) (hat : v.ownBlock = some g ∨ g = w.heap.size + 1) : GrowI V C B w' (.slice (some ⟨g, 0, none⟩) (k + 1) cap) (ys ++ [x]) := by
  refine ⟨ownI_snoc hown hk, fun q hq => ?_, only_grow h.only hu hg h.apart⟩
  have hq' : g = q := by simpa [Value.ownBlock] using hq
  subst hq'
  rcases hat with h1 | h1
  · exact h.apart g h1
  · right; have := h.only.size; omega
theorem GrowI.mine {V : World} {C B B' : Nat} {w : World} {v : Value} {xs : List Int} (h : GrowI V C B w v xs) (hB : B' ≤ B) : MineI w B' w.heap.size v xs := (mine_own h.own).mono hB (Nat.le_refl _) (Nat.le_refl _)
theorem GrowI.lo0 {V : World} {C B : Nat} {w : World} {v : Value} {xs : List Int} (h : GrowI V C B w v xs) {w0 : World} (l : Below w0.heap.size w0 V) (hC : w0.heap.size ≤ C) : Below w0.heap.size w0 w :=
  ⟨h.only.os.trans l.os, h.only.tape.trans l.tape, h.only.output.trans l.output, Nat.le_trans l.size h.only.size, fun k hk => (h.only.block k (by omega) (Nat.lt_of_lt_of_le hk l.size)).trans (l.block k hk)⟩
/-- A row of ints in a block of its own, opened. -/
theorem mineI_open {w : World} {B E : Nat} {v : Value} {xs : List Int} (h : MineI w B E v xs) (h1 : 0 < xs.length) : ∃ g c, v = .slice (some ⟨g, 0, none⟩) xs.length c ∧ B ≤ g ∧ g < E ∧ E ≤ w.heap.size ∧ (∀ j, j < xs.length → w.cell? ⟨g, j, none⟩ = some (.int .i64 (xs.getD j 0))) ∧ ∀ j, w.frozen? ⟨g, j, none⟩ = false := by
  rcases h with ⟨rfl, _⟩ | h
  · simp at h1
  · exact h
set_option maxRecDepth 100000 in
set_option maxHeartbeats 3200000 in
theorem l6Shears_any (p : BeamV) (L : Nat) (hL : p.l = (L : Int)) (v : Value) (xs : List (Int × Int)) (w : World) (hr : LoadRow w v xs) (hf : OnF p xs) :
    Calls Try.prog 86 #[.agg #[.int .i64 p.l, .int .i64 p.a, .int .i64 p.b], v] w fun e w' => ∃ u, e = .returned u ∧ MineI w' w.heap.size w'.heap.size u (rowOf (fun q : Nat => shL (q : Int) (fsF p xs)) L) ∧ Below w.heap.size w w' := by
  obtain ⟨i0, hi, hz0, hz1, hz2⟩ := info_parts infoInt
  have FO := Lib.hid (fun w1 (l : Below w.heap.size w w1) => l6Forces_any p L hL v xs w1 (hr.lo l) hf)
  have hl0 := hf.l0
  have hl1 := hf.l1
  have HP := fsF_fc hf
  have HZ := Lib.hid (sh_low (-1) (fsF p xs) (fun f hf => by have := HP.each f hf; omega))
  have HS := Lib.hid (fun k : Nat => show shL (k : Int) (fsF p xs) = shL ((k : Int) - 1) (fsF p xs) + atL (k : Int) (fsF p xs) by have := sh_step ((k : Int) - 1) (fsF p xs); rw [show (k : Int) - 1 + 1 = k by omega] at this; exact this)
  have HB := Lib.hid (fcF_bounds HP).1
  have HA := Lib.hid (fun q => by have := fsK_bound hf xs.length q; rw [fsK_all] at this; exact this)
  clear hr hf HP
  generalize fsF p xs = fs at *
  obtain ⟨l, a, b⟩ := p
  simp only at hL hl0 hl1 FO ⊢
  subst hL
  obtain ⟨W, hW⟩ : ∃ W, w.alloc (.cells #[.int .i64 (L : Int), .int .i64 a, .int .i64 b] 25) = W := ⟨_, rfl⟩
  have LW := Lib.hid (show Below w.heap.size w W by rw [← hW]; exact below_new _ _)
  have BX := Lib.hid (show Cel3 W w.heap.size (.int .i64 (L : Int)) (.int .i64 a) (.int .i64 b) by rw [← hW]; exact cel3_new _ _ _ _ _)
  have hws : w.heap.size < W.heap.size := BX.out.1
  obtain ⟨W1, hW1⟩ : ∃ W1, W.alloc (.cells #[] 3) = W1 := ⟨_, rfl⟩
  have L1 := Lib.hid (show Below W.heap.size W W1 by rw [← hW1]; exact below_new _ _)
  have hs1 : W1.heap.size = W.heap.size + 1 := by rw [← hW1]; simp
  have O1 := Lib.hid (show OwnI W1 W.heap.size (.slice (some ⟨W.heap.size, 0, none⟩) 0 0) [] by rw [← hW1]; exact ownI_lit0 _ _ (Nat.le_refl _))
  obtain ⟨_, u0, u1, u2⟩ := BX.out.lo L1.out
  go_enter Try.func86, Try.ntmps86
  go_wp2_with fail
  clear hW1 hW
  refine (FO.out W1 (lo_on LW.out L1.out)).mono ?_
  rintro e w2 ⟨fu, rfl, mf, l2⟩
  have hlen : (rowOf (fun q : Nat => atL (q : Int) fs) (L + 1)).length = L + 1 := rowOf_len _ _
  obtain ⟨g, c, rfl, hg1, hg2, _, hc, _⟩ := mineI_open mf (by rw [hlen]; omega)
  rw [hlen] at hc ⊢
  have HC := Lib.hid (fun j (hj : j < L + 1) => show w2.cell? ⟨g, j, none⟩ = some (.int .i64 (atL (j : Int) fs)) by rw [hc j hj, rowOf_at _ _ _ hj])
  have O2 := Lib.hid (show GrowI w2 W.heap.size W.heap.size w2 (.slice (some ⟨W.heap.size, 0, none⟩) 0 0) (rowOf (fun q : Nat => shL (q : Int) fs) 0) from ⟨owns_lo O1.out l2, fun q hq => .inl (by simpa [Value.ownBlock] using hq.symm), Only.refl _ _⟩)
  have L2 := Lib.hid (lo_on (lo_on LW.out L1.out) l2)
  have B2 := Lib.hid ((BX.out.lo L1.out).lo l2)
  have hgW : g ≠ W.heap.size := by omega
  clear l2 mf hc hlen u0 u1 u2 BX L1 O1 FO
  go_wp2
  go_loopw [5, 6, 8] (fun v s i wr => ∃ k : Nat, k ≤ L ∧ i = .int .i64 k ∧ s = .int .i64 (shL ((k : Int) - 1) fs) ∧ Hid (GrowI w2 W.heap.size W.heap.size wr v (rowOf (fun q : Nat => shL (q : Int) fs) k))) (fun _ _ i _ => L - (intOf i).toNat)
  case atStart => exact ⟨0, Nat.zero_le _, rfl, by rw [show ((0 : Nat) : Int) - 1 = -1 from rfl, HZ.out], O2⟩
  case round =>
    obtain ⟨k, hk, rfl, rfl, HG⟩ := hrel
    clear O2
    have x0 := HG.out.only.cell (p := ⟨w.heap.size, 0, none⟩) (by simp only; omega) B2.out.1
    rw [B2.out.2.1] at x0
    by_cases hlt : k < L
    · have hcf := HG.out.only.cell (p := ⟨g, k, none⟩) (by simp only; omega) hg2
      rw [HC.out k (by omega)] at hcf
      have hlt' : (k : Int) < (L : Int) := by omega
      have hlt2 : (k : Int) < (L : Int) + 1 := by omega
      have b1 := HB.out ((k : Int) - 1)
      have b2 := HA.out (k : Int)
      have HSk := Lib.hid (HS.out k)
      have hown := HG.out.own
      unfold OwnI at hown
      rw [rowOf_len] at hown
      have HK := Lib.hid (rowOf_succ (fun q : Nat => shL (q : Int) fs) k)
      have HL := Lib.hid (rowOf_len (fun q : Nat => shL (q : Int) fs) k)
      generalize rowOf (fun q : Nat => shL (q : Int) fs) k = ys at *
      generalize shL ((k : Int) - 1) fs = y at *
      generalize atL (k : Int) fs = z at *
      obtain ⟨y0, y1⟩ := b1
      obtain ⟨z0, z1⟩ := b2
      have hgw := HG.out.only.size
      go_wp2_with (at_builtin; refine wpList_append_lies _ rfl _ _ 38 rfl W.heap.size 3 i0 (.int .i64 0) 1 8 Try.underlying38 hi hz0 hz1 hz2 rfl (by decide) _ _ _ rfl (hown.alloc _) ⟨wr.heap.size, 0, none⟩ 1 1 [.int .i64 (y + z)] rfl rfl (cell_one_new _ _ _) (fun x hx => by simp at hx; subst hx; rfl) (by omega) (by unfold maxLen; omega) (by omega) (by simp; omega) (wr.heap.size + 1) (by simp) ?_; intro gg cap w3 hown3 hgrow3 hat3 hlt3)
      have HN := Lib.hid (HG.out.app HL.out (below_new _ _) hgrow3 hown3 hat3)
      clear hown3 hgrow3 hat3 hlt3 hown x0 hcf HG
      go_wp2
      go_roundw
      case rel => exact ⟨k + 1, by omega, by go_num, by rw [show ((k + 1 : Nat) : Int) - 1 = (k : Int) by omega, HSk.out], by rw [HK.out, HSk.out]; exact HN⟩
      case measure => simp [intOf]; omega
    · obtain rfl : k = L := by omega
      have hge : ¬ (k : Int) < (k : Int) := by omega
      have M := Lib.hid (HG.out.mine (show w.heap.size ≤ W.heap.size by omega))
      have LE := Lib.hid (HG.out.lo0 L2.out (show w.heap.size ≤ W.heap.size by omega))
      clear HG
      go_wp2
      go_ret
      exact ⟨_, rfl, M.out, LE.out⟩
end Go.Proofs.Ythncgcdnljoakaa
