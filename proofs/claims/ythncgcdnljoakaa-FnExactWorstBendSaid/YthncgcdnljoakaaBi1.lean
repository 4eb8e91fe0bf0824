/- The program's forces, shears and bends. -/
import Derived.Test.YthncgcdnljoakaaBm4
import Derived.Test.YthncgcdnljoakaaBmQ
import Derived.Test.YthncgcdnljoakaaRows1
import Derived.Deep.AppendLies
import Derived.Lib.SliceRun
namespace Go.Proofs.Ythncgcdnljoakaa
open Go.RowKit
theorem infoForce : (Try.prog.info? 87).map (fun i => (i.zero, i.size, i.bytes)) = some (some (.agg #[.int .i64 0, .int .i64 0]), 2, 16) := by kernel_rfl
/-- A row of forces in memory of the call's own. -/
def OwnF (w : World) (B : Nat) (v : Value) (xs : List (Int × Int)) : Prop := w.ownsRow B 87 2 v xs.length (cellsF xs)
theorem row_ownF {w : World} {B : Nat} {v : Value} {xs : List (Int × Int)} (h : OwnF w B v xs) : LoadRow w v xs := by
  have h' := h
  unfold OwnF at h'
  rcases h'.2 with ⟨rfl, h0⟩ | ⟨g, cap, cur, rfl, _, hb, _⟩
  · have : xs = [] := List.length_eq_zero_iff.1 h0
    subst this
    exact ⟨none, 0, rfl, .inl rfl⟩
  · refine ⟨_, cap, rfl, .inr ⟨g, 0, rfl, (Array.getElem?_eq_some_iff.1 hb).1, fun j hj => ?_⟩⟩
    have hc := cellsF_at xs j hj
    rw [Nat.zero_add, h'.cellAt (j * 2) (by omega), h'.cellAt (j * 2 + 1) (by omega)]
    exact hc
theorem ownF_snoc {w : World} {B k : Nat} {v : Value} {ys : List (Int × Int)} {p q : Int} (h : w.ownsRow B 87 2 v (k + 1) (cellsF ys ++ [.int .i64 p, .int .i64 q])) (hk : ys.length = k) : OwnF w B v (ys ++ [(p, q)]) := by
  unfold OwnF
  rw [List.length_append, hk, cellsF_app]
  exact h
theorem cel4_news {w : World} {g : Nat} {a b c d : Int} (h : Cel4 w g (.int .i64 a) (.int .i64 b) (.int .i64 c) (.int .i64 d)) : ∀ j u, (cellsF [(a, b), (c, d)])[j]? = some u → w.cell? ((⟨g, 0, none⟩ : Addr).add j) = some u := by
  intro j u hj
  rw [Go.WideShapes.add_plain, Nat.zero_add]
  obtain ⟨_, h0, h1, h2, h3⟩ := h
  match j, hj with
  | 0, hj => simp [cellsF] at hj; subst hj; exact h0
  | 1, hj => simp [cellsF] at hj; subst hj; exact h1
  | 2, hj => simp [cellsF] at hj; subst hj; exact h2
  | 3, hj => simp [cellsF] at hj; subst hj; exact h3
  | j + 4, hj => simp [cellsF] at hj
set_option maxRecDepth 100000 in
set_option maxHeartbeats 1600000 in
theorem cloneF_any (g : Nat) (a b c d : Int) (w : World) (h : Cel4 w g (.int .i64 a) (.int .i64 b) (.int .i64 c) (.int .i64 d)) :
    Calls Try.prog 131 #[.slice (some ⟨g, 0, none⟩) 2 2] w fun e w' => ∃ v, e = .returned v ∧ OwnF w' w.heap.size v [(a, b), (c, d)] ∧ Below w.heap.size w w' := by
  obtain ⟨i0, hi, hz0, hz1, hz2⟩ := info_parts infoForce
  have HN := Lib.hid (cel4_news (h.lo (below_new w (.cells #[] 87))))
  have hrow0 : (w.alloc (.cells #[] 87)).ownsRow w.heap.size 87 2 (.slice (some ⟨w.heap.size, 0, none⟩) 0 0) 0 (cellsF []) := World.ownsRow_lit w #[] 0 (Nat.le_refl _) (by decide) rfl
  have HE : ∀ u, (binOp .eql 97 (.slice (some ⟨g, 0, none⟩) 2 2) (.slice none 0 0)).run Try.prog u = .ok (.bool false) u := fun u => Lib.run_eql_slice_nil u _ _ _ _ _ _ _ Try.underlying97
  clear h
  go_enter Try.func131, Try.ntmps131
  go_wp2_with (at_builtin; refine wpList_append_lies _ rfl _ _ 97 rfl w.heap.size 87 i0 (.agg #[.int .i64 0, .int .i64 0]) 2 16 Try.underlying97 hi hz0 hz1 hz2 rfl (by decide) _ _ _ rfl hrow0 ⟨g, 0, none⟩ 2 2 (cellsF [(a, b), (c, d)]) rfl rfl HN.out (cellsF_one _) (by omega) (by unfold maxLen; omega) (by omega) (by simp) (w.heap.size + 1) (by simp) ?_; intro gg cap w3 hown3 hgrow3 hat3 hlt3)
  have O := Lib.hid (show OwnF w3 w.heap.size (.slice (some ⟨gg, 0, none⟩) 2 cap) [(a, b), (c, d)] from hown3)
  have LB := Lib.hid (show Below w.heap.size w w3 from (below_new w _).grown hgrow3 (by simp) (fun j hj => (hrow0.lt j hj).1))
  clear hown3 hgrow3 hat3 hlt3 hrow0
  go_wp2
  go_ret
  exact ⟨_, rfl, O.out, LB.out⟩
theorem fsK_len (p : BeamV) (xs : List (Int × Int)) (k : Nat) (h : k ≤ xs.length) : (fsK p xs k).length = 2 + k := by
  unfold fsK
  rw [List.length_cons, List.length_cons, List.length_map, List.length_take]
  omega
set_option maxRecDepth 100000 in
set_option maxHeartbeats 3200000 in
theorem allF_any (p : BeamV) (v : Value) (xs : List (Int × Int)) (w : World) (hr : LoadRow w v xs) (hf : OnF p xs) :
    Calls Try.prog 95 #[.agg #[.int .i64 p.l, .int .i64 p.a, .int .i64 p.b], v] w fun e w' => ∃ u, e = .returned u ∧ LoadRow w' u (fsF p xs) ∧ Below w.heap.size w w' := by
  obtain ⟨i0, hi, hz0, hz1, hz2⟩ := info_parts infoForce
  have S := Lib.hid (fun w1 (l : Below w.heap.size w w1) => supF_any p v xs w1 (hr.lo l) hf)
  have hlen := hf.row.short
  have h0 := hf.a0; have h1 := hf.ab; have h2 := hf.b1; have h3 := hf.l1
  have HX := Lib.hid (fun k (hk : k < xs.length) => (hf.row.each _ (mem_getD hk)))
  have HS := Lib.hid (fun k h => fsK_succ p xs k h)
  have HL := Lib.hid (fun k h => fsK_len p xs k h)
  have H0 := Lib.hid (show fsK p xs 0 = [(p.a, -momF p.b xs), (p.b, momF p.a xs)] from rfl)
  rw [← fsK_all]
  have HLD := Lib.hid (fun x : Int × Int => show ldF p x = (x.1, -x.2 * (p.b - p.a)) from rfl)
  generalize fsK p xs = F at *
  generalize ldF p = D at *
  generalize momF p.b xs = m at *
  generalize momF p.a xs = n at *
  clear hf
  obtain ⟨l, a, b⟩ := p
  simp only at *
  obtain ⟨av, cv, rfl, hr⟩ := hr
  obtain ⟨W, hW⟩ : ∃ W, w.alloc (.cells #[.int .i64 l, .int .i64 a, .int .i64 b] 25) = W := ⟨_, rfl⟩
  have LW := Lib.hid (show Below w.heap.size w W by rw [← hW]; exact below_new _ _)
  have BX := Lib.hid (show Cel3 W w.heap.size (.int .i64 l) (.int .i64 a) (.int .i64 b) by rw [← hW]; exact cel3_new _ _ _ _ _)
  obtain ⟨_, u0, u1, u2⟩ := BX.out
  have hws : w.heap.size < W.heap.size := BX.out.1
  go_enter Try.func95, Try.ntmps95
  go_wp2_with fail
  clear hW
  refine (S.out W LW.out).mono ?_
  rintro e w1 ⟨rfl, l1⟩
  obtain ⟨W2, hW2⟩ : ∃ W2, w1.alloc (.cells #[.int .i64 a, .int .i64 (-m), .int .i64 b, .int .i64 n] 88) = W2 := ⟨_, rfl⟩
  have L2 := Lib.hid (show Below W.heap.size W W2 by rw [← hW2]; exact lo_on l1 (below_new _ _))
  have BY := Lib.hid (show Cel4 W2 w1.heap.size (.int .i64 a) (.int .i64 (-m)) (.int .i64 b) (.int .i64 n) by rw [← hW2]; exact cel4_new _ _ _ _ _ _)
  have C := Lib.hid (cloneF_any w1.heap.size a (-m) b n W2 BY.out)
  clear l1 S u0 u1 u2
  go_wp2_with fail
  clear hW2
  refine C.out.mono ?_
  rintro e w3 ⟨u, rfl, ou, l3⟩
  have L3 := Lib.hid (lo_on L2.out l3)
  have hs2 := L2.out.size
  have O3 := Lib.hid (show w3.ownsRow W.heap.size 87 2 u 2 (cellsF (F 0)) by rw [H0.out]; rcases ou.2 with h | ⟨g, cap, cur, e1, hb, h4⟩; exact ⟨ou.1, .inl h⟩; exact ⟨ou.1, .inr ⟨g, cap, cur, e1, by omega, h4⟩⟩)
  clear l3 ou C BY L2 H0 hs2
  go_wp2
  go_loopw [6, 16] (fun u i wr => ∃ k : Nat, k ≤ xs.length ∧ i = .int .i64 k ∧ Hid (wr.ownsRow W.heap.size 87 2 u (2 + k) (cellsF (F k))) ∧ Hid (Below W.heap.size W wr)) (fun _ i _ => xs.length - (intOf i).toNat)
  case atStart => exact ⟨0, Nat.zero_le _, rfl, O3, L3⟩
  case round =>
    obtain ⟨k, hk, rfl, HO, HB⟩ := hrel
    clear O3 L3
    by_cases hlt : k < xs.length
    · rcases hr with h | ⟨g1, off, rfl, hgl, hcl⟩
      · subst h; simp at hlt
      obtain ⟨h1', h2'⟩ := hcl k hlt
      rw [← (lo_on LW.out HB.out).cell (p := ⟨g1, off + k * 2, none⟩) hgl] at h1'
      rw [← (lo_on LW.out HB.out).cell (p := ⟨g1, off + k * 2 + 1, none⟩) hgl] at h2'
      have hlt' : (k : Int) < (xs.length : Int) := by omega
      have hx := HX.out k hlt
      have HSk := Lib.hid (HS.out k hlt)
      have HLk := Lib.hid (HL.out k (by omega))
      generalize xs.getD k (0, 0) = x at h1' h2' hx HSk
      obtain ⟨x, q⟩ := x
      rw [HLD.out] at HSk
      simp only at h1' h2' hx HSk
      obtain ⟨⟨e0, e1⟩, q0, q1⟩ := hx
      obtain ⟨_, y0, y1, y2⟩ := (BX.out.lo HB.out).lo (below_new wr (.cells #[.int .i64 x, .int .i64 q] 78))
      have t0 : 0 ≤ q * (b - a) := Int.mul_nonneg (by omega) (by omega)
      have t1 : q * (b - a) ≤ q * 60 := Int.mul_le_mul_of_nonneg_left (by omega) (by omega)
      have hneg : -q * (b - a) = -(q * (b - a)) := Int.neg_mul _ _
      have T0 : -9223372036854775808 ≤ -q * (b - a) := by omega
      have T1 : -q * (b - a) ≤ 9223372036854775807 := by omega
      have HT := Lib.hid hneg
      have hown := ((HO.out.alloc (.cells #[.int .i64 x, .int .i64 q] 78)).alloc (.cells #[.int .i64 x, .int .i64 (-q * (b - a))] 87))
      have hgw := HB.out.size
      clear hcl hneg
      go_wp2_with (at_builtin; refine wpList_append_lies _ rfl _ _ 97 rfl W.heap.size 87 i0 (.agg #[.int .i64 0, .int .i64 0]) 2 16 Try.underlying97 hi hz0 hz1 hz2 rfl (by decide) _ _ _ rfl hown ⟨wr.heap.size + 1, 0, none⟩ 1 1 (cellsF [(x, -q * (b - a))]) rfl rfl (fun j u hj => by have := two_new (wr.alloc (.cells #[.int .i64 x, .int .i64 q] 78)) x (-q * (b - a)) 87 j u hj; simpa using this) (cellsF_one _) (by omega) (by unfold maxLen; omega) (by omega) (by simp; omega) (wr.heap.size + 1 + 1) (by simp) ?_; intro gg cap w4 hown4 hgrow4 hat4 hlt4)
      have HN := Lib.hid (show w4.ownsRow W.heap.size 87 2 (.slice (some ⟨gg, 0, none⟩) (2 + k + 1) cap) (2 + (k + 1)) (cellsF (F (k + 1))) by rw [HSk.out, cellsF_app]; exact hown4)
      have LB := Lib.hid (show Below W.heap.size W w4 from (lo_on HB.out (lo_on (below_new wr _) (below_new _ _))).grown hgrow4 (by simp; omega) (fun j hj => (hown.lt j hj).1))
      clear hown4 hgrow4 hat4 hlt4 hown HO HB y0 y1 y2 h1' h2'
      go_wp2
      go_roundw
      case rel => exact ⟨k + 1, by omega, by go_num, HN, LB⟩
      case measure => simp [intOf]; omega
    · obtain rfl : k = xs.length := by omega
      have hge : ¬ (xs.length : Int) < (xs.length : Int) := by omega
      have R := Lib.hid (row_ownF (B := W.heap.size) (show OwnF wr W.heap.size u6 (F xs.length) by unfold OwnF; rw [HL.out _ (Nat.le_refl _)]; exact HO.out))
      have LB := Lib.hid (lo_on LW.out HB.out)
      clear HO HB
      go_wp2
      go_ret
      exact ⟨_, rfl, R.out, LB.out⟩
set_option maxRecDepth 100000 in
set_option maxHeartbeats 1600000 in
theorem shearBehind_any (q : Int) (v : Value) (fs : List (Int × Int)) (w : World) (hr : LoadRow w v fs) (hf : FcF fs) :
    Calls Try.prog 88 #[.int .i64 q, v] w fun e w' => e = .returned (.int .i64 (shL q fs)) ∧ Below w.heap.size w w' := by
  obtain ⟨av, cv, rfl, hr⟩ := hr
  have HF := Lib.hid hf
  have hlen := hf.short
  have HT := Lib.hid (show shL q (fs.take fs.length) = shL q fs by rw [List.take_length])
  obtain ⟨T, hT⟩ : ∃ T, shL q fs = T := ⟨_, rfl⟩
  rw [hT] at HT ⊢
  clear hf hT
  go_enter Try.func88, Try.ntmps88
  go_wp2
  go_loopw [5, 10] (fun s i wr => ∃ k : Nat, k ≤ fs.length ∧ i = .int .i64 k ∧ s = .int .i64 (shL q (fs.take k)) ∧ Hid (Below w.heap.size w wr)) (fun _ i _ => fs.length - (intOf i).toNat)
  case atStart => exact ⟨0, Nat.zero_le _, rfl, by rw [List.take_zero]; rfl, Lib.hid (Below.refl _ _)⟩
  case round =>
    obtain ⟨k, hk, rfl, rfl, HB⟩ := hrel
    by_cases hlt : k < fs.length
    · rcases hr with h | ⟨g1, off, rfl, hgl, hcl⟩
      · subst h; simp at hlt
      obtain ⟨h1, h2⟩ := hcl k hlt
      rw [← HB.out.cell (p := ⟨g1, off + k * 2, none⟩) hgl] at h1
      rw [← HB.out.cell (p := ⟨g1, off + k * 2 + 1, none⟩) hgl] at h2
      have hlt' : (k : Int) < (fs.length : Int) := by omega
      have hb := (fcF_bounds (fcF_take HF.out k)).1 q
      have hb2 := (fcF_bounds (fcF_take HF.out (k + 1))).1 q
      have hs := sh_take q fs k hlt
      have hx := HF.out.each _ (mem_getD hlt)
      generalize fs.getD k (0, 0) = x at h1 h2 hs hx
      obtain ⟨x, z⟩ := x
      simp only at h1 h2 hs hx
      obtain ⟨⟨e0, e1⟩, f0, f1⟩ := hx
      obtain ⟨y, hy⟩ : ∃ y, shL q (fs.take k) = y := ⟨_, rfl⟩
      rw [hy] at hs hb ⊢
      rw [hs] at hb2
      have HY := Lib.hid hs
      obtain ⟨b0, b1⟩ := hb
      clear hcl hy hs
      have LB := Lib.hid (fun o => lo_on HB.out (below_new wr o))
      by_cases hc : x ≤ q
      · rw [if_pos hc] at HY hb2
        obtain ⟨c0, c1⟩ := hb2
        go_wp2
        go_roundw
        case rel => exact ⟨k + 1, by omega, by go_num, by rw [HY.out], Lib.hid (LB.out _)⟩
        case measure => simp [intOf]; omega
      · rw [if_neg hc] at HY hb2
        clear hb2
        go_wp2
        go_roundw
        case rel => exact ⟨k + 1, by omega, by go_num, by rw [HY.out, Int.add_zero], Lib.hid (LB.out _)⟩
        case measure => simp [intOf]; omega
    · obtain rfl : k = fs.length := by omega
      have hge : ¬ (fs.length : Int) < (fs.length : Int) := by omega
      rw [HT.out]
      go_wp2
      go_ret
      exact ⟨rfl, HB.out⟩
set_option maxRecDepth 100000 in
set_option maxHeartbeats 1600000 in
theorem bendAt_any (q : Int) (hq : q ≤ 60) (v : Value) (fs : List (Int × Int)) (w : World) (hr : LoadRow w v fs) (hf : FcF fs) :
    Calls Try.prog 90 #[.int .i64 q, v] w fun e w' => e = .returned (.int .i64 (bdL q fs)) ∧ Below w.heap.size w w' := by
  obtain ⟨av, cv, rfl, hr⟩ := hr
  have HF := Lib.hid hf
  have hlen := hf.short
  have HT := Lib.hid (show bdL q (fs.take fs.length) = bdL q fs by rw [List.take_length])
  obtain ⟨T, hT⟩ : ∃ T, bdL q fs = T := ⟨_, rfl⟩
  rw [hT] at HT ⊢
  clear hf hT
  go_enter Try.func90, Try.ntmps90
  go_wp2
  go_loopw [5, 10] (fun s i wr => ∃ k : Nat, k ≤ fs.length ∧ i = .int .i64 k ∧ s = .int .i64 (bdL q (fs.take k)) ∧ Hid (Below w.heap.size w wr)) (fun _ i _ => fs.length - (intOf i).toNat)
  case atStart => exact ⟨0, Nat.zero_le _, rfl, by rw [List.take_zero]; rfl, Lib.hid (Below.refl _ _)⟩
  case round =>
    obtain ⟨k, hk, rfl, rfl, HB⟩ := hrel
    by_cases hlt : k < fs.length
    · rcases hr with h | ⟨g1, off, rfl, hgl, hcl⟩
      · subst h; simp at hlt
      obtain ⟨h1, h2⟩ := hcl k hlt
      rw [← HB.out.cell (p := ⟨g1, off + k * 2, none⟩) hgl] at h1
      rw [← HB.out.cell (p := ⟨g1, off + k * 2 + 1, none⟩) hgl] at h2
      have hlt' : (k : Int) < (fs.length : Int) := by omega
      have hb := (fcF_bounds (fcF_take HF.out k)).2 q hq
      have hb2 := (fcF_bounds (fcF_take HF.out (k + 1))).2 q hq
      have hs := bd_take q fs k hlt
      have hx := HF.out.each _ (mem_getD hlt)
      generalize fs.getD k (0, 0) = x at h1 h2 hs hx
      obtain ⟨x, z⟩ := x
      simp only at h1 h2 hs hx
      obtain ⟨⟨e0, e1⟩, f0, f1⟩ := hx
      obtain ⟨y, hy⟩ : ∃ y, bdL q (fs.take k) = y := ⟨_, rfl⟩
      rw [hy] at hs hb ⊢
      rw [hs] at hb2
      have HY := Lib.hid hs
      obtain ⟨b0, b1⟩ := hb
      clear hcl hy hs
      have LB := Lib.hid (fun o => lo_on HB.out (below_new wr o))
      by_cases hc : x < q
      · rw [if_pos hc] at HY hb2
        obtain ⟨c0, c1⟩ := hb2
        have hm := mul_bound f0 f1 (show 0 ≤ q - x by omega) (by omega)
        have T0 : -9223372036854775808 ≤ z * (q - x) := by omega
        have T1 : z * (q - x) ≤ 9223372036854775807 := by omega
        have U0 : -9223372036854775808 ≤ y + z * (q - x) := by omega
        have U1 : y + z * (q - x) ≤ 9223372036854775807 := by omega
        go_wp2
        go_roundw
        case rel => exact ⟨k + 1, by omega, by go_num, by rw [HY.out], Lib.hid (LB.out _)⟩
        case measure => simp [intOf]; omega
      · rw [if_neg hc] at HY hb2
        clear hb2
        go_wp2
        go_roundw
        case rel => exact ⟨k + 1, by omega, by go_num, by rw [HY.out, Int.add_zero], Lib.hid (LB.out _)⟩
        case measure => simp [intOf]; omega
    · obtain rfl : k = fs.length := by omega
      have hge : ¬ (fs.length : Int) < (fs.length : Int) := by omega
      rw [HT.out]
      go_wp2
      go_ret
      exact ⟨rfl, HB.out⟩
end Go.Proofs.Ythncgcdnljoakaa
