/- The model's bends of a beam. -/
import Derived.Test.YthncgcdnljoakaaBm6
namespace Go.Proofs.Ythncgcdnljoakaa
open Go.RowKit
/-- What append leaves of the row that it was given: its cells stay. -/
theorem run_app_keep {P : Program} (w : World) (t ty : TypeId) (base : Nat) (e : TypeId) (i : TypeInfo) (z : Value) (size bytes : Nat) (ht : P.underlying t = some (.slice e)) (hi : P.info? e = some i) (hz : i.zero = some z)
    (hsize : i.size = size) (hby : i.bytes = bytes) (hzs : z.cells.size = size) (hsz : 0 < size)
    (v : Value) (n : Nat) (xs : List Value) (hown : w.ownsRow base e size v n xs)
    (ad : Addr) (m c : Nat) (news : List Value) (hl : news.length = m * size) (hnews : ∀ j u, news[j]? = some u → w.cell? (ad.add j) = some u) (h1 : ∀ u ∈ news, u.oneCell' = true)
    (hm : 0 < m) (h63 : n + m ≤ maxLen) (hbytes : (n + m) * bytes ≤ 140737488355328) (hbase : base ≤ w.heap.size) (H : Nat) (hH : w.heap.size = H) :
    ∃ g cap w', (Builtin.append_ #[t, t] ty #[v, .slice (some ad) m c]).run P w = .ok (.slice (some ⟨g, 0, none⟩) (n + m) cap) w' ∧
      w'.ownsRow base e size (.slice (some ⟨g, 0, none⟩) (n + m) cap) (n + m) (xs ++ news) ∧ w.grownBy w' v.ownBlock ∧ (v.ownBlock = some g ∨ g = H) ∧ g < w'.heap.size ∧ (∀ q, v.ownBlock = some q → ∀ j u, xs[j]? = some u → w'.cell? ((⟨q, 0, none⟩ : Addr).add j) = some u) := by
  obtain ⟨g, cap, w', hr, h2, h3, h4, h5⟩ := run_append_lies (P := P) w t ty base e i z size bytes ht hi hz hsize hby hzs hsz v n xs hown ad m c news hl hnews h1 hm h63 hbytes hbase H hH
  refine ⟨g, cap, w', hr, h2, h3, h4, h5, fun q hq j u hu => ?_⟩
  rcases h4 with h4 | h4
  · have : q = g := by rw [hq] at h4; exact Option.some.inj h4
    subst this
    exact h2.cells (g := q) rfl j u (by rw [List.getElem?_append_left (List.getElem?_eq_some_iff.1 hu).1]; exact hu)
  · subst hsize
    subst hby
    have hsmall : n + m ≤ 9223372036854775807 := by simp only [maxLen] at h63; omega
    rcases hown.2 with ⟨rfl, h0⟩ | ⟨g0, cap0, cur, rfl, hbg, hgg, hnc, hcm, hcs, htake⟩
    · simp [Value.ownBlock] at hq
    · have hq' : g0 = q := by simpa [Value.ownBlock] using hq
      subst hq'
      have hlt := (Array.getElem?_eq_some_iff.1 hgg).1
      have holds : ∀ j u, xs[j]? = some u → w.cell? ((⟨g0, 0, none⟩ : Addr).add j) = some u := hown.cells (g := g0) rfl
      by_cases hroom : n + m ≤ cap0
      · have hfit : n * i.size + news.length ≤ cur.size := by rw [hl, hcs, ← Nat.add_mul]; exact Nat.mul_le_mul_right _ hroom
        have hr2 := run_append_room (P := P) w t ty e i ht hi g0 n cap0 cur hgg ad m c news hl hnews h1 hroom hfit
        rw [hr2] at hr
        simp only [Result.ok.injEq, Value.slice.injEq, Option.some.injEq, Addr.mk.injEq, and_true] at hr
        omega
      · have hr2 := run_append_grow (P := P) w t ty e i z ht hi hz ⟨g0, 0, none⟩ n cap0 xs hown.1 holds ad m c news hl hnews (by omega) (by omega) (growslice_fits (by omega) hbytes)
        rw [hr2] at hr
        simp only [Result.ok.injEq] at hr
        rw [← hr.2]
        have hh := holds j u hu
        rw [Go.WideShapes.add_plain] at hh ⊢
        exact (World.cell?_of_block (a := ⟨g0, 0 + j, none⟩) ((below_new w.drew _).block g0 hlt)).trans hh
/-- A row of ints of its own is appended to, in a region that draws; what it held can still be read. -/
theorem step_keep {ops : Array Oper} {o : Oper} {a : Act} {w : World} {K : Act → World → Prop} {Q : Exit → Act → World → Prop} {E : Prop} (hgd : o.guard = none) (s x : Operand)
    (ho : o.op = .call { callee := .builtin .append, args := #[s, x], argTypes := #[38, 38] }) (B : Nat) (g0 c0 n : Nat) (xs : List Int) (hs : a.eval s = .slice (some ⟨g0, 0, none⟩) n c0) (hown : w.ownsRow B 3 1 (.slice (some ⟨g0, 0, none⟩) n c0) n (icells xs)) (hxn : xs.length = n)
    (g1 : Nat) (z : Int) (hx : a.eval x = .slice (some ⟨g1, 0, none⟩) 1 1) (hc : w.cell? ⟨g1, 0, none⟩ = some (.int .i64 z)) (hsm : n + 1 ≤ 2000000) (hb : B ≤ w.heap.size) (H : Nat) (hH : w.heap.size = H)
    (h : ∀ g cap w', w'.ownsRow B 3 1 (.slice (some ⟨g, 0, none⟩) (n + 1) cap) (n + 1) (icells xs ++ [.int .i64 z]) → w.grownBy w' (some g0) → (some g0 = some g ∨ g = H) → g < w'.heap.size → (∀ j, j < n → w'.cell? ⟨g0, j, none⟩ = some (.int .i64 (xs.getD j 0))) → K (a.put o.dst (.slice (some ⟨g, 0, none⟩) (n + 1) cap)) w') :
    if Region.wanted o (yielded ops a.tmps) = true then Oper.wp Try.prog o a w K Q else E := by
  have hw : Region.wanted o (yielded ops a.tmps) = true := by simp [Region.wanted, hgd]
  rw [if_pos hw]
  obtain ⟨i0, hi, hz0, hz1, hz2⟩ := info_parts infoInt
  obtain ⟨g, cap, w', hr, h2, h3, h4, h5, h6⟩ := run_app_keep (P := Try.prog) w 38 o.type B 3 i0 (.int .i64 0) 1 8 Try.underlying38 hi hz0 hz1 hz2 rfl (by decide) (.slice (some ⟨g0, 0, none⟩) n c0) n (icells xs) hown ⟨g1, 0, none⟩ 1 1 [.int .i64 z] (by simp) (fun j u hj => by
    match j, hj with
    | 0, hj =>
      simp only [List.getElem?_cons_zero, Option.some.injEq] at hj
      subst hj
      exact hc
    | j + 1, hj => simp at hj) (fun u hu => by simp at hu; subst hu; rfl) (by omega) (by unfold maxLen; omega) (by omega) hb H hH
  unfold Oper.wp
  simp [execOp, ho, resolve, invoke, builtin, hs, hx, hr, Result.andThen]
  refine h g cap w' h2 h3 h4 h5 (fun j hj => ?_)
  have := h6 g0 rfl j _ (icl_get xs j (by omega))
  rw [Go.WideShapes.add_plain, Nat.zero_add] at this
  exact this
set_option maxRecDepth 100000 in
set_option maxHeartbeats 3200000 in
theorem l6Bends_any (p : BeamV) (L : Nat) (hL : p.l = (L : Int)) (v : Value) (xs : List (Int × Int)) (w : World) (hr : LoadRow w v xs) (hf : OnF p xs) :
    Calls Try.prog 89 #[.agg #[.int .i64 p.l, .int .i64 p.a, .int .i64 p.b], v] w fun e w' => ∃ u, e = .returned u ∧ MineI w' w.heap.size w'.heap.size u (rowOf (fun q : Nat => bdL (q : Int) (fsF p xs)) (L + 1)) ∧ Below w.heap.size w w' := by
  have FO := Lib.hid (fun w1 (l : Below w.heap.size w w1) => l6Shears_any p L hL v xs w1 (hr.lo l) hf)
  have hl0 := hf.l0
  have hl1 := hf.l1
  have HP := fsF_fc hf
  have HZ := Lib.hid (bd_low 0 (fsF p xs) (fun f hf => (HP.each f hf).1.1))
  have HS := Lib.hid (fun k : Nat => show bdL ((k + 1 : Nat) : Int) (fsF p xs) = bdL (k : Int) (fsF p xs) + shL (k : Int) (fsF p xs) by rw [show ((k + 1 : Nat) : Int) = (k : Int) + 1 by omega]; exact bd_step _ _)
  have HB := Lib.hid (fcF_bounds HP).1
  have HD := Lib.hid (fcF_bounds HP).2
  clear hr hf HP
  generalize fsF p xs = fs at *
  obtain ⟨l, a, b⟩ := p
  simp only at hL hl0 hl1 FO ⊢
  subst hL
  obtain ⟨W, hW⟩ : ∃ W, w.alloc (.cells #[.int .i64 (L : Int), .int .i64 a, .int .i64 b] 25) = W := ⟨_, rfl⟩
  have LW := Lib.hid (show Below w.heap.size w W by rw [← hW]; exact below_new _ _)
  have BX := Lib.hid (show Cel3 W w.heap.size (.int .i64 (L : Int)) (.int .i64 a) (.int .i64 b) by rw [← hW]; exact cel3_new _ _ _ _ _)
  have hws : w.heap.size < W.heap.size := BX.out.1
  obtain ⟨W1, hW1⟩ : ∃ W1, W.alloc (.cells #[.int .i64 0] 3) = W1 := ⟨_, rfl⟩
  have L1 := Lib.hid (show Below W.heap.size W W1 by rw [← hW1]; exact below_new _ _)
  have hs1 : W1.heap.size = W.heap.size + 1 := by rw [← hW1]; simp
  have O1 := Lib.hid (show OwnI W1 W.heap.size (.slice (some ⟨W.heap.size, 0, none⟩) 1 1) [0] by rw [← hW1]; exact ownI_lit1 _ _ _ (Nat.le_refl _))
  obtain ⟨_, u0, u1, u2⟩ := BX.out.lo L1.out
  go_enter Try.func89, Try.ntmps89
  go_wp2_with fail
  clear hW1 hW
  refine (FO.out W1 (lo_on LW.out L1.out)).mono ?_
  rintro e w2 ⟨fu, rfl, mf, l2⟩
  have hlen : (rowOf (fun q : Nat => shL (q : Int) fs) L).length = L := rowOf_len _ _
  obtain ⟨g, c, rfl, hg1, hg2, _, hc, _⟩ := mineI_open mf (by rw [hlen]; omega)
  rw [hlen] at hc ⊢
  have HC := Lib.hid (fun j (hj : j < L) => show w2.cell? ⟨g, j, none⟩ = some (.int .i64 (shL (j : Int) fs)) by rw [hc j hj, rowOf_at _ _ _ hj])
  have O2 := Lib.hid (show GrowI w2 W.heap.size W.heap.size w2 (.slice (some ⟨W.heap.size, 0, none⟩) 1 1) (rowOf (fun q : Nat => bdL (q : Int) fs) 1) from ⟨by rw [show rowOf (fun q : Nat => bdL (q : Int) fs) 1 = [0] by rw [rowOf_succ, rowOf_zero]; simp only [List.nil_append]; rw [show ((0 : Nat) : Int) = 0 from rfl, HZ.out]]; exact owns_lo O1.out l2, fun q hq => .inl (by simpa [Value.ownBlock] using hq.symm), Only.refl _ _⟩)
  have L2 := Lib.hid (lo_on (lo_on LW.out L1.out) l2)
  have hgW : g ≠ W.heap.size := by omega
  clear l2 mf hc hlen u0 u1 u2 BX L1 O1 FO
  go_wp2
  go_loopw [5, 7] (fun v i wr => ∃ k : Nat, k ≤ L ∧ i = .int .i64 k ∧ Hid (GrowI w2 W.heap.size W.heap.size wr v (rowOf (fun q : Nat => bdL (q : Int) fs) (k + 1)))) (fun _ i _ => L - (intOf i).toNat)
  case atStart => exact ⟨0, Nat.zero_le _, rfl, O2⟩
  case round =>
    obtain ⟨k, hk, rfl, HG⟩ := hrel
    clear O2
    by_cases hlt : k < L
    · have hcf := HG.out.only.cell (p := ⟨g, k, none⟩) (by simp only; omega) hg2
      rw [HC.out k (by omega)] at hcf
      have hlt' : (k : Int) < (L : Int) := by omega
      have hlt2 : (k : Int) < (k : Int) + 1 := by omega
      have b1 := HB.out (k : Int)
      have b2 := HD.out (k : Int) (by omega)
      have HSk := Lib.hid (HS.out k)
      have hown := HG.out.own
      unfold OwnI at hown
      rw [rowOf_len] at hown
      obtain ⟨g0, c0, rfl, hg0, hg0w⟩ := hown.form (by omega)
      have HK := Lib.hid (show rowOf (fun q : Nat => bdL (q : Int) fs) (k + 1 + 1) = rowOf (fun q : Nat => bdL (q : Int) fs) (k + 1) ++ [bdL ((k + 1 : Nat) : Int) fs] from rowOf_succ (fun q : Nat => bdL (q : Int) fs) (k + 1))
      have HL := Lib.hid (rowOf_len (fun q : Nat => bdL (q : Int) fs) (k + 1))
      have HV := Lib.hid (show (rowOf (fun q : Nat => bdL (q : Int) fs) (k + 1)).getD k 0 = bdL (k : Int) fs from rowOf_at (fun q : Nat => bdL (q : Int) fs) (k + 1) k (by omega))
      have hco : wr.cell? ⟨g0, k, none⟩ = some (.int .i64 (bdL (k : Int) fs)) := by
        have h1 := hown.cells (g := g0) rfl k _ (icl_get _ k (by rw [HL.out]; omega))
        rw [Go.WideShapes.add_plain, Nat.zero_add, HV.out] at h1
        exact h1
      have hap := HG.out.apart g0 rfl
      have hgw := HG.out.only.size
      have hgg0 : g ≠ g0 := by omega
      generalize rowOf (fun q : Nat => bdL (q : Int) fs) (k + 1) = ys at *
      generalize shL (k : Int) fs = y at *
      generalize bdL (k : Int) fs = z at *
      obtain ⟨y0, y1⟩ := b1
      obtain ⟨z0, z1⟩ := b2
      have hwu : IntKind.i64.wrap (z + y) = z + y := by rw [IntKind.wrap_i64]; omega
      go_wp2
      go_region_held3 (fun w' => w'.cell? ⟨g0, k, none⟩ = some (.int .i64 z) ∧ w'.cell? ⟨g, k, none⟩ = some (.int .i64 y))
        (first
          | exact ⟨(hkeep k (Nat.lt_succ_self k)).trans (congrArg (fun t => some (Value.int .i64 t)) HV.out), (hgrow.cell_far _ (by simp; omega) (fun h => hgg0 (Option.some.inj h))).trans (((below_new wr _).cell (p := ⟨g, k, none⟩) (by simp only; omega)).trans hcf)⟩
          | go_keep)
        ((refine step_keep (by rfl) _ _ (by rfl) W.heap.size g0 c0 (k + 1) ys (by rfl) (hown.alloc _).drew HL.out wr.heap.size (z + y) (by rfl) (show (wr.alloc (.cells #[.int .i64 (z + y)] 3)).cell? ⟨wr.heap.size, 0, none⟩ = some (.int .i64 (z + y)) from (World.cell?_alloc_at _ _ _ _ rfl).trans rfl) (by omega) (by simp; omega) (wr.heap.size + 1) (by simp) ?_; intro gg cap w3 hown3 hgrow hat hlt3 hkeep))
      have HN := Lib.hid (HG.out.app HL.out (lo_on (below_new wr _) (drw_below _)) hgrow hown3 (hat.imp id id))
      clear hown3 hgrow hat hlt3 hkeep hown hcf hco HG
      go_wp2
      go_roundw
      case rel => exact ⟨k + 1, by omega, by go_num, by rw [HK.out, HSk.out]; exact HN⟩
      case measure => simp [intOf]; omega
    · obtain rfl : k = L := by omega
      have hge : ¬ (k : Int) < (k : Int) := by omega
      have M := Lib.hid (HG.out.mine (show w.heap.size ≤ W.heap.size by omega))
      have LE := Lib.hid (HG.out.lo0 L2.out (show w.heap.size ≤ W.heap.size by omega))
      clear HG
      go_wp2
      go_ret
      exact ⟨_, rfl, M.out, LE.out⟩
end Go.Proofs.Ythncgcdnljoakaa
