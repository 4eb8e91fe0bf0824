/- Cs1, Cs2, as one text. -/
import Derived.Test.YtpklccpkgefniaaCh4
import Derived.Test.YtpklccpkgefniaaLoadOwn
import Derived.Test.YtpklccpkgefniaaCg4
namespace Go.Proofs.Ytpklccpkgefniaa
open Go.RowKit
theorem infoPair : (Try.prog.info? 28).map (fun i => (i.zero, i.size, i.bytes)) = some (some (.agg #[.int .i64 0, .int .i64 0]), 2, 16) := by kernel_rfl
/-- A row of fractions in memory of the call's own. -/
def OwnA (w : World) (B : Nat) (v : Value) (xs : List (Int × Int)) : Prop := w.ownsRow B 28 2 v xs.length (cellsF xs)
theorem mineL_ownA {w : World} {B : Nat} {v : Value} {xs : List (Int × Int)} (h : OwnA w B v xs) : MineL w B w.heap.size v xs := by
  have h' := h
  unfold OwnA at h'
  rcases h'.2 with ⟨rfl, h0⟩ | ⟨g, cap, cur, rfl, hb, hg, _⟩
  · exact .inl ⟨List.length_eq_zero_iff.1 h0, none, 0, rfl⟩
  · refine .inr ⟨g, cap, rfl, hb, (Array.getElem?_eq_some_iff.1 hg).1, Nat.le_refl _, fun j hj => ?_, fun j => h'.frozenAt j⟩
    have hc := cellsF_at xs j hj
    rw [h'.cellAt (j * 2) (by omega), h'.cellAt (j * 2 + 1) (by omega)]
    exact hc
/-- The pulls behind the first stages. -/
def stepF (xs : List StageV) (n : Int) (k : Nat) : List (Int × Int) := (List.range k).map (fun j => divF (chF (xs.take j)) n)
theorem step_len (xs : List StageV) (n : Int) (k : Nat) : (stepF xs n k).length = k := by simp [stepF]
theorem step_snoc (xs : List StageV) (n : Int) (k : Nat) : stepF xs n (k + 1) = stepF xs n k ++ [divF (chF (xs.take k)) n] := by simp [stepF, List.range_succ]
theorem step_one (xs : List StageV) (n : Int) : stepF xs n 1 = [(n, 1)] := by
  have e : gcF n 1 = 1 := by simp [gcF]
  simp [stepF, divF, chF, cutA, cutB, e]
def spF (xs : List StageV) (n : Int) : List (Int × Int) := if askB xs n = true then stepF xs n (xs.length + 1) else []
theorem spF_len (xs : List StageV) (n : Int) : (spF xs n).length ≤ xs.length + 1 := by unfold spF; split <;> simp [step_len]
theorem ownA_one (w : World) (n : Int) (B : Nat) (hB : B ≤ w.heap.size) : OwnA (w.alloc (.cells #[.int .i64 n, .int .i64 1] 28)) B (.slice (some ⟨w.heap.size, 0, none⟩) 1 1) [(n, 1)] := World.ownsRow_lit w #[.int .i64 n, .int .i64 1] 1 hB (by decide) rfl
theorem ownA_snoc {w : World} {B k : Nat} {v : Value} {ys : List (Int × Int)} {p q : Int} (h : w.ownsRow B 28 2 v (k + 1) (cellsF ys ++ [.int .i64 p, .int .i64 q])) (hk : ys.length = k) : OwnA w B v (ys ++ [(p, q)]) := by
  unfold OwnA
  rw [List.length_append, hk, cellsF_app]
  exact h
theorem ownsRow_lo {w w' : World} {B : Nat} {e : TypeId} {s : Nat} {v : Value} {n : Nat} {xs : List Value} (h : w.ownsRow B e s v n xs) (l : Below w.heap.size w w') : w'.ownsRow B e s v n xs := by
  refine ⟨h.1, ?_⟩
  rcases h.2 with h | ⟨g, cap, cur, e, hb, hg, r⟩
  · exact .inl h
  · exact .inr ⟨g, cap, cur, e, hb, (l.block g (Array.getElem?_eq_some_iff.1 hg).1).trans hg, r⟩
theorem OwnA.lo {w w' : World} {B : Nat} {v : Value} {xs : List (Int × Int)} (h : OwnA w B v xs) (l : Below w.heap.size w w') : OwnA w' B v xs := by
  unfold OwnA at *
  exact ownsRow_lo h l
set_option maxRecDepth 100000 in
set_option maxHeartbeats 1600000 in
theorem specStepPulls_any (v : Value) (xs : List StageV) (n : Int) (w : World) (hr : StgRow w v xs) (hn : xs.length ≤ 2000000) :
    Calls Try.prog 56 #[v, .int .i64 n] w fun e w' => ∃ u, e = .returned (.tuple #[u, .bool (askB xs n)]) ∧ MineL w' w.heap.size w'.heap.size u (spF xs n) ∧ Below w.heap.size w w' := by
  obtain ⟨i0, hi, hz0, hz1, hz2⟩ := info_parts infoPair
  obtain ⟨r, hb⟩ : ∃ r, askB xs n = r := ⟨_, rfl⟩
  unfold spF
  rw [hb]
  have C := Lib.hid (l7Ask_is v xs n r hb w hr hn)
  cases r with
  | false =>
    clear hb hr hn hi hz0 hz1 hz2
    simp only [Bool.false_eq_true, if_false]
    go_enter Try.func56, Try.ntmps56
    go_wp2_with fail
    refine C.out.mono ?_
    rintro e w1 ⟨rfl, l⟩
    have L := Lib.hid (l.alloc (o := .cells #[] 28) l.size)
    clear l C
    go_wp2
    go_ret2
    exact ⟨_, rfl, .inl ⟨rfl, _, _, rfl⟩, L.out⟩
  | true =>
    have hx := (askB_iff xs n).1 hb
    obtain ⟨⟨ha, h5⟩, n0, n1⟩ := hx
    have G := Lib.hid (fun k (hk : k < xs.length) a c w1 (l : Below w.heap.size w w1) (hv : v = .slice a xs.length c) => l7Chain_any (.slice a (k + 1) c) (xs.take (k + 1)) w1 (by subst hv; exact (hr.lo l).take (k + 1) (by omega)) (allB_take ha _) (by rw [List.length_take]; omega))
    have BD := Lib.hid (fun k (hk : k < xs.length) => ch_bound (allB_take ha (k + 1)) (show (xs.take (k + 1)).length ≤ 5 by rw [List.length_take]; omega))
    have MU := Lib.hid (fun g (g0 : 1 ≤ g) (g1 : g ≤ 254803968) => muln_bound n g n0 n1 g0 g1)
    obtain ⟨a, c, rfl, hlc, hr⟩ := hr
    clear hb hn ha n0 n1
    simp only [if_true]
    go_enter Try.func56, Try.ntmps56
    go_wp2_with fail
    refine C.out.mono ?_
    rintro e w1 ⟨rfl, l⟩
    have O1 := Lib.hid (show OwnA (w1.alloc (.cells #[.int .i64 n, .int .i64 1] 28)) w.heap.size (.slice (some ⟨w1.heap.size, 0, none⟩) 1 1) (stepF xs n (0 + 1)) by rw [step_one]; exact ownA_one w1 n _ l.size)
    have L1 := Lib.hid (l.alloc (o := .cells #[.int .i64 n, .int .i64 1] 28) l.size)
    clear l C
    go_wp2
    go_loopw [6, 7] (fun u i wr => ∃ k : Nat, k ≤ xs.length ∧ i = .int .i64 k ∧ Hid (OwnA wr w.heap.size u (stepF xs n (k + 1))) ∧ Hid (Below w.heap.size w wr)) (fun _ i _ => xs.length - (intOf i).toNat)
    case atStart => exact ⟨0, Nat.zero_le _, rfl, O1, L1⟩
    case round =>
      obtain ⟨k, hk, rfl, HO, HW⟩ := hrel
      clear O1 L1
      by_cases hlt : k < xs.length
      · rcases hr with h | ⟨g, off, rfl, hg, _⟩
        · subst h; simp at hlt
        have C := Lib.hid (G.out k hlt _ _ wr HW.out rfl)
        have hb := BD.out k hlt
        have hlt' : (k : Int) < (xs.length : Int) := by omega
        have hkc : k + 1 ≤ c := by omega
        have SN := Lib.hid (step_snoc xs n (k + 1))
        have SL := Lib.hid (step_len xs n (k + 1))
        obtain ⟨y, hy⟩ : ∃ y, chF (xs.take (k + 1)) = y := ⟨_, rfl⟩
        rw [hy] at C hb SN
        obtain ⟨g1, g2⟩ := y
        simp only at C hb
        have MB := MU.out g2 hb.2.1 hb.2.2
        have M := Lib.hid (fun w => l2Cut_any (n * g2) g1 w (by omega) (by omega) (by omega) (by omega))
        have a0 : -9223372036854775808 ≤ n * g2 := by omega
        have a1 : n * g2 ≤ 9223372036854775807 := by omega
        unfold divF at SN
        simp only at SN
        clear hy MB hb
        generalize stepF xs n (k + 1) = ys at *
        go_wp2_with fail
        refine C.out.mono ?_
        rintro e w2 ⟨rfl, l⟩
        have G1 := Lib.hid (cel2_new w2 g1 g2 28)
        have K := Lib.hid (lo_on l (below_one w2 (.cells #[.int .i64 g1, .int .i64 g2] 28)))
        have HO2 := Lib.hid (HO.out.lo K.out)
        have HW2 := Lib.hid (HW.out.trans (K.out.mono HW.out.size))
        obtain ⟨_, k1, k2, _, _⟩ := G1.out
        clear l C HO HW K G1
        go_wp2_with fail
        refine (M.out _).mono ?_
        rintro e w3 ⟨rfl, l⟩
        have HO3 := HO2.out.lo l
        have HW3 := Lib.hid (HW2.out.trans (l.mono HW2.out.size))
        unfold OwnA at HO3
        rw [SL.out] at HO3
        have hsz := HW3.out.size
        clear a0 a1 k1 k2 M HO2 HW2 l
        obtain ⟨x, hx⟩ : ∃ x, cutA (n * g2) g1 = x := ⟨_, rfl⟩
        obtain ⟨z, hz⟩ : ∃ z, cutB (n * g2) g1 = z := ⟨_, rfl⟩
        rw [hx, hz] at SN ⊢
        have OB := Lib.hid (fun q hq => (HO3.lt q hq).1)
        clear hx hz
        go_wp2_with (at_builtin; refine wpList_append_own_at _ rfl _ _ 58 rfl w.heap.size 28 i0 (.agg #[.int .i64 0, .int .i64 0]) 2 16 Try.underlying58 hi hz0 hz1 hz2 rfl (by decide) _ _ _ rfl (HO3.alloc _) ⟨w3.heap.size, 0, none⟩ 1 1 [.int .i64 x, .int .i64 z] rfl rfl (World.news_of_block (cs := #[.int .i64 x, .int .i64 z]) (t := 28) (fr := (0, 0)) (heap_alloc_new w3 _)) (by simp [Value.oneCell']) (by unfold maxLen; omega) (by omega) (by simp; omega) ?_; intro v4 w4 hown4 hgrow4 hnil4 hloc4)
        have R := Lib.hid (show OwnA w4 w.heap.size v4 (stepF xs n (k + 1 + 1)) by rw [SN.out]; exact ownA_snoc hown4 SL.out)
        have BB := Lib.hid (show Below w.heap.size w w4 from ((HW3.out.alloc HW3.out.size _)).grown hgrow4 (by simp; omega) OB.out)
        clear hown4 hgrow4 hnil4 hloc4 HO3 OB
        go_wp2
        go_roundw
        case rel => exact ⟨k + 1, by omega, by go_num, R, BB⟩
        case measure => simp [intOf]; omega
      · obtain rfl : k = xs.length := by omega
        have hge : ¬ (xs.length : Int) < (xs.length : Int) := by omega
        go_wp2
        go_ret2
        exact ⟨_, rfl, mineL_ownA HO.out, HW.out⟩
end Go.Proofs.Ytpklccpkgefniaa
namespace Go.Proofs.Ytpklccpkgefniaa
open Go.RowKit
theorem make_pairs (n : Nat) (hn : n ≤ 2000000) (u : World) :
    (Instr.makeSlice 58 (.int .i64 (n : Int)) (.int .i64 (n : Int))).run Try.prog u = .ok (.slice (some ⟨u.heap.size, 0, none⟩) n n) (u.alloc (.cells (madeCells #[.int .i64 0, .int .i64 0] (n * 2)) 28)) := by
  obtain ⟨i0, hi, hz0, hz1, hz2⟩ := info_parts infoPair
  have h := run_make (P := Try.prog) u 58 28 i0 (.agg #[.int .i64 0, .int .i64 0]) Try.underlying58 hi hz0 .i64 .i64 (n : Int) (n : Int) (by omega) (Int.le_refl _) (by rw [hz2]; omega) (by omega)
  simpa [hz1, Value.cells] using h
theorem ask_take {xs : List StageV} {n : Int} (h : askB xs n = true) (k : Nat) : askB (xs.take k) n = true := by
  have hx := (askB_iff xs n).1 h
  exact (askB_iff _ n).2 ⟨⟨allB_take hx.1.1 k, by rw [List.length_take]; omega⟩, hx.2⟩
theorem step_at (xs : List StageV) (n : Int) (m k : Nat) (h : k < m) : (stepF xs n m).getD k (0, 0) = divF (chF (xs.take k)) n := by
  simp [stepF, List.getD, h]
set_option maxRecDepth 100000 in
set_option maxHeartbeats 1600000 in
theorem implStepPulls_any (v : Value) (xs : List StageV) (n : Int) (w : World) (hr : StgRow w v xs) (hn : xs.length ≤ 1048576) :
    Calls Try.prog 57 #[v, .int .i64 n] w fun e w' => ∃ u, e = .returned (.tuple #[u, .bool (askB xs n)]) ∧ MineL w' w.heap.size w'.heap.size u (spF xs n) ∧ Below w.heap.size w w' := by
  have C := Lib.hid (implPullFor_any v xs n w hr (by omega))
  unfold spF
  generalize pullF xs n = y at *
  obtain ⟨y1, y2⟩ := y
  simp only at C
  cases hb : askB xs n with
  | false =>
    rw [hb] at C
    clear hb hr hn
    simp only [Bool.false_eq_true, if_false]
    go_enter Try.func57, Try.ntmps57
    go_wp2_with fail
    refine C.out.mono ?_
    rintro e w1 ⟨rfl, l⟩
    have L := Lib.hid (lo_on l (below_one w1 (.cells #[.int .i64 y1, .int .i64 y2] 28)))
    clear l C
    go_wp2
    go_ret2
    exact ⟨_, rfl, .inl ⟨rfl, _, _, rfl⟩, L.out⟩
  | true =>
    rw [hb] at C
    have h5 := ((askB_iff xs n).1 hb).1.2
    have G := Lib.hid (fun k (hk : k ≤ xs.length) a c w1 (l : Below w.heap.size w w1) (hv : v = .slice a xs.length c) => implPullFor_any (.slice a k c) (xs.take k) n w1 (by subst hv; exact (hr.lo l).take k hk) (by rw [List.length_take]; omega))
    have GV := Lib.hid (fun k => show pullF (xs.take k) n = divF (chF (xs.take k)) n by unfold pullF; rw [ask_take hb k]; rfl)
    have GB := Lib.hid (fun k => ask_take hb k)
    have SA := Lib.hid (fun k (hk : k < xs.length + 1) => step_at xs n (xs.length + 1) k hk)
    have SL := Lib.hid (step_len xs n (xs.length + 1))
    have HM := make_pairs (xs.length + 1) (by omega)
    rw [show ((xs.length + 1 : Nat) : Int) = (xs.length : Int) + 1 by omega] at HM
    obtain ⟨a, c, rfl, hlc, hrr⟩ := hr
    clear hb hrr
    simp only [if_true]
    go_enter Try.func57, Try.ntmps57
    go_wp2_with fail
    refine C.out.mono ?_
    rintro e w1 ⟨rfl, l⟩
    obtain ⟨W, hW⟩ : ∃ W, w1.alloc (.cells #[.int .i64 y1, .int .i64 y2] 28) = W := ⟨_, rfl⟩
    have L1 := Lib.hid (show Below w.heap.size w W by rw [← hW]; exact lo_on l (below_one _ _))
    clear l C
    go_wp2
    clear hW HM
    go_loopw [24] (fun i wr => ∃ k : Nat, k ≤ xs.length + 1 ∧ i = .int .i64 k ∧ Hid (∀ j, j < k → wr.cell? ⟨W.heap.size, j * 2, none⟩ = some (.int .i64 (divF (chF (xs.take j)) n).1) ∧ wr.cell? ⟨W.heap.size, j * 2 + 1, none⟩ = some (.int .i64 (divF (chF (xs.take j)) n).2)) ∧ Hid (∀ j, k * 2 ≤ j → j < (xs.length + 1) * 2 → wr.cell? ⟨W.heap.size, j, none⟩ = some (.int .i64 0)) ∧ Hid (∀ j, wr.frozen? ⟨W.heap.size, j, none⟩ = false) ∧ Hid (Below w.heap.size w wr) ∧ W.heap.size + 1 ≤ wr.heap.size) (fun i _ => xs.length + 1 - (intOf i).toNat)
    case atStart => exact ⟨0, Nat.zero_le _, rfl, Lib.hid (fun j h => by omega), Lib.hid (fun j _ h => by rw [World.cell?_alloc_at _ _ _ _ rfl]; exact made_zero _ _ h), Lib.hid (fun j => World.frozen?_alloc_at _ _ _ _ rfl), Lib.hid (L1.out.alloc L1.out.size _), by simp⟩
    case round =>
      obtain ⟨k, hk, rfl, H1, H2, H3, HW, hs1⟩ := hrel
      have hWs := L1.out.size
      by_cases hlt : k < xs.length + 1
      · have C := Lib.hid (G.out k (by omega) a c wr HW.out rfl)
        rw [GV.out, GB.out] at C
        have hlt' : (k : Int) < (xs.length : Int) + 1 := by omega
        have hkc : k ≤ c := by omega
        obtain ⟨y, hy⟩ : ∃ y, divF (chF (xs.take k)) n = y := ⟨_, rfl⟩
        rw [hy] at C
        have HY := Lib.hid hy
        obtain ⟨x, z⟩ := y
        simp only at C
        have z1 := H2.out (k * 2) (Nat.le_refl _) (by omega)
        have z2 := H2.out (k * 2 + 1) (by omega) (by omega)
        have f1 := H3.out (k * 2)
        have f2 := H3.out (k * 2 + 1)
        have hn0 : W.heap.size < wr.heap.size := by omega
        clear hy
        go_wp2_with fail
        refine C.out.mono ?_
        rintro e w2 ⟨rfl, hl⟩
        rw [← hl.cell (p := ⟨W.heap.size, k * 2, none⟩) hn0] at z1
        rw [← hl.cell (p := ⟨W.heap.size, k * 2 + 1, none⟩) hn0] at z2
        rw [← hl.frozen (p := ⟨W.heap.size, k * 2, none⟩) hn0] at f1
        rw [← hl.frozen (p := ⟨W.heap.size, k * 2 + 1, none⟩) hn0] at f2
        have HLL := Lib.hid hl
        have hl1 := hl.size
        have TS := Lib.hid (two_set w2 W.heap.size (k * 2) (.int .i64 x) (.int .i64 z) z1 z2)
        clear hl C
        go_wp2
        go_roundw
        case rel =>
          obtain ⟨t1, t2, t3⟩ := TS.out
          refine ⟨k + 1, by omega, by go_num, Lib.hid (fun j hj => ?_), Lib.hid (fun j hj hjn => ?_), Lib.hid (fun j => ?_), Lib.hid ?_, by simp; omega⟩
          · by_cases e : j = k
            · subst e
              rw [HY.out]
              exact ⟨t1, t2⟩
            · rw [t3 _ (by omega) (by omega), t3 _ (by omega) (by omega), HLL.out.cell (p := ⟨W.heap.size, j * 2, none⟩) hn0, HLL.out.cell (p := ⟨W.heap.size, j * 2 + 1, none⟩) hn0]
              exact H1.out j (by omega)
          · rw [t3 _ (by omega) (by omega), HLL.out.cell (p := ⟨W.heap.size, j, none⟩) hn0]
            exact H2.out j (by omega) hjn
          · rw [World.frozen?_setCell, World.frozen?_setCell, HLL.out.frozen (p := ⟨W.heap.size, j, none⟩) hn0]
            exact H3.out j
          · exact ((HW.out.trans (HLL.out.mono HW.out.size)).setCell (p := ⟨W.heap.size, k * 2, none⟩) hWs _).setCell (p := ⟨W.heap.size, k * 2 + 1, none⟩) hWs _
        case measure => simp [intOf]; omega
      · obtain rfl : k = xs.length + 1 := by omega
        have hge : ¬ ((xs.length : Int) + 1) < ((xs.length : Int) + 1) := by omega
        rw [show ((xs.length + 1 : Nat) : Int) = (xs.length : Int) + 1 by omega]
        go_wp2
        go_ret2
        refine ⟨_, rfl, .inr ⟨W.heap.size, xs.length + 1, by rw [SL.out]; rfl, hWs, hs1, Nat.le_refl _, fun j hj => ?_, H3.out⟩, HW.out⟩
        rw [SL.out] at hj
        rw [SA.out j hj]
        exact H1.out j hj
end Go.Proofs.Ytpklccpkgefniaa
