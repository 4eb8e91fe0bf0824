/- The model's StepPulls. -/
import Derived.Test.YtpklccpkgefniaaCh4
import Derived.Test.YtpklccpkgefniaaLoadOwn
namespace Go.Proofs.Ytpklccpkgefniaa
open Go.RowKit
theorem infoPair : (Try.prog.info? 28).map (fun i => (i.zero, i.size, i.bytes)) = some (some (.agg #[.int .i64 0, .int .i64 0]), 2, 16) := by kernel_rfl
/-- A row of fractions in memory of the call's own. -/
def OwnA (w : World) (B : Nat) (v : Value) (xs : List (Int × Int)) : Prop := w.ownsRow B 28 2 v xs.length (cellsF xs)
theorem mineL_ownA {w : World} {B : Nat} {v : Value} {xs : List (Int × Int)} (h : OwnA w B v xs) : MineL w B w.heap.size v xs := by
  have h' := h
  unfold OwnA at h'
  rcases h'.2 with ⟨rfl, h0⟩ | ⟨g, cap, cur, rfl, hb, hg, _⟩
  · exact .inl ⟨List.length_eq_zero_iff.1 h0, none, 0, rfl⟩
  · refine .inr ⟨g, cap, rfl, hb, (Array.getElem?_eq_some_iff.1 hg).1, Nat.le_refl _, fun j hj => ?_, fun j => h'.frozenAt j⟩
    have hc := cellsF_at xs j hj
    rw [h'.cellAt (j * 2) (by omega), h'.cellAt (j * 2 + 1) (by omega)]
    exact hc
/-- The pulls behind the first stages. -/
def stepF (xs : List StageV) (n : Int) (k : Nat) : List (Int × Int) := (List.range k).map (fun j => divF (chF (xs.take j)) n)
theorem step_len (xs : List StageV) (n : Int) (k : Nat) : (stepF xs n k).length = k := by simp [stepF]
theorem step_snoc (xs : List StageV) (n : Int) (k : Nat) : stepF xs n (k + 1) = stepF xs n k ++ [divF (chF (xs.take k)) n] := by simp [stepF, List.range_succ]
theorem step_one (xs : List StageV) (n : Int) : stepF xs n 1 = [(n, 1)] := by
  have e : gcF n 1 = 1 := by simp [gcF]
  simp [stepF, divF, chF, cutA, cutB, e]
def spF (xs : List StageV) (n : Int) : List (Int × Int) := if askB xs n = true then stepF xs n (xs.length + 1) else []
theorem spF_len (xs : List StageV) (n : Int) : (spF xs n).length ≤ xs.length + 1 := by unfold spF; split <;> simp [step_len]
theorem ownA_one (w : World) (n : Int) (B : Nat) (hB : B ≤ w.heap.size) : OwnA (w.alloc (.cells #[.int .i64 n, .int .i64 1] 28)) B (.slice (some ⟨w.heap.size, 0, none⟩) 1 1) [(n, 1)] := World.ownsRow_lit w #[.int .i64 n, .int .i64 1] 1 hB (by decide) rfl
theorem ownA_snoc {w : World} {B k : Nat} {v : Value} {ys : List (Int × Int)} {p q : Int} (h : w.ownsRow B 28 2 v (k + 1) (cellsF ys ++ [.int .i64 p, .int .i64 q])) (hk : ys.length = k) : OwnA w B v (ys ++ [(p, q)]) := by
  unfold OwnA
  rw [List.length_append, hk, cellsF_app]
  exact h
theorem ownsRow_lo {w w' : World} {B : Nat} {e : TypeId} {s : Nat} {v : Value} {n : Nat} {xs : List Value} (h : w.ownsRow B e s v n xs) (l : Below w.heap.size w w') : w'.ownsRow B e s v n xs := by
  refine ⟨h.1, ?_⟩
  rcases h.2 with h | ⟨g, cap, cur, e, hb, hg, r⟩
  · exact .inl h
  · exact .inr ⟨g, cap, cur, e, hb, (l.block g (Array.getElem?_eq_some_iff.1 hg).1).trans hg, r⟩
theorem OwnA.lo {w w' : World} {B : Nat} {v : Value} {xs : List (Int × Int)} (h : OwnA w B v xs) (l : Below w.heap.size w w') : OwnA w' B v xs := by
  unfold OwnA at *
  exact ownsRow_lo h l
set_option maxRecDepth 100000 in
set_option maxHeartbeats 1600000 in
theorem specStepPulls_any (v : Value) (xs : List StageV) (n : Int) (w : World) (hr : StgRow w v xs) (hn : xs.length ≤ 2000000) :
    Calls Try.prog 56 #[v, .int .i64 n] w fun e w' => ∃ u, e = .returned (.tuple #[u, .bool (askB xs n)]) ∧ MineL w' w.heap.size w'.heap.size u (spF xs n) ∧ Below w.heap.size w w' := by
  obtain ⟨i0, hi, hz0, hz1, hz2⟩ := info_parts infoPair
  obtain ⟨r, hb⟩ : ∃ r, askB xs n = r := ⟨_, rfl⟩
  unfold spF
  rw [hb]
  have C := Lib.hid (l7Ask_is v xs n r hb w hr hn)
  cases r with
  | false =>
    clear hb hr hn hi hz0 hz1 hz2
    simp only [Bool.false_eq_true, if_false]
    go_enter Try.func56, Try.ntmps56
    go_wp2_with fail
    refine C.out.mono ?_
    rintro e w1 ⟨rfl, l⟩
    have L := Lib.hid (l.alloc (o := .cells #[] 28) l.size)
    clear l C
    go_wp2
    go_ret2
    exact ⟨_, rfl, .inl ⟨rfl, _, _, rfl⟩, L.out⟩
  | true =>
    have hx := (askB_iff xs n).1 hb
    obtain ⟨⟨ha, h5⟩, n0, n1⟩ := hx
    have G := Lib.hid (fun k (hk : k < xs.length) a c w1 (l : Below w.heap.size w w1) (hv : v = .slice a xs.length c) => l7Chain_any (.slice a (k + 1) c) (xs.take (k + 1)) w1 (by subst hv; exact (hr.lo l).take (k + 1) (by omega)) (allB_take ha _) (by rw [List.length_take]; omega))
    have BD := Lib.hid (fun k (hk : k < xs.length) => ch_bound (allB_take ha (k + 1)) (show (xs.take (k + 1)).length ≤ 5 by rw [List.length_take]; omega))
    have MU := Lib.hid (fun g (g0 : 1 ≤ g) (g1 : g ≤ 254803968) => muln_bound n g n0 n1 g0 g1)
    obtain ⟨a, c, rfl, hlc, hr⟩ := hr
    clear hb hn ha n0 n1
    simp only [if_true]
    go_enter Try.func56, Try.ntmps56
    go_wp2_with fail
    refine C.out.mono ?_
    rintro e w1 ⟨rfl, l⟩
    have O1 := Lib.hid (show OwnA (w1.alloc (.cells #[.int .i64 n, .int .i64 1] 28)) w.heap.size (.slice (some ⟨w1.heap.size, 0, none⟩) 1 1) (stepF xs n (0 + 1)) by rw [step_one]; exact ownA_one w1 n _ l.size)
    have L1 := Lib.hid (l.alloc (o := .cells #[.int .i64 n, .int .i64 1] 28) l.size)
    clear l C
    go_wp2
    go_loopw [6, 7] (fun u i wr => ∃ k : Nat, k ≤ xs.length ∧ i = .int .i64 k ∧ Hid (OwnA wr w.heap.size u (stepF xs n (k + 1))) ∧ Hid (Below w.heap.size w wr)) (fun _ i _ => xs.length - (intOf i).toNat)
    case atStart => exact ⟨0, Nat.zero_le _, rfl, O1, L1⟩
    case round =>
      obtain ⟨k, hk, rfl, HO, HW⟩ := hrel
      clear O1 L1
      by_cases hlt : k < xs.length
      · rcases hr with h | ⟨g, off, rfl, hg, _⟩
        · subst h; simp at hlt
        have C := Lib.hid (G.out k hlt _ _ wr HW.out rfl)
        have hb := BD.out k hlt
        have hlt' : (k : Int) < (xs.length : Int) := by omega
        have hkc : k + 1 ≤ c := by omega
        have SN := Lib.hid (step_snoc xs n (k + 1))
        have SL := Lib.hid (step_len xs n (k + 1))
        obtain ⟨y, hy⟩ : ∃ y, chF (xs.take (k + 1)) = y := ⟨_, rfl⟩
        rw [hy] at C hb SN
        obtain ⟨g1, g2⟩ := y
        simp only at C hb
        have MB := MU.out g2 hb.2.1 hb.2.2
        have M := Lib.hid (fun w => l2Cut_any (n * g2) g1 w (by omega) (by omega) (by omega) (by omega))
        have a0 : -9223372036854775808 ≤ n * g2 := by omega
        have a1 : n * g2 ≤ 9223372036854775807 := by omega
        unfold divF at SN
        simp only at SN
        clear hy MB hb
        generalize stepF xs n (k + 1) = ys at *
        go_wp2_with fail
        refine C.out.mono ?_
        rintro e w2 ⟨rfl, l⟩
        have G1 := Lib.hid (cel2_new w2 g1 g2 28)
        have K := Lib.hid (lo_on l (below_one w2 (.cells #[.int .i64 g1, .int .i64 g2] 28)))
        have HO2 := Lib.hid (HO.out.lo K.out)
        have HW2 := Lib.hid (HW.out.trans (K.out.mono HW.out.size))
        obtain ⟨_, k1, k2, _, _⟩ := G1.out
        clear l C HO HW K G1
        go_wp2_with fail
        refine (M.out _).mono ?_
        rintro e w3 ⟨rfl, l⟩
        have HO3 := HO2.out.lo l
        have HW3 := Lib.hid (HW2.out.trans (l.mono HW2.out.size))
        unfold OwnA at HO3
        rw [SL.out] at HO3
        have hsz := HW3.out.size
        clear a0 a1 k1 k2 M HO2 HW2 l
        obtain ⟨x, hx⟩ : ∃ x, cutA (n * g2) g1 = x := ⟨_, rfl⟩
        obtain ⟨z, hz⟩ : ∃ z, cutB (n * g2) g1 = z := ⟨_, rfl⟩
        rw [hx, hz] at SN ⊢
        have OB := Lib.hid (fun q hq => (HO3.lt q hq).1)
        clear hx hz
        go_wp2_with (at_builtin; refine wpList_append_own_at _ rfl _ _ 58 rfl w.heap.size 28 i0 (.agg #[.int .i64 0, .int .i64 0]) 2 16 Try.underlying58 hi hz0 hz1 hz2 rfl (by decide) _ _ _ rfl (HO3.alloc _) ⟨w3.heap.size, 0, none⟩ 1 1 [.int .i64 x, .int .i64 z] rfl rfl (World.news_of_block (cs := #[.int .i64 x, .int .i64 z]) (t := 28) (fr := (0, 0)) (heap_alloc_new w3 _)) (by simp [Value.oneCell']) (by unfold maxLen; omega) (by omega) (by simp; omega) ?_; intro v4 w4 hown4 hgrow4 hnil4 hloc4)
        have R := Lib.hid (show OwnA w4 w.heap.size v4 (stepF xs n (k + 1 + 1)) by rw [SN.out]; exact ownA_snoc hown4 SL.out)
        have BB := Lib.hid (show Below w.heap.size w w4 from ((HW3.out.alloc HW3.out.size _)).grown hgrow4 (by simp; omega) OB.out)
        clear hown4 hgrow4 hnil4 hloc4 HO3 OB
        go_wp2
        go_roundw
        case rel => exact ⟨k + 1, by omega, by go_num, R, BB⟩
        case measure => simp [intOf]; omega
      · obtain rfl : k = xs.length := by omega
        have hge : ¬ (xs.length : Int) < (xs.length : Int) := by omega
        go_wp2
        go_ret2
        exact ⟨_, rfl, mineL_ownA HO.out, HW.out⟩
end Go.Proofs.Ytpklccpkgefniaa
