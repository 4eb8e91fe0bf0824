/- The model's CoinsWith. -/
import Derived.Test.YtghpacgbkknhbaaWith3
namespace Go.Proofs.Ytghpacgbkknhbaa
open Go.RowKit Go.Maps
def OwnP (w : World) (B : Nat) (v : Value) (ys : List (Int × Int)) : Prop := w.ownsRow B 64 2 v ys.length (cellsF ys)
theorem OwnP.lo {w w' : World} {B : Nat} {v : Value} {ys : List (Int × Int)} (h : OwnP w B v ys) (l : Below w.heap.size w w') : OwnP w' B v ys := ownsRow_lo h l
theorem ownP_snoc {w : World} {B : Nat} {v : Value} {ys : List (Int × Int)} {p : Int × Int} (h : w.ownsRow B 64 2 v (ys.length + 1) (cellsF ys ++ cellsF [p])) : OwnP w B v (ys ++ [p]) := by
  unfold OwnP
  rw [List.length_append, cellsF_app]
  exact h
noncomputable def fwF (xss : List (List Int)) (os : List Int) (k : Nat) : List (Int × Int) := ((doneP [1, -1] k).reverse).filter (fun p => propB (outP xss p = os))
theorem fw_succ (xss : List (List Int)) (os : List Int) (k : Nat) : fwF xss os (k + 1) = fwF xss os k ++ (if propB (outF xss k 1 = os) = true then [((k : Int), (1 : Int))] else []) ++ (if propB (outF xss k (-1) = os) = true then [((k : Int), (-1 : Int))] else []) := by
  unfold fwF
  rw [show (doneP [1, -1] (k + 1)).reverse = (doneP [1, -1] k).reverse ++ [((k : Int), (1 : Int)), ((k : Int), (-1 : Int))] by simp [doneP, rowP], List.filter_append, List.append_assoc]
  congr 1
  simp only [List.filter_cons, List.filter_nil, outP, Int.toNat_natCast]
  split <;> split <;> simp_all
theorem fw_len (xss : List (List Int)) (os : List Int) (k : Nat) : (fwF xss os k).length ≤ 2 * k := by
  have h := List.length_filter_le (fun p => propB (outP xss p = os)) (doneP [1, -1] k).reverse
  have h5 : (doneP [1, -1] k).reverse.length = k * 2 := by rw [List.length_reverse, doneP_len]; rfl
  unfold fwF
  omega
theorem drew_lo (w : World) (m : Nat) : Below w.heap.size w (w.drewN m) := ⟨rfl, rfl, rfl, Nat.le_refl _, fun _ _ => rfl⟩
set_option maxRecDepth 100000 in
set_option maxHeartbeats 6400000 in
theorem specWith_yes (N : Nat) (v u : Value) (xss : List (List Int)) (os : List Int) (w : World) (hr : TabRow w v xss) (hb : SmallT xss) (hu : IntRow w u os) (ho : os.length ≤ 2000000) (h : okW (N : Int) xss os) :
    Calls Try.prog 49 #[.int .i64 (N : Int), v, u] w fun e w' => ∃ u0, e = .returned (.tuple #[u0, .bool true]) ∧ LoadRow w' u0 (fwF xss os N) ∧ Below w.heap.size w w' := by
  have hg' := (Bool.and_eq_true _ _).mp h.1
  have hp := (propB_iff _).1 hg'.2
  have hN : N ≤ 40 := by have := hg'.1; unfold coinsB at this; simp at this; omega
  have A0 := Lib.hid ((Below.refl w.heap.size w).alloc (Nat.le_refl _) (.cells #[] 64))
  have G := Lib.hid (l3Good_any (N : Int) v xss true h.1 _ (hr.lo A0.out) hb)
  have SG := Lib.hid (l3Signs_is u os (xss.length : Int) true (by rw [show signsB os = true from propB_yes h.2.2, h.2.1]; simp) _ (hu.lo A0.out) ho)
  have OC := Lib.hid (fun (k : Nat) (heavy : Bool) w1 (l : Below w.heap.size w w1) (hc : (k : Int) < (N : Int)) => l3Outcome_mine (N : Int) v xss k heavy w1 (hr.lo l) hp hc)
  have SM := Lib.hid (fun (k : Nat) (z : Int) (x : Value) (w1 : World) (l : Below w.heap.size w w1) (o : IntRow w1 x (outF xss k z)) => l1Same_any x u (outF xss k z) os w1 o (hu.lo l) (by rw [outF_len]; have := hp.short; omega))
  have P0 := Lib.hid (show OwnP (w.alloc (.cells #[] 64)) w.heap.size (.slice (some ⟨w.heap.size, 0, none⟩) 0 0) [] from World.ownsRow_lit w #[] 0 (Nat.le_refl _) (by decide) rfl)
  obtain ⟨i0, hi, hz0, hz1, hz2⟩ := info_parts infoA2
  have hvl : ∃ a c, v = .slice a xss.length c := by obtain ⟨a, c, e, _⟩ := hr; exact ⟨a, c, e⟩
  obtain ⟨a, c, rfl⟩ := hvl
  clear h hg' hp hr hb hu
  go_enter Try.func49, Try.ntmps49
  go_wp2_with fail
  refine G.out.mono ?_
  rintro e w' ⟨rfl, rfl⟩
  go_wp2_with fail
  refine SG.out.mono ?_
  rintro e w' ⟨rfl, rfl⟩
  go_wp2
  go_loopw [8, 9] (fun t i wr => ∃ k : Nat, k ≤ N ∧ i = .int .i64 k ∧ Hid (OwnP wr w.heap.size t (fwF xss os k)) ∧ Hid (Below w.heap.size w wr)) (fun _ i _ => N - (intOf i).toNat)
  case atStart => exact ⟨0, Nat.zero_le _, rfl, P0, A0⟩
  case round =>
    obtain ⟨k, hk, rfl, HT, HW⟩ := hrel
    obtain ⟨wq, rfl⟩ : ∃ wq : World, wq = wr := ⟨_, rfl⟩
    clear P0 A0 G SG
    by_cases hlt : k < N
    · have hlt' : (k : Int) < (N : Int) := by omega
      have hws := HW.out.size
      have hfl := fw_len xss os k
      have HFS := Lib.hid (fw_succ xss os k)
      generalize fwF xss os k = ys at HT HFS hfl
      have O1 := Lib.hid (OC.out k true wq HW.out hlt')
      have HT0 := HT
      clear HT
      obtain ⟨t0, ht0⟩ : ∃ t, u8 = t := ⟨_, rfl⟩
      rw [ht0] at HT0 ⊢
      clear ht0
      go_wp2_with fail
      refine O1.out.mono ?_
      rintro e w1a ⟨u1r, rfl, o1, l1⟩
      have LA1 := Lib.hid (HW.out.trans (l1.mono HW.out.size))
      have PA1 := Lib.hid (HT0.out.lo l1)
      have S1 := Lib.hid (SM.out k 1 u1r w1a LA1.out (show IntRow w1a u1r (outF xss k 1) from o1.mine.row))
      clear o1 l1 O1
      by_cases hA : outF xss k 1 = os
      · rw [show decide (outF xss k 1 = os) = true from decide_eq_true hA] at S1
        go_wp2_with fail
        refine S1.out.mono ?_
        rintro e w1b ⟨rfl, m1, hm1⟩
        have LD1 := Lib.hid (show Below w1a.heap.size w1a w1b by rw [hm1]; exact drew_lo _ _)
        have LB1 := Lib.hid (LA1.out.trans (LD1.out.mono LA1.out.size))
        have PB1 := Lib.hid (PA1.out.lo LD1.out)
        have hs1 := LB1.out.size
        clear hm1 LD1 S1
        have hown1 := PB1.out
        unfold OwnP at hown1
        have hyl1 : (ys).length ≤ 200 := by omega
        obtain ⟨n1, hn1⟩ : ∃ n, (ys).length = n := ⟨_, rfl⟩
        have HN1 := Lib.hid hn1
        rw [hn1] at hown1 hyl1
        clear hn1
        go_wp2_with (at_builtin; refine wpList_append_own _ rfl _ _ 49 rfl w.heap.size 64 i0 (.agg #[.int .i64 0, .int .i64 0]) 2 16 Try.underlying49 hi hz0 hz1 hz2 rfl (by decide) _ _ _ rfl (hown1.alloc _) ⟨w1b.heap.size, 0, none⟩ 1 1 (cellsF [((k : Int), (1 : Int))]) rfl rfl (two_new _ _ _ _) (cellsF_one [((k : Int), (1 : Int))]) (by unfold maxLen; omega) (by omega) (by simp; omega) ?_; intro v1n w1n hown1n hgrow1 hnil1)
        have PN1 := Lib.hid (show OwnP w1n w.heap.size v1n ((ys) ++ [((k : Int), (1 : Int))]) from ownP_snoc (by rw [HN1.out]; exact hown1n))
        have LN1 := Lib.hid (show Below w.heap.size w w1n from (LB1.out.alloc LB1.out.size _).grown hgrow1 (by simp; omega) (fun j hj => (hown1.lt j hj).1))
        clear hown1 hown1n hgrow1 hnil1
        have O2 := Lib.hid (OC.out k false w1n LN1.out hlt')
        go_wp2_with fail
        refine O2.out.mono ?_
        rintro e w2a ⟨u2r, rfl, o2, l2⟩
        have LA2 := Lib.hid (LN1.out.trans (l2.mono LN1.out.size))
        have PA2 := Lib.hid (PN1.out.lo l2)
        have S2 := Lib.hid (SM.out k (-1) u2r w2a LA2.out (show IntRow w2a u2r (outF xss k (-1)) from o2.mine.row))
        clear o2 l2 O2
        by_cases hB : outF xss k (-1) = os
        · rw [show decide (outF xss k (-1) = os) = true from decide_eq_true hB] at S2
          go_wp2_with fail
          refine S2.out.mono ?_
          rintro e w2b ⟨rfl, m2, hm2⟩
          have LD2 := Lib.hid (show Below w2a.heap.size w2a w2b by rw [hm2]; exact drew_lo _ _)
          have LB2 := Lib.hid (LA2.out.trans (LD2.out.mono LA2.out.size))
          have PB2 := Lib.hid (PA2.out.lo LD2.out)
          have hs2 := LB2.out.size
          clear hm2 LD2 S2
          have hown2 := PB2.out
          unfold OwnP at hown2
          have hyl2 : (ys ++ [((k : Int), (1 : Int))]).length ≤ 200 := by rw [List.length_append, List.length_singleton]; omega
          obtain ⟨n2, hn2⟩ : ∃ n, (ys ++ [((k : Int), (1 : Int))]).length = n := ⟨_, rfl⟩
          have HN2 := Lib.hid hn2
          rw [hn2] at hown2 hyl2
          clear hn2
          go_wp2_with (at_builtin; refine wpList_append_own _ rfl _ _ 49 rfl w.heap.size 64 i0 (.agg #[.int .i64 0, .int .i64 0]) 2 16 Try.underlying49 hi hz0 hz1 hz2 rfl (by decide) _ _ _ rfl (hown2.alloc _) ⟨w2b.heap.size, 0, none⟩ 1 1 (cellsF [((k : Int), ((-1) : Int))]) rfl rfl (two_new _ _ _ _) (cellsF_one [((k : Int), ((-1) : Int))]) (by unfold maxLen; omega) (by omega) (by simp; omega) ?_; intro v2n w2n hown2n hgrow2 hnil2)
          have PN2 := Lib.hid (show OwnP w2n w.heap.size v2n ((ys ++ [((k : Int), (1 : Int))]) ++ [((k : Int), ((-1) : Int))]) from ownP_snoc (by rw [HN2.out]; exact hown2n))
          have LN2 := Lib.hid (show Below w.heap.size w w2n from (LB2.out.alloc LB2.out.size _).grown hgrow2 (by simp; omega) (fun j hj => (hown2.lt j hj).1))
          clear hown2 hown2n hgrow2 hnil2
          have HN := Lib.hid (show OwnP _ w.heap.size _ (fwF xss os (k + 1)) by
            rw [HFS.out, propB_yes hA, propB_yes hB]
            simp only [if_true]
            exact PN2.out)
          clear hA hB
          go_wp2
          go_roundw
          case rel => exact ⟨k + 1, by omega, by go_num, HN, LN2⟩
          case measure => simp [intOf]; omega
        · rw [show decide (outF xss k (-1) = os) = false from decide_eq_false hB] at S2
          go_wp2_with fail
          refine S2.out.mono ?_
          rintro e w2b ⟨rfl, m2, hm2⟩
          have LD2 := Lib.hid (show Below w2a.heap.size w2a w2b by rw [hm2]; exact drew_lo _ _)
          have LB2 := Lib.hid (LA2.out.trans (LD2.out.mono LA2.out.size))
          have PB2 := Lib.hid (PA2.out.lo LD2.out)
          have hs2 := LB2.out.size
          clear hm2 LD2 S2
          have HN := Lib.hid (show OwnP _ w.heap.size _ (fwF xss os (k + 1)) by
            rw [HFS.out, propB_yes hA, propB_no hB]
            simp only [if_true, Bool.false_eq_true, if_false, List.append_nil]
            exact PB2.out)
          clear hA hB
          go_wp2
          go_roundw
          case rel => exact ⟨k + 1, by omega, by go_num, HN, LB2⟩
          case measure => simp [intOf]; omega
      · rw [show decide (outF xss k 1 = os) = false from decide_eq_false hA] at S1
        go_wp2_with fail
        refine S1.out.mono ?_
        rintro e w1b ⟨rfl, m1, hm1⟩
        have LD1 := Lib.hid (show Below w1a.heap.size w1a w1b by rw [hm1]; exact drew_lo _ _)
        have LB1 := Lib.hid (LA1.out.trans (LD1.out.mono LA1.out.size))
        have PB1 := Lib.hid (PA1.out.lo LD1.out)
        have hs1 := LB1.out.size
        clear hm1 LD1 S1
        have O2 := Lib.hid (OC.out k false w1b LB1.out hlt')
        go_wp2_with fail
        refine O2.out.mono ?_
        rintro e w2a ⟨u2r, rfl, o2, l2⟩
        have LA2 := Lib.hid (LB1.out.trans (l2.mono LB1.out.size))
        have PA2 := Lib.hid (PB1.out.lo l2)
        have S2 := Lib.hid (SM.out k (-1) u2r w2a LA2.out (show IntRow w2a u2r (outF xss k (-1)) from o2.mine.row))
        clear o2 l2 O2
        by_cases hB : outF xss k (-1) = os
        · rw [show decide (outF xss k (-1) = os) = true from decide_eq_true hB] at S2
          go_wp2_with fail
          refine S2.out.mono ?_
          rintro e w2b ⟨rfl, m2, hm2⟩
          have LD2 := Lib.hid (show Below w2a.heap.size w2a w2b by rw [hm2]; exact drew_lo _ _)
          have LB2 := Lib.hid (LA2.out.trans (LD2.out.mono LA2.out.size))
          have PB2 := Lib.hid (PA2.out.lo LD2.out)
          have hs2 := LB2.out.size
          clear hm2 LD2 S2
          have hown2 := PB2.out
          unfold OwnP at hown2
          have hyl2 : (ys).length ≤ 200 := by omega
          obtain ⟨n2, hn2⟩ : ∃ n, (ys).length = n := ⟨_, rfl⟩
          have HN2 := Lib.hid hn2
          rw [hn2] at hown2 hyl2
          clear hn2
          go_wp2_with (at_builtin; refine wpList_append_own _ rfl _ _ 49 rfl w.heap.size 64 i0 (.agg #[.int .i64 0, .int .i64 0]) 2 16 Try.underlying49 hi hz0 hz1 hz2 rfl (by decide) _ _ _ rfl (hown2.alloc _) ⟨w2b.heap.size, 0, none⟩ 1 1 (cellsF [((k : Int), ((-1) : Int))]) rfl rfl (two_new _ _ _ _) (cellsF_one [((k : Int), ((-1) : Int))]) (by unfold maxLen; omega) (by omega) (by simp; omega) ?_; intro v2n w2n hown2n hgrow2 hnil2)
          have PN2 := Lib.hid (show OwnP w2n w.heap.size v2n ((ys) ++ [((k : Int), ((-1) : Int))]) from ownP_snoc (by rw [HN2.out]; exact hown2n))
          have LN2 := Lib.hid (show Below w.heap.size w w2n from (LB2.out.alloc LB2.out.size _).grown hgrow2 (by simp; omega) (fun j hj => (hown2.lt j hj).1))
          clear hown2 hown2n hgrow2 hnil2
          have HN := Lib.hid (show OwnP _ w.heap.size _ (fwF xss os (k + 1)) by
            rw [HFS.out, propB_no hA, propB_yes hB]
            simp only [if_true, Bool.false_eq_true, if_false, List.append_nil]
            exact PN2.out)
          clear hA hB
          go_wp2
          go_roundw
          case rel => exact ⟨k + 1, by omega, by go_num, HN, LN2⟩
          case measure => simp [intOf]; omega
        · rw [show decide (outF xss k (-1) = os) = false from decide_eq_false hB] at S2
          go_wp2_with fail
          refine S2.out.mono ?_
          rintro e w2b ⟨rfl, m2, hm2⟩
          have LD2 := Lib.hid (show Below w2a.heap.size w2a w2b by rw [hm2]; exact drew_lo _ _)
          have LB2 := Lib.hid (LA2.out.trans (LD2.out.mono LA2.out.size))
          have PB2 := Lib.hid (PA2.out.lo LD2.out)
          have hs2 := LB2.out.size
          clear hm2 LD2 S2
          have HN := Lib.hid (show OwnP _ w.heap.size _ (fwF xss os (k + 1)) by
            rw [HFS.out, propB_no hA, propB_no hB]
            simp only [Bool.false_eq_true, if_false, List.append_nil]
            exact PB2.out)
          clear hA hB
          go_wp2
          go_roundw
          case rel => exact ⟨k + 1, by omega, by go_num, HN, LB2⟩
          case measure => simp [intOf]; omega
    · obtain rfl : k = N := by omega
      have hge : ¬ (k : Int) < (k : Int) := by omega
      go_wp2
      try rw [Exit.noGoto_ret]
      go_ret2
      exact ⟨_, rfl, (mineP_own HT.out (Nat.le_refl _) rfl).row, HW.out⟩
set_option maxRecDepth 100000 in
set_option maxHeartbeats 1600000 in
theorem specWith_no (n : Int) (v u : Value) (xss : List (List Int)) (os : List Int) (w : World) (hr : TabRow w v xss) (hb : SmallT xss) (hu : IntRow w u os) (ho : os.length ≤ 2000000) (h : ¬ okW n xss os) :
    Calls Try.prog 49 #[.int .i64 n, v, u] w fun e w' => ∃ u0, e = .returned (.tuple #[u0, .bool false]) ∧ LoadRow w' u0 [] ∧ Below w.heap.size w w' := by
  have A0 := Lib.hid ((Below.refl w.heap.size w).alloc (Nat.le_refl _) (.cells #[] 64))
  by_cases hg : (coinsB n && planB n xss) = true
  · have G := Lib.hid (l3Good_any n v xss true hg _ (hr.lo A0.out) hb)
    have hs : (signsB os && ((os.length : Int) == (xss.length : Int))) = false := by
      by_cases e : SignsF os
      · by_cases e2 : os.length = xss.length
        · exact absurd ⟨hg, e2, e⟩ h
        · have : ((os.length : Int) == (xss.length : Int)) = false := by simp; omega
          rw [this, Bool.and_false]
      · rw [show signsB os = false from propB_no e, Bool.false_and]
    have SG := Lib.hid (l3Signs_is u os (xss.length : Int) false hs _ (hu.lo A0.out) ho)
    have hvl : ∃ a c, v = .slice a xss.length c := by obtain ⟨a, c, e, _⟩ := hr; exact ⟨a, c, e⟩
    obtain ⟨a, c, rfl⟩ := hvl
    clear h hg hr hb hu hs
    go_enter Try.func49, Try.ntmps49
    go_wp2_with fail
    refine G.out.mono ?_
    rintro e w' ⟨rfl, rfl⟩
    go_wp2_with fail
    refine SG.out.mono ?_
    rintro e w' ⟨rfl, rfl⟩
    go_wp2
    try rw [Exit.noGoto_ret]
    go_ret2
    exact ⟨_, rfl, ⟨_, _, rfl, .inl rfl⟩, A0.out⟩
  · have hf : (coinsB n && planB n xss) = false := by simpa using hg
    have G := Lib.hid (l3Good_any n v xss false hf _ (hr.lo A0.out) hb)
    clear h hg hr hb hu hf
    go_enter Try.func49, Try.ntmps49
    go_wp2_with fail
    refine G.out.mono ?_
    rintro e w' ⟨rfl, rfl⟩
    go_wp2
    try rw [Exit.noGoto_ret]
    go_ret2
    exact ⟨_, rfl, ⟨_, _, rfl, .inl rfl⟩, A0.out⟩
theorem coinsWith_spec (n : Int) (v u : Value) (xss : List (List Int)) (os : List Int) (w : World) (hr : TabRow w v xss) (hb : SmallT xss) (hu : IntRow w u os) (ho : os.length ≤ 2000000) :
    Calls Try.prog 49 #[.int .i64 n, v, u] w fun e w' => ∃ u0, e = .returned (.tuple #[u0, .bool (withB n xss os)]) ∧ LoadRow w' u0 (withL n xss os) ∧ Below w.heap.size w w' := by
  by_cases h : okW n xss os
  · have hg' := (Bool.and_eq_true _ _).mp h.1
    obtain ⟨N, rfl⟩ : ∃ N : Nat, n = N := ⟨n.toNat, by have := hg'.1; unfold coinsB at this; simp at this; omega⟩
    rw [withL, show withB (N : Int) xss os = true from propB_yes h, if_pos rfl]
    exact specWith_yes N v u xss os w hr hb hu ho h
  · rw [withL, show withB n xss os = false from propB_no h]
    exact specWith_no n v u xss os w hr hb hu ho h
end Go.Proofs.Ytghpacgbkknhbaa
