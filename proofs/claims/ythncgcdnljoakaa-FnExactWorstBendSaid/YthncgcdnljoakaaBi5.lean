/- The contracts of both functions ConvoyRow. -/
import Derived.Test.YthncgcdnljoakaaBi4
import Derived.Test.YthncgcdnljoakaaBi3
import Derived.Test.YthncgcdnljoakaaRows1
import Derived.Test.YthncgcdnljoakaaLoadOwn
namespace Go.Proofs.Ythncgcdnljoakaa
open Go.RowKit
theorem rowL_nil (w : World) (a : Option Addr) (c : Nat) : LoadRow w (.slice a 0 c) [] := ⟨a, c, rfl, .inl rfl⟩
theorem atC_step {x : Int} {cs : List (Int × Int)} {k : Nat} (h : k < cs.length) (c q : Int) (hc : cs.getD k (0, 0) = (c, q)) : atC x (cs.take (k + 1)) = if c ≤ x then atC x (cs.take k) ++ [(x - c, q)] else atC x (cs.take k) := by
  rw [atC_take x cs k h, hc]
theorem atC_short (x : Int) (cs : List (Int × Int)) (k : Nat) : (atC x (cs.take k)).length ≤ k := by have := atC_len x (cs.take k); rw [List.length_take] at this; omega
set_option maxRecDepth 100000 in
set_option maxHeartbeats 3200000 in
theorem l6At_any (v : Value) (cs : List (Int × Int)) (x : Int) (w : World) (hr : LoadRow w v cs) (hf : ConvF cs) (x0 : 0 ≤ x) (x1 : x ≤ 60) :
    Calls Try.prog 105 #[v, .int .i64 x] w fun e w' => ∃ u, e = .returned u ∧ OwnL w' w.heap.size u (atC x cs) ∧ Below w.heap.size w w' := by
  obtain ⟨i0, hi, hz0, hz1, hz2⟩ := info_parts infoLoad
  obtain ⟨a, c, rfl, hr⟩ := hr
  have hlen := hf.short
  have HE := Lib.hid hf.each
  have HT := Lib.hid (show cs.take cs.length = cs from List.take_length)
  have HSt := Lib.hid (fun k h c q hc => atC_step (x := x) (cs := cs) (k := k) h c q hc)
  have HSh := Lib.hid (fun k => atC_short x cs k)
  have hrow0 : OwnL (w.alloc (.cells #[] 78)) w.heap.size (.slice (some ⟨w.heap.size, 0, none⟩) 0 0) (atC x (cs.take 0)) := World.ownsRow_lit w #[] 0 (Nat.le_refl _) (by decide) rfl
  have HR0 := Lib.hid hrow0
  clear hf hrow0
  go_enter Try.func105, Try.ntmps105
  go_wp2
  go_loopw [5, 6] (fun v y wr => ∃ k : Nat, k ≤ cs.length ∧ y = .int .i64 k ∧ Hid (OwnL wr w.heap.size v (atC x (cs.take k))) ∧ Hid (Below w.heap.size w wr)) (fun _ y _ => cs.length - (intOf y).toNat)
  case atStart => exact ⟨0, Nat.zero_le _, rfl, HR0, Lib.hid (below_new _ _)⟩
  case round =>
    obtain ⟨k, hk, rfl, HO, HB⟩ := hrel
    clear HR0
    by_cases hlt : k < cs.length
    · rcases hr with h | ⟨g, off, rfl, hg, hc⟩
      · subst h; simp at hlt
      obtain ⟨h1, h2⟩ := hc k hlt
      rw [← HB.out.cell (p := ⟨g, off + k * 2, none⟩) hg] at h1
      rw [← HB.out.cell (p := ⟨g, off + k * 2 + 1, none⟩) hg] at h2
      have hlt' : (k : Int) < (cs.length : Int) := by omega
      have he := HE.out k hlt
      obtain ⟨z, hz⟩ : ∃ z, cs.getD k (0, 0) = z := ⟨_, rfl⟩
      rw [hz] at h1 h2 he
      obtain ⟨p, q⟩ := z
      have HK := Lib.hid (HSt.out k hlt p q hz)
      have hsh := HSh.out k
      simp only at h1 h2 he
      obtain ⟨⟨e0, e1⟩, e2, e3⟩ := he
      clear hc hz
      by_cases hle : p ≤ x
      · have HKy := Lib.hid (show atC x (cs.take (k + 1)) = atC x (cs.take k) ++ [(x - p, q)] by rw [HK.out, if_pos hle])
        have hwu : IntKind.i64.wrap (x - p) = x - p := by rw [IntKind.wrap_i64]; omega
        obtain ⟨n, hn⟩ : ∃ n, (atC x (cs.take k)).length = n := ⟨_, rfl⟩
        have HN := Lib.hid hn
        have ho2 := HO.out
        unfold OwnL at ho2
        rw [hn] at ho2 hsh
        have hgw : w.heap.size ≤ wr.heap.size := HB.out.size
        have ag : u5.ownBlock ≠ some g := fun h => by have := (ho2.lt g h).1; omega
        clear hn HK
        go_wp2
        go_region_held3 (fun w' => w'.cell? ⟨g, off + k * 2, none⟩ = some (.int .i64 p) ∧ w'.cell? ⟨g, off + k * 2 + 1, none⟩ = some (.int .i64 q))
          (first
            | go_keep
            | (go_split_ands
               refine ⟨?_, ?_⟩
               · (rw [hgrow.cell_far _ (by simp; omega) (Ne.symm ag)]; assumption)
               · (rw [hgrow.cell_far _ (by simp; omega) (Ne.symm ag)]; assumption)))
          ((refine step_append_lies _ (by rfl) _ _ _ (by rfl) w.heap.size 78 i0 _ 2 16 Try.underlying32 hi hz0 hz1 hz2 rfl (by omega) u5 n _ (by rfl) ((ho2.alloc _).drew)
              ⟨wr.heap.size, 0, none⟩ 1 1 [.int .i64 (x - p), .int .i64 q] (by rfl) (by rfl) (World.news_of_block (cs := #[.int .i64 (x - p), .int .i64 q]) (t := 78) (fr := (0, 0)) (heap_alloc_new wr _)) (by simp [Value.oneCell'])
              (by omega) (by unfold maxLen; omega) (by omega) (by simp; omega) (wr.heap.size + 1) (by simp) ?_; intro gg cap w1 hown1 hgrow hat hlt))
        have R := Lib.hid (show OwnL w1 w.heap.size (.slice (some ⟨gg, 0, none⟩) (n + 1) cap) (atC x (cs.take (k + 1))) by
          rw [HKy.out]
          exact ownL_snoc hown1 HN.out)
        have BB := Lib.hid (show Below w.heap.size w w1 from ((HB.out.alloc HB.out.size _).drew).grown hgrow (by have := HB.out.size; simp; omega) (fun q hq => (ho2.lt q hq).1))
        clear hown1 hgrow hat hlt ag ho2 h1 h2 HO HB
        go_wp2
        go_roundw
        case rel => exact ⟨k + 1, by omega, by go_num, R, BB⟩
        case measure => simp [intOf]; omega
      · have HKy := Lib.hid (show atC x (cs.take (k + 1)) = atC x (cs.take k) by rw [HK.out, if_neg hle])
        clear HK
        go_wp2
        go_roundw
        case rel => exact ⟨k + 1, by omega, by go_num, by rw [HKy.out]; exact HO, HB⟩
        case measure => simp [intOf]; omega
    · obtain rfl : k = cs.length := by omega
      have hge : ¬ (cs.length : Int) < (cs.length : Int) := by omega
      have R := Lib.hid (show OwnL wr w.heap.size u5 (atC x cs) by have := HO.out; rw [HT.out] at this; exact this)
      clear HO
      go_wp2
      go_ret
      exact ⟨_, rfl, R.out, HB.out⟩
noncomputable def cvB (p : BeamV) (cs : List (Int × Int)) (x : Int) : Bool := convB cs && plB p x
noncomputable def cvR (p : BeamV) (cs : List (Int × Int)) (x : Int) : List (Int × Int) := if cvB p cs x = true then atC x cs else []
theorem cvB_iff (p : BeamV) (cs : List (Int × Int)) (x : Int) : cvB p cs x = true ↔ ConvF cs ∧ PlF p x := by
  unfold cvB convB
  rw [Bool.and_eq_true, propB_iff, plB_iff]
theorem cvR_len (p : BeamV) (cs : List (Int × Int)) (x : Int) : (cvR p cs x).length ≤ 2000000 := by
  unfold cvR
  split
  · rename_i h; have := atC_len x cs; have := ((cvB_iff p cs x).1 h).1.short; omega
  · simp
set_option maxRecDepth 100000 in
set_option maxHeartbeats 3200000 in
theorem specCv_any (p : BeamV) (v : Value) (cs : List (Int × Int)) (x : Int) (w : World) (hr : LoadRow w v cs) (hn : cs.length ≤ 2000000) :
    Calls Try.prog 48 #[.agg #[.int .i64 p.l, .int .i64 p.a, .int .i64 p.b], v, .int .i64 x] w fun e w' => ∃ u, e = .returned (.tuple #[u, .bool (cvB p cs x)]) ∧ LoadRow w' u (cvR p cs x) ∧ Below w.heap.size w w' := by
  have C := Lib.hid (fun w => l6Beam_any p w)
  have V := Lib.hid (fun w1 (l : Below w.heap.size w w1) => l6Convoy_any v cs w1 (hr.lo l) hn)
  have I := Lib.hid (fun w => l1In_is x 0 p.l _ rfl w)
  have A := Lib.hid (fun (h : cvB p cs x = true) w1 (l : Below w.heap.size w w1) => l6At_any v cs x w1 (hr.lo l) ((cvB_iff p cs x).1 h).1 ((cvB_iff p cs x).1 h).2.q0 (by have := ((cvB_iff p cs x).1 h).2.q1; have := ((cvB_iff p cs x).1 h).2.l1; omega))
  unfold cvR
  have HP := Lib.hid (show cvB p cs x = (beamB p && (convB cs && (decide (0 ≤ x) && decide (x ≤ p.l)))) by unfold cvB plB; cases convB cs <;> cases beamB p <;> simp)
  generalize beamB p = b1 at *
  generalize convB cs = b2 at *
  obtain ⟨b3, hb3⟩ : ∃ r, (decide (0 ≤ x) && decide (x ≤ p.l)) = r := ⟨_, rfl⟩
  rw [hb3] at I HP
  clear hb3
  generalize cvB p cs x = r at *
  have HP2 := HP.out
  subst HP2
  generalize atC x cs = R at *
  clear hr
  obtain ⟨l, a, b⟩ := p
  simp only at C I A ⊢
  obtain ⟨W, hW⟩ : ∃ W, w.alloc (.cells #[.int .i64 l, .int .i64 a, .int .i64 b] 25) = W := ⟨_, rfl⟩
  have LW := Lib.hid (show Below w.heap.size w W by rw [← hW]; exact below_new _ _)
  have BX := Lib.hid (show Cel3 W w.heap.size (.int .i64 l) (.int .i64 a) (.int .i64 b) by rw [← hW]; exact cel3_new _ _ _ _ _)
  obtain ⟨_, u0, u1, u2⟩ := BX.out
  cases b1 with
  | false =>
    go_enter Try.func48, Try.ntmps48
    go_wp2_with fail
    clear hW
    refine (C.out W).mono ?_
    rintro e w1 ⟨rfl, l1⟩
    have L1 := Lib.hid (lo_on LW.out l1)
    clear l1 C A u0 u1 u2
    go_wp2
    go_ret2
    exact ⟨_, rfl, by simpa using rowL_nil _ _ _, lo_on L1.out (below_new _ _)⟩
  | true =>
    cases b2 with
    | false =>
      go_enter Try.func48, Try.ntmps48
      go_wp2_with fail
      clear hW
      refine (C.out W).mono ?_
      rintro e w1 ⟨rfl, l1⟩
      have L1 := Lib.hid (lo_on LW.out l1)
      clear l1 C A u0 u1 u2
      go_wp2_with fail
      refine (V.out w1 L1.out).mono ?_
      rintro e w2 ⟨rfl, l2⟩
      have L2 := Lib.hid (lo_on L1.out l2)
      clear l2 V
      go_wp2
      go_ret2
      exact ⟨_, rfl, by simpa using rowL_nil _ _ _, lo_on L2.out (below_new _ _)⟩
    | true =>
      cases b3 with
      | false =>
        go_enter Try.func48, Try.ntmps48
        go_wp2_with fail
        clear hW
        refine (C.out W).mono ?_
        rintro e w1 ⟨rfl, l1⟩
        have L1 := Lib.hid (lo_on LW.out l1)
        have B1 := Lib.hid (BX.out.lo l1)
        clear l1 C A u0 u1 u2
        go_wp2_with fail
        refine (V.out w1 L1.out).mono ?_
        rintro e w2 ⟨rfl, l2⟩
        have L2 := Lib.hid (lo_on L1.out l2)
        obtain ⟨_, x0, x1, x2⟩ := B1.out.lo l2
        clear l2 V
        go_wp2_with fail
        refine (I.out _).mono ?_
        rintro e w' ⟨rfl, rfl⟩
        clear x0 x1 x2
        go_wp2
        go_ret2
        exact ⟨_, rfl, by simpa using rowL_nil _ _ _, lo_on L2.out (below_new _ _)⟩
      | true =>
        go_enter Try.func48, Try.ntmps48
        go_wp2_with fail
        clear hW
        refine (C.out W).mono ?_
        rintro e w1 ⟨rfl, l1⟩
        have L1 := Lib.hid (lo_on LW.out l1)
        have B1 := Lib.hid (BX.out.lo l1)
        clear l1 C u0 u1 u2
        go_wp2_with fail
        refine (V.out w1 L1.out).mono ?_
        rintro e w2 ⟨rfl, l2⟩
        have L2 := Lib.hid (lo_on L1.out l2)
        obtain ⟨_, x0, x1, x2⟩ := B1.out.lo l2
        have AA := Lib.hid (A.out (by rfl) w2 L2.out)
        clear l2 V A
        go_wp2_with fail
        refine (I.out _).mono ?_
        rintro e w' ⟨rfl, rfl⟩
        clear x0 x1 x2
        go_wp2_with fail
        refine AA.out.mono ?_
        rintro e w3 ⟨u, rfl, m, l3⟩
        have M := Lib.hid (loadRow_own m)
        have L3 := Lib.hid (lo_on L2.out l3)
        clear m l3 AA
        go_wp2
        go_ret2
        exact ⟨_, rfl, by simpa using M.out, L3.out⟩
theorem mineL_ownB {w : World} {B B' : Nat} {v : Value} {xs : List (Int × Int)} (h : OwnL w B v xs) (hB : B' ≤ B) : MineL w B' w.heap.size v xs := by
  rcases mineL_own h with h1 | ⟨g, c, e, h1, h2⟩
  · exact .inl h1
  · exact .inr ⟨g, c, e, by omega, h2⟩
set_option maxHeartbeats 800000 in
theorem cv_no (p : BeamV) (v : Value) (cs : List (Int × Int)) (x : Int) (w : World) (hr : LoadRow w v cs) (hf : cvB p cs x = false) :
    Calls Try.prog 49 #[.agg #[.int .i64 p.l, .int .i64 p.a, .int .i64 p.b], v, .int .i64 x] w fun e w' => e = .returned (.tuple #[.slice none 0 0, .bool false]) ∧ Below w.heap.size w w' := by
  have V := Lib.hid (fun w1 (l : Below w.heap.size w w1) => isConvoy_any v cs w1 (hr.lo l))
  have P := Lib.hid (fun w => isPl_any p x w)
  unfold cvB at hf
  generalize convB cs = b1 at *
  generalize plB p x = b2 at *
  clear hr
  obtain ⟨l, a, b⟩ := p
  simp only at P ⊢
  obtain ⟨W, hW⟩ : ∃ W, w.alloc (.cells #[.int .i64 l, .int .i64 a, .int .i64 b] 25) = W := ⟨_, rfl⟩
  have LW := Lib.hid (show Below w.heap.size w W by rw [← hW]; exact below_new _ _)
  have BX := Lib.hid (show Cel3 W w.heap.size (.int .i64 l) (.int .i64 a) (.int .i64 b) by rw [← hW]; exact cel3_new _ _ _ _ _)
  obtain ⟨_, u0, u1, u2⟩ := BX.out
  cases b1 with
  | false =>
    go_enter Try.func49, Try.ntmps49
    go_wp2_with fail
    clear hW
    refine (V.out W LW.out).mono ?_
    rintro e w1 ⟨rfl, l1⟩
    go_wp2
    go_ret2
    exact ⟨rfl, lo_on LW.out l1⟩
  | true =>
    obtain rfl : b2 = false := hf
    go_enter Try.func49, Try.ntmps49
    go_wp2_with fail
    clear hW
    refine (V.out W LW.out).mono ?_
    rintro e w1 ⟨rfl, l1⟩
    have L1 := Lib.hid (lo_on LW.out l1)
    obtain ⟨_, x0, x1, x2⟩ := BX.out.lo l1
    clear l1 V u0 u1 u2
    go_wp2_with fail
    refine (P.out w1).mono ?_
    rintro e w2 ⟨rfl, l2⟩
    go_wp2
    go_ret2
    exact ⟨rfl, lo_on L1.out l2⟩
set_option maxRecDepth 100000 in
set_option maxHeartbeats 3200000 in
theorem cv_yes (p : BeamV) (v : Value) (cs : List (Int × Int)) (x : Int) (w : World) (hr : LoadRow w v cs) (hf : ConvF cs) (hp : PlF p x) :
    Calls Try.prog 49 #[.agg #[.int .i64 p.l, .int .i64 p.a, .int .i64 p.b], v, .int .i64 x] w fun e w' => ∃ u, e = .returned (.tuple #[u, .bool true]) ∧ MineL w' w.heap.size w'.heap.size u (atC x cs) ∧ Below w.heap.size w w' := by
  obtain ⟨i0, hi, hz0, hz1, hz2⟩ := info_parts infoLoad
  have V := Lib.hid (fun w1 (l : Below w.heap.size w w1) => by have := isConvoy_any v cs w1 (hr.lo l); rw [show convB cs = true from propB_yes hf] at this; exact this)
  have P := Lib.hid (fun w => isPl_is p x true ((plB_iff p x).2 hp) w)
  obtain ⟨av, c, rfl, hr⟩ := hr
  have hlen := hf.short
  have x0 := hp.q0
  have x1 : x ≤ 60 := by have := hp.q1; have := hp.l1; omega
  have HE := Lib.hid hf.each
  have HT := Lib.hid (show cs.take cs.length = cs from List.take_length)
  have HSt := Lib.hid (fun k h c q hc => atC_step (x := x) (cs := cs) (k := k) h c q hc)
  have HSh := Lib.hid (fun k => atC_short x cs k)
  clear hf hp
  obtain ⟨l, a, b⟩ := p
  simp only at P ⊢
  obtain ⟨W, hW⟩ : ∃ W, w.alloc (.cells #[.int .i64 l, .int .i64 a, .int .i64 b] 25) = W := ⟨_, rfl⟩
  have LW := Lib.hid (show Below w.heap.size w W by rw [← hW]; exact below_new _ _)
  have BX := Lib.hid (show Cel3 W w.heap.size (.int .i64 l) (.int .i64 a) (.int .i64 b) by rw [← hW]; exact cel3_new _ _ _ _ _)
  obtain ⟨_, u0, u1, u2⟩ := BX.out
  have hsw := LW.out.size
  go_enter Try.func49, Try.ntmps49
  go_wp2_with fail
  clear hW
  refine (V.out W LW.out).mono ?_
  rintro e w1 ⟨rfl, l1⟩
  have L1 := Lib.hid (lo_on LW.out l1)
  obtain ⟨_, z0, z1, z2⟩ := BX.out.lo l1
  clear l1 V u0 u1 u2
  go_wp2_with fail
  refine (P.out w1).mono ?_
  rintro e w2 ⟨rfl, l2⟩
  have L2 := Lib.hid (lo_on L1.out l2)
  have hs2 := L2.out.size
  have O2 := Lib.hid (show OwnL w2 w.heap.size (.slice none 0 0) (atC x (cs.take 0)) from World.ownsRow_nil _ _ _ _)
  clear l2 z0 z1 z2
  go_wp2
  go_loopw [8, 22] (fun v y wr => ∃ k : Nat, k ≤ cs.length ∧ y = .int .i64 k ∧ Hid (OwnL wr w.heap.size v (atC x (cs.take k))) ∧ Hid (Below w.heap.size w wr)) (fun _ y _ => cs.length - (intOf y).toNat)
  case atStart => exact ⟨0, Nat.zero_le _, rfl, O2, L2⟩
  case round =>
    obtain ⟨k, hk, rfl, HO, HB⟩ := hrel
    clear O2
    by_cases hlt : k < cs.length
    · rcases hr with h | ⟨g, off, rfl, hg, hc⟩
      · subst h; simp at hlt
      obtain ⟨h1, h2⟩ := hc k hlt
      rw [← HB.out.cell (p := ⟨g, off + k * 2, none⟩) hg] at h1
      rw [← HB.out.cell (p := ⟨g, off + k * 2 + 1, none⟩) hg] at h2
      have hlt' : (k : Int) < (cs.length : Int) := by omega
      have he := HE.out k hlt
      obtain ⟨z, hz⟩ : ∃ z, cs.getD k (0, 0) = z := ⟨_, rfl⟩
      rw [hz] at h1 h2 he
      obtain ⟨p, q⟩ := z
      have HK := Lib.hid (HSt.out k hlt p q hz)
      have hsh := HSh.out k
      simp only at h1 h2 he
      obtain ⟨⟨e0, e1⟩, e2, e3⟩ := he
      clear hc hz
      by_cases hle : p ≤ x
      · have HKy := Lib.hid (show atC x (cs.take (k + 1)) = atC x (cs.take k) ++ [(x - p, q)] by rw [HK.out, if_pos hle])
        obtain ⟨n, hn⟩ : ∃ n, (atC x (cs.take k)).length = n := ⟨_, rfl⟩
        have HN := Lib.hid hn
        have ho1 := HO.out
        unfold OwnL at ho1
        rw [hn] at ho1 hsh
        have ho2 := (ho1.alloc (.cells #[.int .i64 p, .int .i64 q] 78)).alloc (.cells #[.int .i64 (x - p), .int .i64 q] 78)
        have hgw := HB.out.size
        clear hn HK ho1
        go_wp2_with (at_builtin; refine wpList_append_lies _ rfl _ _ 32 rfl w.heap.size 78 i0 (.agg #[.int .i64 0, .int .i64 0]) 2 16 Try.underlying32 hi hz0 hz1 hz2 rfl (by decide) _ _ _ rfl ho2 ⟨wr.heap.size + 1, 0, none⟩ 1 1 (cellsF [(x - p, q)]) rfl rfl (fun j u hj => by have := two_new (wr.alloc (.cells #[.int .i64 p, .int .i64 q] 78)) (x - p) q 78 j u hj; simpa using this) (cellsF_one _) (by omega) (by unfold maxLen; omega) (by omega) (by simp; omega) (wr.heap.size + 1 + 1) (by simp) ?_; intro gg cap w4 hown4 hgrow4 hat4 hlt4)
        have R := Lib.hid (show OwnL w4 w.heap.size (.slice (some ⟨gg, 0, none⟩) (n + 1) cap) (atC x (cs.take (k + 1))) by
          rw [HKy.out]
          exact ownL_snoc hown4 HN.out)
        have BB := Lib.hid (show Below w.heap.size w w4 from (lo_on HB.out (lo_on (below_new wr _) (below_new _ _))).grown hgrow4 (by simp; omega) (fun j hj => (ho2.lt j hj).1))
        clear hown4 hgrow4 hat4 hlt4 ho2 h1 h2 HO HB
        go_wp2
        go_roundw
        case rel => exact ⟨k + 1, by omega, by go_num, R, BB⟩
        case measure => simp [intOf]; omega
      · have HKy := Lib.hid (show atC x (cs.take (k + 1)) = atC x (cs.take k) by rw [HK.out, if_neg hle])
        have RO := Lib.hid (fun ob => show OwnL (wr.alloc ob) w.heap.size u8 (atC x (cs.take (k + 1))) by rw [HKy.out]; exact World.ownsRow.alloc HO.out ob)
        have RB := Lib.hid (fun ob => show Below w.heap.size w (wr.alloc ob) from lo_on HB.out (below_new wr ob))
        clear HK
        go_wp2
        go_roundw
        case rel => exact ⟨k + 1, by omega, by go_num, Lib.hid (RO.out _), Lib.hid (RB.out _)⟩
        case measure => simp [intOf]; omega
    · obtain rfl : k = cs.length := by omega
      have hge : ¬ (cs.length : Int) < (cs.length : Int) := by omega
      have R := Lib.hid (show MineL wr w.heap.size wr.heap.size u8 (atC x cs) by have := HO.out; rw [HT.out] at this; exact mineL_ownB this (Nat.le_refl _))
      clear HO
      go_wp2
      go_ret2
      exact ⟨_, rfl, R.out, HB.out⟩
theorem cv_any (p : BeamV) (v : Value) (cs : List (Int × Int)) (x : Int) (w : World) (hr : LoadRow w v cs) :
    Calls Try.prog 49 #[.agg #[.int .i64 p.l, .int .i64 p.a, .int .i64 p.b], v, .int .i64 x] w fun e w' => ∃ u, e = .returned (.tuple #[u, .bool (cvB p cs x)]) ∧ MineL w' w.heap.size w'.heap.size u (cvR p cs x) ∧ Below w.heap.size w w' := by
  unfold cvR
  cases h : cvB p cs x with
  | true =>
    obtain ⟨h1, h2⟩ := (cvB_iff p cs x).1 h
    simpa using cv_yes p v cs x w hr h1 h2
  | false =>
    refine (cv_no p v cs x w hr h).mono ?_
    rintro e w' ⟨rfl, l⟩
    exact ⟨_, rfl, by simpa using mineL_nil _ _ _ _ _, l⟩
end Go.Proofs.Ythncgcdnljoakaa
