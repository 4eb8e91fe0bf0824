/- The walk of the law on counters. -/
import Derived.Test.YtjchmjbgboeolaaCount7
import Derived.Test.YtjchmjbgboeolaaRowDraw3
import Derived.Deep.DeepCutAuto
namespace Go.Proofs.Ytjchmjbgboeolaa
open Go.RowKit
theorem rBig_any (a : Option Addr) (len cap : Nat) (w : World) :
    Calls Try.prog 30 #[.slice a len cap] w fun e w' => e = .returned (.bool (decide (65536 < (len : Int)))) ∧ w = w' := by
  go_enter Try.func30, Try.ntmps30
  go_wp2
  go_ret
  exact ⟨rfl, rfl⟩
theorem code_end {w : World} {a : Option Addr} {len : Nat} (h : CodeAt w w.heap.size a len) {w' : World} (l : Lo w w') : CodeAt w' w'.heap.size a len := by
  have h2 := h.lo l (Nat.le_refl _)
  rcases h2 with h2 | ⟨b, off, e, hb, hc⟩
  · exact .inl h2
  · exact .inr ⟨b, off, e, Nat.lt_of_lt_of_le hb l.size, hc⟩
/-- A row at an address can be appended. -/
def SNews (w : World) (g off : Nat) (xs : List (Int × Int)) : Prop := (xs = [] ∨ g < w.heap.size) ∧ ∀ j u, (cellsF xs)[j]? = some u → w.cell? ((⟨g, off, none⟩ : Addr).add j) = some u
theorem SNews.lo {w w' : World} {g off : Nat} {xs : List (Int × Int)} (h : SNews w g off xs) (l : Lo w w') : SNews w' g off xs :=
  ⟨h.1.imp id (fun hh => Nat.lt_of_lt_of_le hh l.size), row_news h.1 h.2 l⟩
theorem SNews.load {w : World} {g off c : Nat} {xs : List (Int × Int)} (h : SNews w g off xs) : SRow w (.slice (some ⟨g, off, none⟩) xs.length c) xs := by
  refine ⟨g, off, c, rfl, h.1, fun j hj => ?_⟩
  have hc := cellsF_at xs j hj
  have h1 := h.2 _ _ hc.1
  have h2 := h.2 _ _ hc.2
  rw [Go.WideShapes.add_plain] at h1 h2
  exact ⟨h1, by rw [Nat.add_assoc]; exact h2⟩
theorem sNews_of {w : World} {v : Value} {xs : List (Int × Int)} (h : SRow w v xs) : ∃ g off c, v = .slice (some ⟨g, off, none⟩) xs.length c ∧ SNews w g off xs := by
  obtain ⟨g, off, c, rfl, hg, hc⟩ := h
  exact ⟨g, off, c, rfl, hg, loadRow_news hc⟩
set_option maxRecDepth 100000 in
set_option maxHeartbeats 3200000 in
theorem counters_walk (a0 : Option Addr) (len0 cap0 : Nat) (w : World) (hcode : CodeAt w w.heap.size a0 len0) :
    Calls Try.prog 10 #[.slice a0 len0 cap0] w fun e w' => e = .returned (.bool true) ∧ Below w.heap.size w w' := by
  obtain ⟨i0, hi, hz0, hz1, hz2⟩ := info_parts infoLoad
  have HC := Lib.hid hcode
  clear hcode
  go_enter Try.func10, Try.ntmps10
  go_wp2_with fail
  refine (rBig_any a0 len0 cap0 w).mono ?_
  rintro e w' ⟨rfl, rfl⟩
  by_cases hbig : (65536 : Int) < (len0 : Int)
  · go_wp2
    go_ret
    exact ⟨rfl, Below.refl _ _⟩
  go_wp2_with fail
  refine (drawStand_any a0 len0 cap0 w HC.out).mono ?_
  rintro e w1 ⟨v1, xs, a, b, m, rfl, r1, hx13, l1⟩
  have L1 := Lib.hid l1
  obtain ⟨g, off, c, rfl, n1⟩ := sNews_of r1
  have N1 := Lib.hid n1
  have I1 := Lib.hid (standPlaces_is _ xs a b m w1 r1)
  clear r1 n1 l1
  go_wp2_with fail
  refine I1.out.mono ?_
  rintro e w2 ⟨rfl, l2⟩
  have L2 := Lib.hid (lo_on L1.out l2)
  have N2 := Lib.hid (N1.out.lo l2)
  have I2 := Lib.hid (specPlaces_is _ xs a b m w2 (N2.out.load (c := c)))
  clear I1 l2 L1 N1
  go_wp2_with fail
  refine I2.out.mono ?_
  rintro e w3 ⟨rfl, l3⟩
  have L3 := Lib.hid (lo_on L2.out l3)
  have N3 := Lib.hid (N2.out.lo l3)
  clear I2 l3 L2 N2
  have PT := Lib.hid (places_told xs a b m)
  generalize loF (fun k : Nat => standB xs a b ((k : Int), m)) 61 = lo at *
  generalize hiF (fun k : Nat => standB xs a b ((k : Int), m)) 61 = hi' at *
  generalize fdF (fun k : Nat => standB xs a b ((k : Int), m)) 61 = fd at *
  go_wp2_with fail
  refine (drawLeast_any a0 len0 cap0 w3 (code_end HC.out L3.out)).mono ?_
  rintro e w4 ⟨v4, ys, d, f, p, rfl, r4, hy13, l4⟩
  have L4 := Lib.hid (lo_on L3.out l4)
  have N4 := Lib.hid (N3.out.lo l4)
  obtain ⟨g', off', c', rfl, m4⟩ := sNews_of r4
  have M4 := Lib.hid m4
  have I4 := Lib.hid (least_is ys d f p _ w4 r4)
  clear r4 m4 l4 L3 N3
  go_wp2_with fail
  refine I4.out.mono ?_
  rintro e w5 ⟨rfl, l5⟩
  have L5 := Lib.hid (lo_on L4.out l5)
  have N5 := Lib.hid (N4.out.lo l5)
  have M5 := Lib.hid (M4.out.lo l5)
  have I5 := Lib.hid (specLeast_is ys d f p _ w5 (M5.out.load (c := c')))
  clear I4 l5 L4 N4 M4
  go_wp2_with fail
  refine I5.out.mono ?_
  rintro e w6 ⟨rfl, l6⟩
  have L6 := Lib.hid (lo_on L5.out l6)
  have N6 := Lib.hid (N5.out.lo l6)
  have M6 := Lib.hid (M5.out.lo l6)
  have I6 := Lib.hid (most_is ys d f p _ w6 (M6.out.load (c := c')))
  clear I5 l6 L5 N5 M5
  go_wp2_with fail
  refine I6.out.mono ?_
  rintro e w7 ⟨rfl, l7⟩
  have L7 := Lib.hid (lo_on L6.out l7)
  have N7 := Lib.hid (N6.out.lo l7)
  have M7 := Lib.hid (M6.out.lo l7)
  have I7 := Lib.hid (specMost_is ys d f p _ w7 (M7.out.load (c := c')))
  clear I6 l7 L6 N6 M6
  go_wp2_with fail
  refine I7.out.mono ?_
  rintro e w8 ⟨rfl, l8⟩
  have L8 := Lib.hid (lo_on L7.out l8)
  have N8 := Lib.hid (N7.out.lo l8)
  have M8 := Lib.hid (M7.out.lo l8)
  clear I7 l8 L7 N7 M7
  have LT := Lib.hid (least_told ys d f p)
  have MT := Lib.hid (most_told ys d f p)
  generalize (lcR ys d f p).1 = cn at *
  generalize (lcR ys d f p).2 = one at *
  generalize (meR ys d f p).1 = mo at *
  generalize (meR ys d f p).2 = two at *
  go_upto_if 130 with (fail)
  go_cut [] (fun wx => Hid (Lo w8 wx))
  case first =>
    cases fd
    · go_wp2
      go_meet
      exact Lib.hid (Below.refl _ _)
    · obtain ⟨hz, hb, hl12, hm, hq⟩ := PT.out rfl
      have TS := Lib.hid (fun (k : Nat) (hk : k ≤ 60) v2 w2 (o : LoadRow w2 v2 (xs ++ [((k : Int), m)])) => tipSide_yes v2 (xs ++ [((k : Int), m)]) a b w2 o (rowF_snoc hz hl12 ⟨by simp; omega, hm⟩) hb)
      have HQ := Lib.hid hq
      clear hz hb hm hq PT LT MT
      go_wp2
      go_loopw [25] (fun q wr => ∃ k : Nat, k ≤ 61 ∧ q = .int .i64 k ∧ Hid (Lo w8 wr)) (fun q _ => 61 - (intOf q).toNat)
      case atStart => exact ⟨0, by omega, rfl, Lib.hid (Below.refl _ _)⟩
      case round =>
        obtain ⟨k, hk, rfl, HW⟩ := hrel
        by_cases hlt : k ≤ 60
        · have hlt' : (k : Int) ≤ 60 := by omega
          have H1 := Lib.hid ((N8.out.lo HW.out).lo (lo_alloc wr (.cells #[] 46)))
          have hrow0 := own_empty wr
          have hq := HQ.out k hlt
          have T1 := Lib.hid (TS.out k hlt)
          generalize hsd : sideF a b (xs ++ [((k : Int), m)]) = s at hq T1
          clear hsd
          by_cases hs : s = 0
          · obtain ⟨q1, q2⟩ := hq.1 hs
            have hsb : (s == 0) = true := by simpa using hs
            clear hs hq
            go_wp2_with (first
        | (at_builtin; refine wpList_append_own _ rfl _ _ 24 rfl wr.heap.size 46 i0 (.agg #[.int .i64 0, .int .i64 0]) 2 16 Try.underlying24 hi hz0 hz1 hz2 rfl (by decide) _ _ _ rfl hrow0 ⟨g, off, none⟩ xs.length c (cellsF xs) rfl (cellsF_len xs) H1.out.2 (cellsF_one xs) (by unfold maxLen; omega) (by omega) (by simp) ?_; intro va wa howna hgrowa hnila; have Ba := ((Below.refl wr.heap.size wr).alloc (Nat.le_refl _) _).grown hgrowa (by simp) (fun q hq => (hrow0.lt q hq).1))
        | (at_builtin; refine wpList_append_own _ rfl _ _ 24 rfl wr.heap.size 46 i0 (.agg #[.int .i64 0, .int .i64 0]) 2 16 Try.underlying24 hi hz0 hz1 hz2 rfl (by decide) _ _ _ rfl (howna.alloc _) ⟨wa.heap.size, 0, none⟩ 1 1 (cellsF [((k : Int), m)]) rfl rfl (two_new wa _ _ _) (cellsF_one _) (by unfold maxLen; omega) (by omega) (by have := Ba.size; simp; omega) ?_; intro vb wb hownb hgrowb hnilb))
            have RB := Lib.hid (show OwnL wb wr.heap.size vb (xs ++ [((k : Int), m)]) from ownL_app (by rw [Nat.zero_add] at hownb; exact hownb) rfl rfl)
            have BB := Lib.hid ((Ba.alloc Ba.size _).grown hgrowb (by have := Ba.size; simp; omega) (fun q hq => (howna.lt q hq).1))
            clear howna hownb hgrowa hgrowb hnila hnilb Ba hrow0 H1

            have T2 := Lib.hid (T1.out vb wb (loadRow_own RB.out))
            clear T1 RB
            go_wp2_with fail
            refine T2.out.mono ?_
            rintro e wt ⟨rfl, lt⟩
            have LW := Lib.hid (lo_on HW.out (lo_on BB.out lt))
            clear lt BB T2 HW
            go_wp2
            go_roundw
            case rel => exact ⟨k + 1, by omega, by go_num, LW⟩
            case measure => simp [intOf]; omega
          · have hsb : (s == 0) = false := by simpa using hs
            have hnq : ¬ (lo ≤ (k : Int) ∧ (k : Int) ≤ hi') := fun h => hs (hq.2 h)
            clear hs hq
            by_cases q1 : lo ≤ (k : Int)
            case' pos => have q2 : ¬ (k : Int) ≤ hi' := fun h => hnq ⟨q1, h⟩
            all_goals
              (clear hnq
               go_wp2_with (first
                | (at_builtin; refine wpList_append_own _ rfl _ _ 24 rfl wr.heap.size 46 i0 (.agg #[.int .i64 0, .int .i64 0]) 2 16 Try.underlying24 hi hz0 hz1 hz2 rfl (by decide) _ _ _ rfl hrow0 ⟨g, off, none⟩ xs.length c (cellsF xs) rfl (cellsF_len xs) H1.out.2 (cellsF_one xs) (by unfold maxLen; omega) (by omega) (by simp) ?_; intro va wa howna hgrowa hnila; have Ba := ((Below.refl wr.heap.size wr).alloc (Nat.le_refl _) _).grown hgrowa (by simp) (fun q hq => (hrow0.lt q hq).1))
                | (at_builtin; refine wpList_append_own _ rfl _ _ 24 rfl wr.heap.size 46 i0 (.agg #[.int .i64 0, .int .i64 0]) 2 16 Try.underlying24 hi hz0 hz1 hz2 rfl (by decide) _ _ _ rfl (howna.alloc _) ⟨wa.heap.size, 0, none⟩ 1 1 (cellsF [((k : Int), m)]) rfl rfl (two_new wa _ _ _) (cellsF_one _) (by unfold maxLen; omega) (by omega) (by have := Ba.size; simp; omega) ?_; intro vb wb hownb hgrowb hnilb))
               have RB := Lib.hid (show OwnL wb wr.heap.size vb (xs ++ [((k : Int), m)]) from ownL_app (by rw [Nat.zero_add] at hownb; exact hownb) rfl rfl)
               have BB := Lib.hid ((Ba.alloc Ba.size _).grown hgrowb (by have := Ba.size; simp; omega) (fun q hq => (howna.lt q hq).1))
               clear howna hownb hgrowa hgrowb hnila hnilb Ba hrow0 H1

               have T2 := Lib.hid (T1.out vb wb (loadRow_own RB.out))
               clear T1 RB
               go_wp2_with fail
               refine T2.out.mono ?_
               rintro e wt ⟨rfl, lt⟩
               have LW := Lib.hid (lo_on HW.out (lo_on BB.out lt))
               clear lt BB T2 HW
               go_wp2
               go_roundw
               case rel => exact ⟨k + 1, by omega, by go_num, LW⟩
               case measure => simp [intOf]; omega)
        · obtain rfl : k = 61 := by omega
          go_wp2
          go_meet
          exact HW
  case rest =>
    have L9 := Lib.hid (lo_on L8.out hcut.out)
    have M9 := Lib.hid (M8.out.lo hcut.out)
    clear L8 M8 N8 PT hcut
    go_upto_if 164 with (fail)
    go_cut [] (fun wx => Hid (Lo wc wx))
    case first =>
      clear MT L9
      cases one
      · go_wp2
        go_meet
        exact Lib.hid (Below.refl _ _)
      · obtain ⟨hz, hb, hp, hn⟩ := LT.out rfl
        have T0 := Lib.hid (tipSide_yes (.slice (some ⟨g', off', none⟩) ys.length c') ys d f wc M9.out.load.load hz hb)
        clear LT
        go_wp2_with fail
        refine T0.out.mono ?_
        rintro e wt ⟨rfl, lt⟩
        have LA := Lib.hid lt
        clear T0 lt
        rcases hn with ⟨hs, rfl⟩ | ⟨hs, n, rfl, n1, n99, hl12, hsn, hprev⟩
        · rw [hs]
          clear hs hz hb hp M9
          go_wp2
          go_loopw [30] (fun q wr => q = .int .i64 (-1) ∧ Hid (Lo wc wr)) (fun q _ => 0)
          case atStart => exact ⟨rfl, LA⟩
          case round =>
            obtain ⟨rfl, HW⟩ := hrel
            go_wp2
            go_meet
            exact HW
        · have hsb : (sideF d f ys == 0) = false := by simpa using hs
          generalize sideF d f ys = s0 at *
          have TS := Lib.hid (fun (j : Int) (hj : 1 ≤ j ∧ j ≤ 99) v2 w2 (o : LoadRow w2 v2 (ys ++ [(p, j)])) => tipSide_yes v2 (ys ++ [(p, j)]) d f w2 o (rowF_snoc hz hl12 ⟨hp, hj⟩) hb)
          have HS := Lib.hid (show ∀ j : Int, 1 ≤ j → (j = (n : Int) - 1 ∨ j = n) → (sideF d f (ys ++ [(p, j)]) = 0 ↔ j = n) from by
            rintro j hj (rfl | rfl)
            · have := hprev (by omega)
              rw [show ((n - 1 : Nat) : Int) = (n : Int) - 1 from by omega] at this
              exact ⟨fun h => absurd h this, fun h => by omega⟩
            · exact ⟨fun _ => rfl, fun _ => hsn⟩)
          clear hz hb hp hs hsn hprev hl12
          have hn0 : ((n : Int) == 0) = false := by simp; omega
          go_wp2
          clear hn0
          go_loopw [30] (fun q wr => ∃ j : Int, ((n : Int) - 1 ≤ j ∧ j ≤ n + 1) ∧ q = .int .i64 j ∧ Hid (Lo wc wr)) (fun q _ => ((n : Int) + 1 - intOf q).toNat)
          case atStart => exact ⟨(n : Int) - 1, by omega, by go_num, LA⟩
          case round =>
            obtain ⟨j, ⟨hj1, hj2⟩, rfl, HW⟩ := hrel
            by_cases hlt : j ≤ n
            · by_cases hj0 : j = 0
              · subst hj0
                go_wp2
                go_roundw
                case rel => exact ⟨1, by omega, by go_num, HW⟩
                case measure => first | (simp [intOf]; done) | (simp [intOf]; omega)
              · have H1 := Lib.hid ((M9.out.lo HW.out).lo (lo_alloc wr (.cells #[] 46)))
                have hrow0 := own_empty wr
                have hq := HS.out j (by omega) (by omega)
                have T1 := Lib.hid (TS.out j (by omega))
                generalize hsd : sideF d f (ys ++ [(p, j)]) = s at hq T1
                clear hsd
                by_cases hjn : j = n
                · have hs : s = 0 := hq.2 hjn
                  subst hjn
                  clear hq
                  subst hs
                  go_wp2_with (first
                   | (at_builtin; refine wpList_append_own _ rfl _ _ 24 rfl wr.heap.size 46 i0 (.agg #[.int .i64 0, .int .i64 0]) 2 16 Try.underlying24 hi hz0 hz1 hz2 rfl (by decide) _ _ _ rfl hrow0 ⟨g', off', none⟩ ys.length c' (cellsF ys) rfl (cellsF_len ys) H1.out.2 (cellsF_one ys) (by unfold maxLen; omega) (by omega) (by simp) ?_; intro va wa howna hgrowa hnila; have Ba := ((Below.refl wr.heap.size wr).alloc (Nat.le_refl _) _).grown hgrowa (by simp) (fun q hq => (hrow0.lt q hq).1))
                   | (at_builtin; refine wpList_append_own _ rfl _ _ 24 rfl wr.heap.size 46 i0 (.agg #[.int .i64 0, .int .i64 0]) 2 16 Try.underlying24 hi hz0 hz1 hz2 rfl (by decide) _ _ _ rfl (howna.alloc _) ⟨wa.heap.size, 0, none⟩ 1 1 (cellsF [(p, (n : Int))]) rfl rfl (two_new wa _ _ _) (cellsF_one _) (by unfold maxLen; omega) (by omega) (by have := Ba.size; simp; omega) ?_; intro vb wb hownb hgrowb hnilb))
                  have RB := Lib.hid (show OwnL wb wr.heap.size vb (ys ++ [(p, (n : Int))]) from ownL_app (by rw [Nat.zero_add] at hownb; exact hownb) rfl rfl)
                  have BB := Lib.hid ((Ba.alloc Ba.size _).grown hgrowb (by have := Ba.size; simp; omega) (fun q hq => (howna.lt q hq).1))
                  clear howna hownb hgrowa hgrowb hnila hnilb Ba hrow0 H1
                  have T2 := Lib.hid (T1.out vb wb (loadRow_own RB.out))
                  clear T1 RB
                  go_wp2_with fail
                  refine T2.out.mono ?_
                  rintro e wt ⟨rfl, lt⟩
                  have LW := Lib.hid (lo_on HW.out (lo_on BB.out lt))
                  clear lt BB T2 HW
                  go_wp2
                  go_roundw
                  case rel => first | exact ⟨(n : Int) + 1, by omega, by go_num, LW⟩ | ((repeat apply Exists.intro); exact ⟨⟨(n : Int) + 1, by omega, by go_num, LW⟩, rfl⟩)
                  case measure => first | (simp [intOf]; done) | (simp [intOf]; omega)
                · have hs : ¬ s = 0 := fun h => hjn (hq.1 h)
                  have hsb2 : (s == 0) = false := by simpa using hs
                  clear hq
                  go_wp2_with (first
                   | (at_builtin; refine wpList_append_own _ rfl _ _ 24 rfl wr.heap.size 46 i0 (.agg #[.int .i64 0, .int .i64 0]) 2 16 Try.underlying24 hi hz0 hz1 hz2 rfl (by decide) _ _ _ rfl hrow0 ⟨g', off', none⟩ ys.length c' (cellsF ys) rfl (cellsF_len ys) H1.out.2 (cellsF_one ys) (by unfold maxLen; omega) (by omega) (by simp) ?_; intro va wa howna hgrowa hnila; have Ba := ((Below.refl wr.heap.size wr).alloc (Nat.le_refl _) _).grown hgrowa (by simp) (fun q hq => (hrow0.lt q hq).1))
                   | (at_builtin; refine wpList_append_own _ rfl _ _ 24 rfl wr.heap.size 46 i0 (.agg #[.int .i64 0, .int .i64 0]) 2 16 Try.underlying24 hi hz0 hz1 hz2 rfl (by decide) _ _ _ rfl (howna.alloc _) ⟨wa.heap.size, 0, none⟩ 1 1 (cellsF [(p, j)]) rfl rfl (two_new wa _ _ _) (cellsF_one _) (by unfold maxLen; omega) (by omega) (by have := Ba.size; simp; omega) ?_; intro vb wb hownb hgrowb hnilb))
                  have RB := Lib.hid (show OwnL wb wr.heap.size vb (ys ++ [(p, j)]) from ownL_app (by rw [Nat.zero_add] at hownb; exact hownb) rfl rfl)
                  have BB := Lib.hid ((Ba.alloc Ba.size _).grown hgrowb (by have := Ba.size; simp; omega) (fun q hq => (howna.lt q hq).1))
                  clear howna hownb hgrowa hgrowb hnila hnilb Ba hrow0 H1
                  have T2 := Lib.hid (T1.out vb wb (loadRow_own RB.out))
                  clear T1 RB
                  go_wp2_with fail
                  refine T2.out.mono ?_
                  rintro e wt ⟨rfl, lt⟩
                  have LW := Lib.hid (lo_on HW.out (lo_on BB.out lt))
                  clear lt BB T2 HW
                  go_wp2
                  go_roundw
                  case rel => first | exact ⟨j + 1, by omega, by go_num, LW⟩ | ((repeat apply Exists.intro); exact ⟨⟨j + 1, by omega, by go_num, LW⟩, rfl⟩)
                  case measure => first | (simp [intOf]; done) | (simp [intOf]; omega)
            · obtain rfl : j = n + 1 := by omega
              go_wp2
              go_meet
              exact HW
    case rest =>
      clear LT
      have LX := Lib.hid (lo_on L9.out hcut.out)
      have MX := Lib.hid (M9.out.lo hcut.out)
      clear L9 M9 hcut
      cases two
      · go_wp2
        go_ret
        exact ⟨rfl, LX.out⟩
      · obtain ⟨hz, hb, hl12, hp, n, rfl, n99, hne⟩ := MT.out rfl
        clear MT
        by_cases hn : n < 99
        · have hs0 := hne hn
          rw [show ((n + 1 : Nat) : Int) = (n : Int) + 1 from by omega] at hs0
          have T1 := Lib.hid (fun v2 w2 (o : LoadRow w2 v2 (ys ++ [(p, (n : Int) + 1)])) => tipSide_yes v2 (ys ++ [(p, (n : Int) + 1)]) d f w2 o (rowF_snoc hz hl12 ⟨hp, by simp; omega⟩) hb)
          generalize hsd : sideF d f (ys ++ [(p, (n : Int) + 1)]) = s at hs0 T1
          have hsb : (s == 0) = false := by simpa using hs0
          clear hsd hne hz hb hp
          have H1 := Lib.hid (MX.out.lo (lo_alloc wc (.cells #[] 46)))
          have hrow0 := own_empty wc
          go_wp2_with (first
           | (at_builtin; refine wpList_append_own _ rfl _ _ 24 rfl wc.heap.size 46 i0 (.agg #[.int .i64 0, .int .i64 0]) 2 16 Try.underlying24 hi hz0 hz1 hz2 rfl (by decide) _ _ _ rfl hrow0 ⟨g', off', none⟩ ys.length c' (cellsF ys) rfl (cellsF_len ys) H1.out.2 (cellsF_one ys) (by unfold maxLen; omega) (by omega) (by simp) ?_; intro va wa howna hgrowa hnila; have Ba := ((Below.refl wc.heap.size wc).alloc (Nat.le_refl _) _).grown hgrowa (by simp) (fun q hq => (hrow0.lt q hq).1))
           | (at_builtin; refine wpList_append_own _ rfl _ _ 24 rfl wc.heap.size 46 i0 (.agg #[.int .i64 0, .int .i64 0]) 2 16 Try.underlying24 hi hz0 hz1 hz2 rfl (by decide) _ _ _ rfl (howna.alloc _) ⟨wa.heap.size, 0, none⟩ 1 1 (cellsF [(p, (n : Int) + 1)]) rfl rfl (two_new wa _ _ _) (cellsF_one _) (by unfold maxLen; omega) (by omega) (by have := Ba.size; simp; omega) ?_; intro vb wb hownb hgrowb hnilb))
          have RB := Lib.hid (show OwnL wb wc.heap.size vb (ys ++ [(p, (n : Int) + 1)]) from ownL_app (by rw [Nat.zero_add] at hownb; exact hownb) rfl rfl)
          have BB := Lib.hid ((Ba.alloc Ba.size _).grown hgrowb (by have := Ba.size; simp; omega) (fun q hq => (howna.lt q hq).1))
          clear howna hownb hgrowa hgrowb hnila hnilb Ba hrow0 H1
          have T2 := Lib.hid (T1.out vb wb (loadRow_own RB.out))
          clear T1 RB
          go_wp2_with fail
          refine T2.out.mono ?_
          rintro e wt ⟨rfl, lt⟩
          have LW := Lib.hid (lo_on LX.out (lo_on BB.out lt))
          clear lt BB T2 LX
          go_wp2
          go_ret
          refine ⟨?_, LW.out⟩
          show Ending.returned (Value.bool (s != 0)) = Ending.returned (Value.bool true)
          rw [show (s != 0) = true from by simpa using hs0]
        · clear hne
          go_wp2
          go_ret
          exact ⟨rfl, LX.out⟩
end Go.Proofs.Ytjchmjbgboeolaa
