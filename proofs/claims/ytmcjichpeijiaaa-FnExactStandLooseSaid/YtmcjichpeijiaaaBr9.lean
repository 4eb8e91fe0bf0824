/- A body without one of its cells: the model. -/
import Derived.Test.YtmcjichpeijiaaaBr3
import Derived.Test.YtmcjichpeijiaaaBp2
import Derived.Test.YtmcjichpeijiaaaBp3
import Derived.Test.YtmcjichpeijiaaaBo9
import Derived.Deep.RegionLaw
namespace Go.Proofs.Ytmcjichpeijiaaa
open Go.RowKit Go.Maps
theorem rowB_of {w : World} {v : Value} {xs : List (Int × Int)} (h : LoadRow w v xs) (hc : ∃ a, v = .slice a xs.length xs.length) (h0 : 0 < xs.length) : RowB w v xs := by
  obtain ⟨a, c, e, h⟩ := h
  obtain ⟨a', e'⟩ := hc
  rcases h with h | ⟨g, off, e1, h1, h2⟩
  · subst h; simp at h0
  · subst e1
    rw [e] at e'
    injection e' with _ _ e3
    subst e3
    exact ⟨g, off, _, e, Nat.le_refl _, h1, h2⟩
theorem takeC_at {xs : List (Int × Int)} {i j : Nat} (h : j < i) : (xs.take i).getD j (0, 0) = xs.getD j (0, 0) := by simp [List.getD, h]
theorem dropC_at {xs : List (Int × Int)} {i j : Nat} : (xs.drop i).getD j (0, 0) = xs.getD (i + j) (0, 0) := by simp [List.getD, List.getElem?_drop]
set_option maxRecDepth 100000 in
set_option maxHeartbeats 6400000 in
theorem l8Without_any (v : Value) (xs : List (Int × Int)) (i : Nat) (w : World) (hr : RowB w v xs) (hb : BodF xs) (hi : i < xs.length) :
    Calls Try.prog 153 #[v, .int .i64 (i : Int)] w fun e w' => ∃ u0, e = .returned (.tuple #[u0, .bool (bodB (downL (otL xs i)))]) ∧ LoadRow w' u0 (if bodB (downL (otL xs i)) = true then downL (otL xs i) else []) ∧ Below w.heap.size w w' := by
  obtain ⟨g, off, c, rfl, hnc, hg, hc⟩ := hr
  have h12 := hb.short
  obtain ⟨o3, c3, s2, h3, _⟩ := slice_l g off xs.length c (i + 1) (by omega) hnc
  have s1 := fun X => slice_h g off xs.length c i (by omega) X
  have s2' : ∀ X : World, (Instr.slice 22 (.slice (some ⟨g, off, none⟩) xs.length c) (some (.int .i64 ((i : Int) + 1))) none none).run Try.prog X = .ok (.slice (some ⟨g, o3, none⟩) (xs.length - (i + 1)) c3) X := fun X => s2 X
  have hw1 : IntKind.i64.wrap ((i : Int) + 1) = (i : Int) + 1 := by rw [IntKind.wrap_i64]; omega
  have LX := Lib.hid (show Below w.heap.size w (w.alloc (.cells #[] 29)).drew from (below_new w _).drew)
  have OX := Lib.hid (show OwnC (w.alloc (.cells #[] 29)).drew w.heap.size (.slice (some ⟨w.heap.size, 0, none⟩) 0 0) [] from ownC_lit0 w _ (Nat.le_refl _))
  have CT := Lib.hid (fun (X : World) (l : Below w.heap.size w X) j (hj : j < i) => show X.cell? ⟨g, off + j * 2, none⟩ = some (.int .i64 ((xs.take i).getD j (0, 0)).1) ∧ X.cell? ⟨g, off + j * 2 + 1, none⟩ = some (.int .i64 ((xs.take i).getD j (0, 0)).2) by
    rw [l.cell (p := ⟨g, off + j * 2, none⟩) hg, l.cell (p := ⟨g, off + j * 2 + 1, none⟩) hg, takeC_at hj]
    exact hc j (by omega))
  have CD := Lib.hid (fun (X : World) (l : Below w.heap.size w X) j (hj : j < xs.length - (i + 1)) => show X.cell? ⟨g, o3 + j * 2, none⟩ = some (.int .i64 ((xs.drop (i + 1)).getD j (0, 0)).1) ∧ X.cell? ⟨g, o3 + j * 2 + 1, none⟩ = some (.int .i64 ((xs.drop (i + 1)).getD j (0, 0)).2) by
    rcases h3 with h3 | h3
    · rw [l.cell (p := ⟨g, o3 + j * 2, none⟩) hg, l.cell (p := ⟨g, o3 + j * 2 + 1, none⟩) hg, dropC_at, h3, show off + (i + 1) * 2 + j * 2 = off + (i + 1 + j) * 2 by omega]
      exact hc (i + 1 + j) (by omega)
    · omega)
  have HO := Lib.hid (show xs.take i ++ xs.drop (i + 1) = otL xs i from rfl)
  have HL := otL_len hi
  have HH := Lib.hid (fun (u : Value) (X : World) (hu : LoadRow X u (otL xs i)) (h0 : 0 < (otL xs i).length) => l8Hangs_any u (otL xs i) X hu h0 (otL_nodup hb.rise i) (fun c hc => hb.sm c ((otL_sub xs i).subset hc)) (by omega))
  have HD := Lib.hid (fun (u : Value) (X : World) (hu : LoadRow X u (otL xs i)) (h0 : 0 < (otL xs i).length) => l8Down_any u (otL xs i) X hu h0 (fun c hc => hb.sm c ((otL_sub xs i).subset hc)) (by omega))
  have HB := Lib.hid ((bodB_iff (downL (otL xs i))).trans (ot_bod hb hi))
  have HC := Lib.hid (connB_iff (otL xs i))
  have ht : (xs.take i).length = i := by rw [List.length_take]; omega
  generalize bodB (downL (otL xs i)) = b at *
  generalize downL (otL xs i) = ds at *
  generalize otL xs i = rs at *
  clear hb hc s2 h3
  go_enter Try.func153, Try.ntmps153
  go_wp2_with fail
  go_region_law (first
    | (refine step_app_c (by rfl) _ _ (by rfl) w.heap.size (.slice (some ⟨w.heap.size, 0, none⟩) 0 0) [] (by rfl) OX.out g off i c (xs.take i) (by rfl) ht (fun j hj => CT.out _ LX.out j hj) (by simp only [List.length_nil]; omega) (by simp) ?_; intro v1 w1 ho1 hg1 hat1; have L1 : Below w.heap.size w w1 := LX.out.grown hg1 LX.out.size (fun q hq => by have := (ownC_lit0 w w.heap.size (Nat.le_refl _)).lt q hq; exact this.1))
    | (refine step_app_c (by rfl) _ _ (by rfl) w.heap.size v1 (xs.take i) (by rfl) ho1 g o3 (xs.length - (i + 1)) c3 (xs.drop (i + 1)) (by rfl) (by rw [List.length_drop]) (fun j hj => CD.out _ L1 j hj) (by omega) L1.size ?_; intro v2 w2 ho2 hg2 hat2; have L2 : Below w.heap.size w w2 := L1.grown hg2 L1.size (fun q hq => (ho1.lt q hq).1)))
  have HRW := Lib.hid (show LoadRow w2 v2 rs from by rw [← HO.out]; exact ownC_row ho2)
  have L3 := Lib.hid L2
  clear ho1 ho2 hg1 hg2 hat1 hat2 L1 L2 OX LX CT CD s1 s2' hw1
  by_cases h0 : 0 < rs.length
  · have H1 := Lib.hid (HH.out v2 w2 HRW.out h0)
    have D1 := Lib.hid (fun (X : World) (l : Below w2.heap.size w2 X) => HD.out v2 X (HRW.out.lo l) h0)
    obtain ⟨a2, c2, rfl, _⟩ := HRW.out
    have hne : ((rs.length : Int) == 0) = false := by rw [beq_eq_false_iff_ne]; omega
    have hne2 : ¬ (rs.length : Int) = 0 := by omega
    generalize connB rs = cb at H1 HC
    cases cb with
    | false =>
      have hbf : b = false := by
        cases b with
        | false => rfl
        | true => have := HC.out.2 (HB.out.1 rfl).2; cases this
      subst hbf
      clear HRW HH HD HB HC D1
      go_wp2_with fail
      refine H1.out.mono ?_
      rintro e w3 ⟨rfl, l3⟩
      have L4 := Lib.hid (lo_on L3.out l3)
      clear l3
      go_wp2
      go_ret2
      exact ⟨_, rfl, lit_row _ _, L4.out.alloc L4.out.size _⟩
    | true =>
      have hbt : b = true := HB.out.2 ⟨h0, HC.out.1 rfl⟩
      subst hbt
      clear HRW HH HD HB HC
      go_wp2_with fail
      refine H1.out.mono ?_
      rintro e w3 ⟨rfl, l3⟩
      have D2 := Lib.hid (D1.out w3 l3)
      have L4 := Lib.hid (lo_on L3.out l3)
      clear l3
      go_wp2_with fail
      refine D2.out.mono ?_
      rintro e w4 ⟨u, rfl, ho, l4⟩
      have HR := Lib.hid (ownC_row ho)
      have L5 := Lib.hid (lo_on L4.out l4)
      clear ho l4
      go_wp2
      go_ret2
      exact ⟨_, rfl, HR.out, L5.out⟩
  · have hz : rs.length = 0 := by omega
    have hbf : b = false := by
      cases b with
      | false => rfl
      | true => have := (HB.out.1 rfl).1; omega
    subst hbf
    obtain ⟨a2, c2, rfl, _⟩ := HRW.out
    rw [hz]
    clear HRW HH HD HB HC
    go_wp2
    go_ret2
    exact ⟨_, rfl, lit_row _ _, L3.out.alloc L3.out.size _⟩
/-- What the model and the program both tell of a body's loose cells. -/
noncomputable def looR (st : Bool) (xs : List (Int × Int)) : List Int := if bodB xs = true then looL st xs xs.length else []
theorem looR_len (st : Bool) (xs : List (Int × Int)) : (looR st xs).length ≤ xs.length := by
  unfold looR; split
  · exact looL_len st xs _
  · simp
end Go.Proofs.Ytmcjichpeijiaaa
