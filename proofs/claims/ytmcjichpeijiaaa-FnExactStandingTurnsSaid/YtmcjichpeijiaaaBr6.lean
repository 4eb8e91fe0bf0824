/- The model's turned and mirrored bodies. -/
import Derived.Test.YtmcjichpeijiaaaBp3
import Derived.Test.YtmcjichpeijiaaaBr5
namespace Go.Proofs.Ytmcjichpeijiaaa
open Go.RowKit Go.Maps
set_option maxRecDepth 100000 in
set_option maxHeartbeats 3200000 in
theorem l8Turn_any (v : Value) (xs : List (Int × Int)) (s : Int) (w : World) (hr : LoadRow w v xs) (hb : BodF xs) (hs : s = 1 ∨ s = -1) :
    Calls Try.prog 99 #[v, .int .i64 s] w fun e w' => ∃ v', e = .returned v' ∧ OwnC w' w.heap.size v' (turnL s xs) ∧ Below w.heap.size w w' := by
  have h0 := hb.one
  have h12 := hb.short
  have HI := Lib.hid hb.hi
  have HSM := Lib.hid (show SmL (xs.map (tuC s)) from fun d hd => by
    obtain ⟨c, hc, rfl⟩ := List.mem_map.1 hd
    have := hb.hi c hc
    unfold SmC tuC
    rcases hs with rfl | rfl <;> simp only <;> omega)
  obtain ⟨a, c, rfl, hr⟩ := hr
  rcases hr with h | ⟨g, off, rfl, hg, hc⟩
  · subst h; simp at h0
  have HC := Lib.hid hc
  obtain ⟨i0, hi, hz0, hz1, hz2⟩ := info_parts infoA2
  have O0 := Lib.hid (show OwnC (w.alloc (.cells #[] 29)) w.heap.size (.slice (some ⟨w.heap.size, 0, none⟩) 0 0) ((xs.take 0).map (tuC s)) from ownC_lit0 w _ (Nat.le_refl _))
  clear hc hb
  go_enter Try.func99, Try.ntmps99
  go_wp2
  go_loopw [5, 6] (fun v y wr => ∃ k : Nat, k ≤ xs.length ∧ y = .int .i64 k ∧ Hid (OwnC wr w.heap.size v ((xs.take k).map (tuC s))) ∧ Hid (Below w.heap.size w wr)) (fun _ y _ => xs.length - (intOf y).toNat)
  case atStart => exact ⟨0, Nat.zero_le _, rfl, O0, Lib.hid (below_new _ _)⟩
  case round =>
    obtain ⟨k, hk, rfl, HO, HB⟩ := hrel
    clear O0
    by_cases hlt : k < xs.length
    · obtain ⟨h1, h2⟩ := HC.out k hlt
      rw [← HB.out.cell (p := ⟨g, off + k * 2, none⟩) hg] at h1
      rw [← HB.out.cell (p := ⟨g, off + k * 2 + 1, none⟩) hg] at h2
      have hlt' : (k : Int) < (xs.length : Int) := by omega
      have he := HI.out _ (mem_getD hlt)
      have HT := Lib.hid (show (xs.take (k + 1)).map (tuC s) = (xs.take k).map (tuC s) ++ [(tuC s) (xs.getD k (0, 0))] by rw [take_snocC xs k hlt, List.map_append]; rfl)
      have HN := Lib.hid (show ((xs.take k).map (tuC s)).length = k by rw [List.length_map, List.length_take]; omega)
      generalize xs.getD k (0, 0) = x at h1 h2 he HT
      obtain ⟨p, q⟩ := x
      simp only at h1 h2 he
      rw [show (tuC s) (p, q) = (s * q, -s * p) from rfl] at HT
      obtain ⟨⟨e0, e1⟩, e2, e3⟩ := he
      have t0 : -60 ≤ s * q ∧ s * q ≤ 60 := by rcases hs with rfl | rfl <;> omega
      have t1 : -60 ≤ -s * p ∧ -s * p ≤ 60 := by rcases hs with rfl | rfl <;> omega
      have hwu : IntKind.i64.wrap (s * q) = s * q := by rw [IntKind.wrap_i64]; omega
      have hwv : IntKind.i64.wrap (-s) = -s := by rw [IntKind.wrap_i64]; omega
      have hwt : IntKind.i64.wrap (-s * p) = -s * p := by rw [IntKind.wrap_i64]; omega
      have ho2 := HO.out
      unfold OwnC at ho2
      rw [HN.out] at ho2
      have hgw : w.heap.size ≤ wr.heap.size := HB.out.size
      have ag : u5.ownBlock ≠ some g := fun h => by have := (ho2.lt g h).1; omega
      go_wp2
      go_region_held3 (fun w' => w'.cell? ⟨g, off + k * 2, none⟩ = some (.int .i64 p) ∧ w'.cell? ⟨g, off + k * 2 + 1, none⟩ = some (.int .i64 q))
        (first
          | go_keep
          | (go_split_ands
             refine ⟨?_, ?_⟩
             · (rw [hgrow.cell_far _ (by simp; omega) (Ne.symm ag)]; assumption)
             · (rw [hgrow.cell_far _ (by simp; omega) (Ne.symm ag)]; assumption)))
        ((refine step_append_lies _ (by rfl) _ _ _ (by rfl) w.heap.size 29 i0 _ 2 16 Try.underlying22 hi hz0 hz1 hz2 rfl (by omega) u5 k _ (by rfl) ((ho2.alloc _).drew)
            ⟨wr.heap.size, 0, none⟩ 1 1 [.int .i64 (s * q), .int .i64 (-s * p)] (by rfl) (by rfl) (World.news_of_block (cs := #[.int .i64 (s * q), .int .i64 (-s * p)]) (t := 29) (fr := (0, 0)) (heap_alloc_new wr _)) (by simp [Value.oneCell'])
            (by omega) (by unfold maxLen; omega) (by omega) (by simp; omega) (wr.heap.size + 1) (by simp) ?_; intro gg cap w1 hown1 hgrow hat hlt))
      have R := Lib.hid (show OwnC w1 w.heap.size (.slice (some ⟨gg, 0, none⟩) (k + 1) cap) ((xs.take (k + 1)).map (tuC s)) by
        rw [HT.out]
        exact ownC_snoc hown1 HN.out)
      have BB := Lib.hid (show Below w.heap.size w w1 from ((HB.out.alloc HB.out.size _).drew).grown hgrow (by have := HB.out.size; simp; omega) (fun q hq => (ho2.lt q hq).1))
      clear hown1 hgrow hat hlt ag ho2 h1 h2 HO HB
      go_wp2
      go_roundw
      case rel => exact ⟨k + 1, by omega, by go_num, R, BB⟩
      case measure => simp [intOf]; omega
    · obtain rfl : k = xs.length := by omega
      have hge : ¬ (xs.length : Int) < (xs.length : Int) := by omega
      rw [List.take_length] at HO
      have DW := Lib.hid (l8Down_any _ _ wr (ownC_row HO.out) (by rw [List.length_map]; exact h0) HSM.out (by rw [List.length_map]; omega))
      go_wp2_with fail
      refine DW.out.mono ?_
      rintro e w2 ⟨u, rfl, ho, l2⟩
      have HO2 := Lib.hid (ownC_base ho HB.out.size)
      have L2 := Lib.hid (lo_on HB.out l2)
      clear ho l2 HO DW
      go_wp2
      go_ret
      exact ⟨_, rfl, HO2.out, L2.out⟩
set_option maxRecDepth 100000 in
set_option maxHeartbeats 1600000 in
theorem specTurnBody_any (v : Value) (xs : List (Int × Int)) (s : Int) (w : World) (hr : LoadRow w v xs) :
    Calls Try.prog 35 #[v, .int .i64 s] w fun e w' => ∃ u0, e = .returned (.tuple #[u0, .bool (turnB xs s)]) ∧ LoadRow w' u0 (turnR xs s) ∧ Below w.heap.size w w' := by
  have C := Lib.hid (l8Body_any v xs w hr)
  have T := Lib.hid (fun (h : bodB xs = true) (hs : s = 1 ∨ s = -1) (w1 : World) (l : Below w.heap.size w w1) => l8Turn_any v xs s w1 (hr.lo l) ((bodB_iff xs).1 h) hs)
  unfold turnR turnB
  generalize bodB xs = b at *
  generalize turnL s xs = ys at *
  obtain ⟨a, c, rfl, _⟩ := hr
  by_cases h1 : b = true ∧ (s = 1 ∨ s = -1)
  · obtain ⟨rfl, hs⟩ := h1
    have T2 := Lib.hid (T.out rfl hs)
    clear T
    rw [show (true && (decide (s = 1) || decide (s = -1))) = true by rcases hs with rfl | rfl <;> rfl]
    unfold bodL
    rcases hs with rfl | rfl
    all_goals
      (go_enter Try.func35, Try.ntmps35
       go_wp2_with fail
       refine C.out.mono ?_
       rintro e w1 ⟨rfl, l1⟩
       have T3 := Lib.hid (T2.out w1 l1)
       go_wp2_with fail
       refine T3.out.mono ?_
       rintro e w2 ⟨u, rfl, ho, l2⟩
       have HR := Lib.hid (ownC_row ho)
       have L2 := Lib.hid (lo_on l1 l2)
       clear ho l2
       go_wp2
       go_ret2
       exact ⟨_, rfl, HR.out, L2.out⟩)
  · cases b with
    | false =>
      simp only [Bool.false_and]
      unfold bodL
      go_enter Try.func35, Try.ntmps35
      go_wp2_with fail
      refine C.out.mono ?_
      rintro e w1 ⟨rfl, l1⟩
      go_wp2
      go_ret2
      exact ⟨_, rfl, lit_row _ _, l1.alloc l1.size _⟩
    | true =>
      have h3 : s ≠ 1 := fun h => h1 ⟨rfl, .inl h⟩
      have h4 : s ≠ -1 := fun h => h1 ⟨rfl, .inr h⟩
      have h5 : (s == 1) = false := by simpa using h3
      have h6 : (s == -1) = false := by simpa using h4
      have h7 : (s != 1) = true := by simpa using h3
      have h8 : (s != -1) = true := by simpa using h4
      rw [show (true && (decide (s = 1) || decide (s = -1))) = false by simp [h3, h4]]
      unfold bodL
      go_enter Try.func35, Try.ntmps35
      go_wp2_with fail
      refine C.out.mono ?_
      rintro e w1 ⟨rfl, l1⟩
      go_wp2
      go_ret2
      exact ⟨_, rfl, lit_row _ _, l1.alloc l1.size _⟩
set_option maxRecDepth 100000 in
set_option maxHeartbeats 3200000 in
theorem specMirrorBody_any (v : Value) (xs : List (Int × Int)) (w : World) (hr : LoadRow w v xs) :
    Calls Try.prog 37 #[v] w fun e w' => ∃ u0, e = .returned (.tuple #[u0, .bool (bodB xs)]) ∧ LoadRow w' u0 (bodL (bodB xs) (mirL xs)) ∧ Below w.heap.size w w' := by
  have C := Lib.hid (l8Body_any v xs w hr)
  have HBD := Lib.hid (fun h : bodB xs = true => (bodB_iff xs).1 h)
  generalize bodB xs = b at *
  unfold bodL
  cases b with
  | false =>
    obtain ⟨a, c, rfl, _⟩ := hr
    go_enter Try.func37, Try.ntmps37
    go_wp2_with fail
    refine C.out.mono ?_
    rintro e w1 ⟨rfl, l1⟩
    go_wp2
    go_ret2
    exact ⟨_, rfl, lit_row _ _, l1.alloc l1.size _⟩
  | true =>
    have hb := HBD.out rfl
    have h0 := hb.one
    have h12 := hb.short
    have HI := Lib.hid hb.hi
    have HSM := Lib.hid (show SmL (xs.map miC) from fun d hd => by
      obtain ⟨c, hc, rfl⟩ := List.mem_map.1 hd
      have := hb.hi c hc
      unfold SmC miC
      simp only; omega)
    rw [if_pos rfl]
    obtain ⟨a, c, rfl, hr⟩ := hr
    rcases hr with h | ⟨g, off, rfl, hg, hc⟩
    · subst h; simp at h0
    have HC := Lib.hid hc
    obtain ⟨i0, hi, hz0, hz1, hz2⟩ := info_parts infoA2
    clear hc hb HBD
    go_enter Try.func37, Try.ntmps37
    go_wp2_with fail
    refine C.out.mono ?_
    rintro e w0 ⟨rfl, l1⟩
    have O0 := Lib.hid (show OwnC (w0.alloc (.cells #[] 29)) w.heap.size (.slice (some ⟨w0.heap.size, 0, none⟩) 0 0) ((xs.take 0).map miC) from ownC_lit0 w0 _ l1.size)
    have L0 := Lib.hid (show Below w.heap.size w (w0.alloc (.cells #[] 29)) from l1.alloc l1.size _)
    clear l1
    go_wp2
    go_loopw [4, 5] (fun v y wr => ∃ k : Nat, k ≤ xs.length ∧ y = .int .i64 k ∧ Hid (OwnC wr w.heap.size v ((xs.take k).map miC)) ∧ Hid (Below w.heap.size w wr)) (fun _ y _ => xs.length - (intOf y).toNat)
    case atStart => exact ⟨0, Nat.zero_le _, rfl, O0, L0⟩
    case round =>
      obtain ⟨k, hk, rfl, HO, HB⟩ := hrel
      clear O0 L0
      by_cases hlt : k < xs.length
      · obtain ⟨h1, h2⟩ := HC.out k hlt
        rw [← HB.out.cell (p := ⟨g, off + k * 2, none⟩) hg] at h1
        rw [← HB.out.cell (p := ⟨g, off + k * 2 + 1, none⟩) hg] at h2
        have hlt' : (k : Int) < (xs.length : Int) := by omega
        have he := HI.out _ (mem_getD hlt)
        have HT := Lib.hid (show (xs.take (k + 1)).map miC = (xs.take k).map miC ++ [miC (xs.getD k (0, 0))] by rw [take_snocC xs k hlt, List.map_append]; rfl)
        have HN := Lib.hid (show ((xs.take k).map miC).length = k by rw [List.length_map, List.length_take]; omega)
        generalize xs.getD k (0, 0) = x at h1 h2 he HT
        obtain ⟨p, q⟩ := x
        simp only at h1 h2 he
        rw [show miC (p, q) = (-p, q) from rfl] at HT
        obtain ⟨⟨e0, e1⟩, e2, e3⟩ := he
        have hwu : IntKind.i64.wrap (-p) = -p := by rw [IntKind.wrap_i64]; omega
        have ho2 := HO.out
        unfold OwnC at ho2
        rw [HN.out] at ho2
        have hgw : w.heap.size ≤ wr.heap.size := HB.out.size
        have ag : u4.ownBlock ≠ some g := fun h => by have := (ho2.lt g h).1; omega
        go_wp2
        go_region_held3 (fun w' => w'.cell? ⟨g, off + k * 2, none⟩ = some (.int .i64 p) ∧ w'.cell? ⟨g, off + k * 2 + 1, none⟩ = some (.int .i64 q))
          (first
            | go_keep
            | (go_split_ands
               refine ⟨?_, ?_⟩
               · (rw [hgrow.cell_far _ (by simp; omega) (Ne.symm ag)]; assumption)
               · (rw [hgrow.cell_far _ (by simp; omega) (Ne.symm ag)]; assumption)))
          ((refine step_append_lies _ (by rfl) _ _ _ (by rfl) w.heap.size 29 i0 _ 2 16 Try.underlying22 hi hz0 hz1 hz2 rfl (by omega) u4 k _ (by rfl) ((ho2.alloc _).drew)
              ⟨wr.heap.size, 0, none⟩ 1 1 [.int .i64 (-p), .int .i64 (q)] (by rfl) (by rfl) (World.news_of_block (cs := #[.int .i64 (-p), .int .i64 (q)]) (t := 29) (fr := (0, 0)) (heap_alloc_new wr _)) (by simp [Value.oneCell'])
              (by omega) (by unfold maxLen; omega) (by omega) (by simp; omega) (wr.heap.size + 1) (by simp) ?_; intro gg cap w1 hown1 hgrow hat hlt))
        have R := Lib.hid (show OwnC w1 w.heap.size (.slice (some ⟨gg, 0, none⟩) (k + 1) cap) ((xs.take (k + 1)).map miC) by
          rw [HT.out]
          exact ownC_snoc hown1 HN.out)
        have BB := Lib.hid (show Below w.heap.size w w1 from ((HB.out.alloc HB.out.size _).drew).grown hgrow (by have := HB.out.size; simp; omega) (fun q hq => (ho2.lt q hq).1))
        clear hown1 hgrow hat hlt ag ho2 h1 h2 HO HB
        go_wp2
        go_roundw
        case rel => exact ⟨k + 1, by omega, by go_num, R, BB⟩
        case measure => simp [intOf]; omega
      · obtain rfl : k = xs.length := by omega
        have hge : ¬ (xs.length : Int) < (xs.length : Int) := by omega
        rw [List.take_length] at HO
        have DW := Lib.hid (l8Down_any _ _ wr (ownC_row HO.out) (by rw [List.length_map]; exact h0) HSM.out (by rw [List.length_map]; omega))
        go_wp2_with fail
        refine DW.out.mono ?_
        rintro e w2 ⟨u, rfl, ho, l2⟩
        have HO2 := Lib.hid (ownC_base ho HB.out.size)
        have L2 := Lib.hid (lo_on HB.out l2)
        clear ho l2 HO DW
        go_wp2
        go_ret2
        exact ⟨_, rfl, ownC_row HO2.out, L2.out⟩
end Go.Proofs.Ytmcjichpeijiaaa
