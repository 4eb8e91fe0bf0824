/- The draws of the law on splitting and joining. -/
import Derived.Test.YtlmnkkodfnlbmaaSJPlain
import Derived.Test.YtlmnkkodfnlbmaaDrawKit
import Derived.Test.YtlmnkkodfnlbmaaSplitLaw2
import Derived.Test.YtlmnkkodfnlbmaaJoinLaw
import Derived.Test.YtlmnkkodfnlbmaaLess
namespace Go.Proofs.Ytlmnkkodfnlbmaa
open Go.RowKit
set_option maxHeartbeats 800000 in
theorem drawSplit_any (a : Option Addr) (len cap : Nat) (w : World) (hcode : CodeAt w w.heap.size a len) :
    Calls Try.prog 9 #[.slice a len cap] w fun e w' => ∃ s t : ByteArray, e = .returned (.tuple #[.string s, .string t]) ∧ s.size ≤ 20 ∧ t.size ≤ 2 ∧ Lo w w' := by
  have HC := Lib.hid hcode
  clear hcode
  go_enter Try.func9, Try.ntmps9
  go_wp2_with fail
  refine (any1_any w.heap.size a len cap 0 0 _ (cur_new w _ _) (code_new HC.out) (by omega)).mono ?_
  rintro e w1 ⟨s, s1, p1, rfl, hs, hp1, hc1, b1⟩
  have hsz := b1.size
  simp at hsz
  have H1 := Lib.hid hc1
  clear hc1
  go_wp2_with fail
  refine (of_any w.heap.size w.heap.size _ a len cap p1 _ _ s1 _ (fun t => t.size ≤ 2) (H1.out.lo (lo_alloc _ _)) (((code_new HC.out).only b1 (by simp)).lo (lo_alloc _ _) (by omega)) (Nat.le_refl _) (by simp; omega) (by omega) (by omega) (by omega) (by omega) (by simp) ?_).mono ?_
  · intro j hj
    rw [lit_cells]
    have : j = 0 ∨ j = 1 ∨ j = 2 ∨ j = 3 ∨ j = 4 := by omega
    rcases this with rfl | rfl | rfl | rfl | rfl <;> exact ⟨_, rfl, by decide⟩
  · rintro e w2 ⟨t, s2, p2, rfl, ht, hp2, hc2, b2⟩
    go_wp2
    go_ret2
    exact ⟨s, t, rfl, hs, ht, lo_only ((b1.trans (Only.of_lo (lo_alloc _ _))).trans b2)⟩
theorem drawLess_any (a : Option Addr) (len cap : Nat) (w : World) (hcode : CodeAt w w.heap.size a len) :
    Calls Try.prog 14 #[.slice a len cap] w fun e w' => ∃ s t : ByteArray, e = .returned (.tuple #[.string s, .string t]) ∧ Lo w w' := by
  have HC := Lib.hid hcode
  clear hcode
  go_enter Try.func14, Try.ntmps14
  go_wp2_with fail
  refine (any1_any w.heap.size a len cap 0 0 _ (cur_new w _ _) (code_new HC.out) (by omega)).mono ?_
  rintro e w1 ⟨s, s1, p1, rfl, hs, hp1, hc1, b1⟩
  have NX := Lib.hid (any1_any w.heap.size a len cap p1 s1 w1 hc1 ((code_new HC.out).only b1 (by simp)) (by omega))
  clear hc1
  go_wp2_with fail
  refine NX.out.mono ?_
  rintro e w2 ⟨t, s2, p2, rfl, ht, hp2, hc2, b2⟩
  go_wp2
  go_ret2
  exact ⟨s, t, rfl, lo_only (b1.trans b2)⟩
theorem ownsRow_only {w w' : World} {C B : Nat} {e : TypeId} {size : Nat} {v : Value} {n : Nat} {xs : List Value} (h : w.ownsRow B e size v n xs) (o : Only C w w') (hB : C < B) : w'.ownsRow B e size v n xs := by
  refine ⟨h.1, ?_⟩
  rcases h.2 with h2 | ⟨g, cap, cur, hv, hg, hb, r⟩
  · exact .inl h2
  · refine .inr ⟨g, cap, cur, hv, hg, ?_, r⟩
    rw [o.block g (by omega) (Array.getElem?_eq_some_iff.1 hb).1]; exact hb
theorem CurAt.grow {w w' : World} {C : Nat} {cv : Value} {p seed : Int} {o : Obj} {row : Option Nat} (h : CurAt w C cv p seed) (hg : (w.alloc o).grownBy w' row) (hr : ∀ q, row = some q → C + 1 ≤ q) : CurAt w' C cv p seed := by
  have hC := curC h
  have hb : w'.heap[C]? = w.heap[C]? := by
    rw [hg.block C (by simp; omega) (fun e => by have := hr C e.symm; omega), Below.heap_alloc w o C hC]
  exact ⟨by rw [World.cell?_of_block (w := w) hb]; exact h.code, by rw [World.cell?_of_block (w := w) hb]; exact h.place, by rw [World.cell?_of_block (w := w) hb]; exact h.seed,
    by rw [World.frozen?_of_block (w := w) hb]; exact h.free1, by rw [World.frozen?_of_block (w := w) hb]; exact h.free2⟩
theorem lo_onto {w w1 w2 : World} (h : Below w.heap.size w w1) (o : Only w.heap.size w1 w2) : Below w.heap.size w w2 := h.trans (o.below h.size)
theorem cell_one_new2 (u : World) (o : Obj) (x : Value) (t : TypeId) : ∀ j v, [x][j]? = some v → ((u.alloc o).alloc (.cells #[x] t)).cell? ((⟨u.heap.size + 1, 0, none⟩ : Addr).add j) = some v := by
  have h := cell_one_new (u.alloc o) x t
  have e : (u.alloc o).heap.size = u.heap.size + 1 := by simp
  rw [e] at h
  exact h
/-- What the draw for JoinStrings ends in. -/
def DrawJ (w : World) (e : Ending) (w' : World) : Prop := ∃ (g c : Nat) (xs : List ByteArray) (t : ByteArray), e = .returned (.tuple #[.slice (some ⟨g, 0, none⟩) xs.length c, .string t]) ∧
  xs.length ≤ 5 ∧ xs.length ≤ c ∧ (∀ k, k < xs.length → (xs.getD k ByteArray.empty).size ≤ 1048576) ∧ t.size ≤ 2 ∧ Texts w' g 0 xs ∧ Lo w w'
theorem drawJ_of {w w' : World} {B : Nat} {v : Value} {xs : List ByteArray} {t : ByteArray} (h : w'.ownsRow B 9 1 v xs.length (xs.map Value.string)) (hv : v ≠ .slice none 0 0) (hl : xs.length ≤ 5)
    (hs : ∀ x ∈ xs, x.size ≤ 1048576) (ht : t.size ≤ 2) (l : Lo w w') : DrawJ w (.returned (.tuple #[v, .string t])) w' := by
  rcases h.2 with ⟨rfl, _⟩ | ⟨g, cap, cur, rfl, _, hb, hn, _⟩
  · exact absurd rfl hv
  · refine ⟨g, cap, xs, t, rfl, hl, hn, fun k hk => ?_, ht, ⟨(Array.getElem?_eq_some_iff.1 hb).1, fun j hj => ?_⟩, l⟩
    · simp only [List.getD, List.getElem?_eq_getElem hk, Option.getD_some]
      exact hs _ (List.getElem_mem hk)
    · rw [Nat.zero_add, h.cellAt j (by omega), List.getElem?_map, List.getElem?_eq_getElem hj]
      simp [List.getD, List.getElem?_eq_getElem hj]
set_option maxRecDepth 100000 in
set_option maxHeartbeats 1600000 in
theorem drawJoin_any (a : Option Addr) (len cap : Nat) (w : World) (hcode : CodeAt w w.heap.size a len) :
    Calls Try.prog 11 #[.slice a len cap] w (DrawJ w) := by
  have HC := Lib.hid hcode
  clear hcode
  obtain ⟨i0, hi, hz0, hz1, hz2⟩ := info_parts infoStr
  go_enter Try.func11, Try.ntmps11
  have hcur := cur_new w (.slice a len cap) 44
  have NX := Lib.hid (pick_any w.heap.size w.heap.size a len cap 0 0 4 ((w.alloc (.cells #[.slice a len cap, .int .i64 0, .int .u64 0] 44)).alloc (.cells #[] 9)) (hcur.lo (lo_alloc _ _)) ((code_new HC.out).lo (lo_alloc _ _) (by simp)) (Nat.le_refl _) (by simp; omega) (by omega) (by omega) (by omega))
  have hrow0 : ((w.alloc (.cells #[.slice a len cap, .int .i64 0, .int .u64 0] 44)).alloc (.cells #[] 9)).ownsRow (w.heap.size + 1) 9 1 (.slice (some ⟨w.heap.size + 1, 0, none⟩) 0 0) 0 [] := by
    have := World.ownsRow_lit (base := w.heap.size + 1) (e := 9) (size := 1) (w.alloc (.cells #[.slice a len cap, .int .i64 0, .int .u64 0] 44)) #[] 0 (by simp) (by decide) rfl
    simpa using this
  have hb0 : Below w.heap.size w ((w.alloc (.cells #[.slice a len cap, .int .i64 0, .int .u64 0] 44)).alloc (.cells #[] 9)) := lo_tr3 (lo_alloc _ _) (lo_alloc _ _)
  have HB0 := Lib.hid hb0
  have HR0 := Lib.hid hrow0
  clear hcur hrow0 hb0
  go_wp2_with fail
  refine NX.out.mono ?_
  rintro e w1 ⟨x, s1, p1, rfl, x0, x1, hp1, hc1, b1⟩
  obtain ⟨N, rfl⟩ := Int.eq_ofNat_of_zero_le x0
  have H1 := Lib.hid hc1
  have hb1 := b1.size
  simp at hb1
  have HR1 := Lib.hid (ownsRow_only HR0.out b1 (by omega))
  have HB1 := Lib.hid (lo_onto HB0.out b1)
  clear hc1 x0 NX b1
  go_wp2_with fail
  go_loopw [5, 7] (fun v i wr => ∃ (k p : Nat) (sd : Int) (xs : List ByteArray), k ≤ N ∧ i = .int .i64 k ∧ xs.length ≤ k ∧ Hid (∀ x ∈ xs, x.size ≤ 20) ∧ wr.ownsRow (w.heap.size + 1) 9 1 v xs.length (xs.map Value.string) ∧ v ≠ .slice none 0 0 ∧ Hid (CurAt wr w.heap.size (.slice a len cap) p sd) ∧ p ≤ 2 + 2 * k ∧ Hid (Below w.heap.size w wr) ∧ w.heap.size + 2 ≤ wr.heap.size) (fun _ i _ => N - (intOf i).toNat)
  case atStart => exact ⟨0, p1, s1, [], Nat.zero_le _, rfl, Nat.le_refl _, Lib.hid (fun x h => by cases h), HR1.out, by simp, H1, by omega, HB1, by omega⟩
  case round =>
    obtain ⟨k, p, sd, xs, hk, rfl, hxl, HS, hrow, hnn, HCu, hp, HO, hsz⟩ := hrel
    by_cases hlt : k < N
    · have hlt' : (k : Int) < (N : Int) := by omega
      have NY := Lib.hid (any1_any w.heap.size a len cap p sd wr HCu.out (HC.out.lo HO.out (Nat.le_refl _)) (by omega))
      have HROW := Lib.hid hrow
      clear hrow
      go_wp2_with fail
      refine NY.out.mono ?_
      rintro e w2 ⟨t, s2, p2, rfl, ht, hp2, hc2, b2⟩
      have hrow2 := ownsRow_only HROW.out b2 (by omega)
      have hb2 := b2.size
      have H2 := Lib.hid hc2
      have HO2 := Lib.hid (lo_onto HO.out b2)
      clear hc2 NY b2
      go_wp2_with (at_builtin; refine wpList_append_own _ rfl _ _ 26 rfl (w.heap.size + 1) 9 i0 (.string ByteArray.empty) 1 16 Try.underlying26 hi hz0 hz1 hz2 rfl (by decide) _ _ _ rfl (hrow2.alloc _) ⟨w2.heap.size, 0, none⟩ 1 1 [.string t] rfl rfl (cell_one_new _ _ _) (fun x hx => by simp at hx; subst hx; rfl) (by unfold maxLen; omega) (by omega) (by simp; omega) ?_; intro v' w5 hown' hgrow3 hnil3)
      go_roundw
      case rel =>
        have hg2 : Below w.heap.size w w5 := (HO2.out.alloc HO2.out.size _).grown hgrow3 (by simp; omega) (fun q hq => by have := (hrow2.lt q hq).1; omega)
        have hs5 := hgrow3.size
        simp at hs5
        refine ⟨k + 1, p2, s2, xs ++ [t], by omega, by go_num, by simp; omega, Lib.hid (fun x hx => ?_), ?_, fun h => by have := (hnil3.1 h).2; omega, Lib.hid (CurAt.grow H2.out hgrow3 (fun q hq => (hrow2.lt q hq).1)), by omega, Lib.hid hg2, ?_⟩
        · rcases List.mem_append.1 hx with h | h
          · exact HS.out x h
          · simp at h; subst h; exact ht
        · rw [List.map_append, List.length_append]; exact hown'
        · omega
      case measure => simp [intOf]; omega
    · obtain rfl : k = N := by omega
      have NO := Lib.hid (one_any w.heap.size w.heap.size a len cap p sd 20 wr HCu.out (HC.out.lo HO.out (Nat.le_refl _)) (Nat.le_refl _) HO.out.size (by omega) (by omega) (by omega))
      have HROW := Lib.hid hrow
      clear hrow
      go_wp2_with fail
      refine NO.out.mono ?_
      rintro e w3 ⟨q, s3, p3, rfl, hp3, hc3, b3⟩
      have hrow3 := ownsRow_only HROW.out b3 (by omega)
      have hb3 := b3.size
      have H3 := Lib.hid hc3
      have HO3 := Lib.hid (lo_onto HO.out b3)
      clear hc3 NO b3
      cases q with
      | true =>
        have NP := Lib.hid (pick_any w.heap.size w.heap.size a len cap p3 s3 20 w3 H3.out (HC.out.lo HO3.out (Nat.le_refl _)) (Nat.le_refl _) HO3.out.size (by omega) (by omega) (by omega))
        have HROW3 := Lib.hid hrow3
        clear hrow3
        go_wp2_with fail
        refine NP.out.mono ?_
        rintro e w4 ⟨y, s4, p4, rfl, y0, y1, hp4, hc4, b4⟩
        have hrow4 := ownsRow_only HROW3.out b4 (by omega)
        have hb4 := b4.size
        have H4 := Lib.hid hc4
        have HO4 := Lib.hid (lo_onto HO3.out b4)
        clear hc4 NP b4
        obtain ⟨J, rfl⟩ := Int.eq_ofNat_of_zero_le y0
        have hmk := make_bytes (3990 + J) (by omega)
        have hbk := back_zeros (3990 + J)
        rw [show ((3990 + J : Nat) : Int) = 3990 + (J : Int) by omega] at hmk
        go_wp2_with (at_builtin; refine wpList_append_own _ rfl _ _ 26 rfl (w.heap.size + 1) 9 i0 (.string ByteArray.empty) 1 16 Try.underlying26 hi hz0 hz1 hz2 rfl (by decide) _ _ _ rfl ((hrow4.alloc _).alloc _) ⟨w4.heap.size + 1, 0, none⟩ 1 1 [.string (zerosB (3990 + J))] rfl rfl (cell_one_new2 _ _ _ _) (fun x hx => by simp at hx; subst hx; rfl) (by unfold maxLen; omega) (by omega) (by simp; omega) ?_; intro v' w5 hown' hgrow3 hnil3; have H5 := Lib.hid (CurAt.grow (H4.out.lo (lo_alloc _ _)) hgrow3 (fun q hq => (hrow4.lt q hq).1)); have HO5 := Lib.hid (((HO4.out.alloc HO4.out.size _).alloc (by have := HO4.out.size; simp; omega) _).grown hgrow3 (by simp; omega) (fun q hq => by have := (hrow4.lt q hq).1; omega) : Below w.heap.size w w5); have hs5 : w.heap.size + 2 ≤ w5.heap.size := (by have := hgrow3.size; simp at this; omega); have HROW5 := Lib.hid hown'; have HNN := Lib.hid (fun h => by have := (hnil3.1 h).2; omega : v' ≠ .slice none 0 0); have OF := Lib.hid (fun cs => of_any w.heap.size w.heap.size w5.heap.size a len cap p4 5 5 s4 (w5.alloc (.cells cs 9)) (fun t => t.size ≤ 2) (H5.out.lo (lo_alloc _ _)) ((HC.out.lo HO5.out (Nat.le_refl _)).lo (lo_alloc _ _) HO5.out.size) (Nat.le_refl _) (by have := Below.size HO5.out; simp; omega) (by omega) (by omega) (by omega) (by have := Below.size HO5.out; omega) (by simp)); clear hown' hgrow3 hnil3)
        refine (OF.out _ ?_).mono ?_
        · intro j hj
          rw [lit_cells]
          have : j = 0 ∨ j = 1 ∨ j = 2 ∨ j = 3 ∨ j = 4 := by omega
          rcases this with rfl | rfl | rfl | rfl | rfl <;> exact ⟨_, rfl, by decide⟩
        · rintro e w7 ⟨t, s7, p7, rfl, ht, hp7, hc7, b7⟩
          have HRF := Lib.hid (ownsRow_only (HROW5.out.alloc _) b7 (by omega))
          have HLF := Lib.hid (lo_onto (lo_tr3 HO5.out (lo_alloc _ _)) b7)
          clear b7 hc7
          go_wp2
          go_ret2
          refine drawJ_of (xs := xs ++ [zerosB (3990 + J)]) (by rw [List.map_append, List.length_append]; exact HRF.out) HNN.out (by simp; omega) (fun x hx => ?_) ht HLF.out
          rcases List.mem_append.1 hx with h | h
          · have := HS.out x h; omega
          · simp at h; subst h; rw [zerosB_size]; omega
      | false =>
        have HROW3 := Lib.hid hrow3
        clear hrow3
        have OF := Lib.hid (fun cs => of_any w.heap.size w.heap.size w3.heap.size a len cap p3 5 5 s3 (w3.alloc (.cells cs 9)) (fun t => t.size ≤ 2) (H3.out.lo (lo_alloc _ _)) ((HC.out.lo HO3.out (Nat.le_refl _)).lo (lo_alloc _ _) HO3.out.size) (Nat.le_refl _) (by have := Below.size HO3.out; simp; omega) (by omega) (by omega) (by omega) (by have := Below.size HO3.out; omega) (by simp))
        go_wp2_with fail
        refine (OF.out _ ?_).mono ?_
        · intro j hj
          rw [lit_cells]
          have : j = 0 ∨ j = 1 ∨ j = 2 ∨ j = 3 ∨ j = 4 := by omega
          rcases this with rfl | rfl | rfl | rfl | rfl <;> exact ⟨_, rfl, by decide⟩
        · rintro e w7 ⟨t, s7, p7, rfl, ht, hp7, hc7, b7⟩
          have HRF := Lib.hid (ownsRow_only (HROW3.out.alloc _) b7 (by omega))
          have HLF := Lib.hid (lo_onto (lo_tr3 HO3.out (lo_alloc _ _)) b7)
          have HNN := Lib.hid hnn
          clear hnn b7 hc7
          go_wp2
          go_ret2
          exact drawJ_of HRF.out HNN.out (by omega) (fun x hx => by have := HS.out x hx; omega) ht HLF.out
end Go.Proofs.Ytlmnkkodfnlbmaa
