/- The model's l8Put: a cell put to its place. -/
import Derived.Test.YtmcjichpeijiaaaBo9
namespace Go.Proofs.Ytmcjichpeijiaaa
open Go.RowKit Go.Maps
theorem take_at (xs : List (Int × Int)) {k i : Nat} (h : i < k) : (xs.take k).getD i (0, 0) = xs.getD i (0, 0) := by
  simp only [List.getD]; rw [List.getElem?_take_of_lt h]
theorem drop_at (xs : List (Int × Int)) (k i : Nat) : (xs.drop k).getD i (0, 0) = xs.getD (k + i) (0, 0) := by
  simp only [List.getD, List.getElem?_drop]
theorem one_cells {X : World} {b : Nat} {p q : Int} (h0 : X.cell? ⟨b, 0, none⟩ = some (.int .i64 p)) (h1 : X.cell? ⟨b, 1, none⟩ = some (.int .i64 q)) :
    ∀ i, i < 1 → X.cell? ⟨b, 0 + i * 2, none⟩ = some (.int .i64 ([(p, q)].getD i (0, 0)).1) ∧ X.cell? ⟨b, 0 + i * 2 + 1, none⟩ = some (.int .i64 ([(p, q)].getD i (0, 0)).2) := by
  intro i hi
  obtain rfl : i = 0 := by omega
  exact ⟨h0, h1⟩
theorem hat_far {v' : Value} {g0 g6 H : Nat} (hat : v'.ownBlock = some g0 ∨ v'.ownBlock = some H) (h1 : g0 ≠ g6) (h2 : g6 < H) : v'.ownBlock ≠ some g6 := fun e => by
  rcases hat with h | h
  · exact h1 (Option.some.inj (h.symm.trans e))
  · have := Option.some.inj (h.symm.trans e)
    omega
theorem OwnC.lo {w w' : World} {B : Nat} {v : Value} {xs : List (Int × Int)} (h : OwnC w B v xs) (l : Below w.heap.size w w') : OwnC w' B v xs := ownsRow_below h l
theorem Cel2.grown {w w' : World} {b : Nat} {o : Int × Int} {row : Option Nat} (h : Cel2 w b o) (hg : w.grownBy w' row) (hne : row ≠ some b) : Cel2 w' b o := by
  obtain ⟨h0, h1, h2, h3, h4⟩ := h
  have hb : w'.heap[b]? = w.heap[b]? := hg.block b h0 (fun e => hne e.symm)
  exact ⟨Nat.lt_of_lt_of_le h0 hg.size, (World.cell?_of_block (a := ⟨b, 0, none⟩) hb).trans h1, (World.cell?_of_block (a := ⟨b, 1, none⟩) hb).trans h2, (World.frozen?_of_block (a := ⟨b, 0, none⟩) hb).trans h3, (World.frozen?_of_block (a := ⟨b, 1, none⟩) hb).trans h4⟩
set_option maxRecDepth 100000 in
set_option maxHeartbeats 6400000 in
/-- The row that comes in has a block, and o3, cc3 are where its end part begins, and how much room that has. -/
theorem l8Put_at (g off c o3 cc3 k : Nat) (xs : List (Int × Int)) (p q : Int) (w : World) (hg : g < w.heap.size) (hn : xs.length ≤ 1000)
    (hc : ∀ j, j < xs.length → w.cell? ⟨g, off + j * 2, none⟩ = some (.int .i64 (xs.getD j (0, 0)).1) ∧ w.cell? ⟨g, off + j * 2 + 1, none⟩ = some (.int .i64 (xs.getD j (0, 0)).2))
    (hk : k ≤ xs.length) (h1 : ∀ j, j < k → bfC (xs.getD j (0, 0)) (p, q) = true) (h2 : k = xs.length ∨ bfC (xs.getD k (0, 0)) (p, q) = false)
    (hs1 : ∀ X : World, (Instr.slice 22 (.slice (some ⟨g, off, none⟩) xs.length c) none (some (.int .i64 (k : Int))) none).run Try.prog X = .ok (.slice (some ⟨g, off, none⟩) k c) X)
    (hs2 : ∀ X : World, (Instr.slice 22 (.slice (some ⟨g, off, none⟩) xs.length c) (some (.int .i64 (k : Int))) none none).run Try.prog X = .ok (.slice (some ⟨g, o3, none⟩) (xs.length - k) cc3) X)
    (ho3 : o3 = off + k * 2 ∨ k = xs.length) :
    Calls Try.prog 108 #[.slice (some ⟨g, off, none⟩) xs.length c, .agg #[.int .i64 p, .int .i64 q]] w fun e w' => ∃ v', e = .returned v' ∧ OwnC w' w.heap.size v' (putL xs (p, q)) ∧ Below w.heap.size w w' := by
  have HPU := Lib.hid (putL_at h1 h2)
  rw [HPU.out]
  obtain ⟨i0, hi, hz0, hz1, hz2⟩ := info_parts infoA2
  have HC := Lib.hid hc
  have HK1 := Lib.hid h1
  have HK2 := Lib.hid h2
  obtain ⟨W, hW⟩ : ∃ W, w.alloc (.cells #[.int .i64 p, .int .i64 q] 29) = W := ⟨_, rfl⟩
  have BX := Lib.hid (show Cel2 W w.heap.size (p, q) by rw [← hW]; exact cel2_new _ _ _ _)
  have LW := Lib.hid (show Below w.heap.size w W by rw [← hW]; exact below_new _ _)
  clear hc h1 h2
  go_enter Try.func108, Try.ntmps108
  go_wp2
  clear hW
  go_loopw [5] (fun x wr => ∃ j : Nat, j ≤ k ∧ x = .int .i64 j ∧ Hid (Below W.heap.size W wr)) (fun x _ => k - (intOf x).toNat)
  case atStart => exact ⟨0, Nat.zero_le _, rfl, Lib.hid (Below.refl _ _)⟩
  case round =>
    obtain ⟨j, hj, rfl, HL⟩ := hrel
    have LL := Lib.hid (lo_on LW.out HL.out)
    obtain ⟨b0, b1, b2, _, _⟩ := BX.out.lo HL.out
    simp only at b1 b2
    by_cases hjn : j < xs.length
    · have hjn' : (j : Int) < (xs.length : Int) := by omega
      obtain ⟨c1, c2⟩ := HC.out j hjn
      have hgr : g < wr.heap.size := Nat.lt_of_lt_of_le hg LL.out.size
      rw [← LL.out.cell (p := ⟨g, off + j * 2, none⟩) hg] at c1
      rw [← LL.out.cell (p := ⟨g, off + j * 2 + 1, none⟩) hg] at c2
      obtain ⟨r, hr⟩ : ∃ r, bfC (xs.getD j (0, 0)) (p, q) = r := ⟨_, rfl⟩
      have CB := Lib.hid (fun w => l8Before_any (xs.getD j (0, 0)).1 (xs.getD j (0, 0)).2 p q w)
      rw [show bfC ((xs.getD j (0, 0)).1, (xs.getD j (0, 0)).2) (p, q) = r from hr] at CB
      have HR := Lib.hid hr
      generalize (xs.getD j (0, 0)).1 = y1 at c1 CB
      generalize (xs.getD j (0, 0)).2 = y2 at c2 CB
      clear hr
      by_cases hjk : j < k
      · have hrt : r = true := by rw [← HR.out]; exact HK1.out j hjk
        subst hrt
        go_wp2_with fail
        go_region_held3 (fun w' => w'.cell? ⟨g, off + j * 2, none⟩ = some (.int .i64 y1) ∧ w'.cell? ⟨g, off + j * 2 + 1, none⟩ = some (.int .i64 y2) ∧ w'.cell? ⟨w.heap.size, 0, none⟩ = some (.int .i64 p) ∧ w'.cell? ⟨w.heap.size, 1, none⟩ = some (.int .i64 q))
          (first | exact ⟨(hl.cell (p := ⟨g, off + j * 2, none⟩) hgr).trans c1, (hl.cell (p := ⟨g, off + j * 2 + 1, none⟩) hgr).trans c2, (hl.cell (p := ⟨w.heap.size, 0, none⟩) b0).trans b1, (hl.cell (p := ⟨w.heap.size, 1, none⟩) b0).trans b2⟩ | go_keep)
          (first | (go_at_call 136; refine (CB.out _).mono ?_; rintro e w1 ⟨rfl, hl⟩))
        have LN := Lib.hid (show Below W.heap.size W w1 from lo_on HL.out (lo_on (drw_b wr) hl))
        clear hl c1 c2 b1 b2
        go_wp2
        go_roundw
        case rel => exact ⟨j + 1, by omega, by go_num, LN⟩
        case measure => simp [intOf]; omega
      · obtain rfl : j = k := by omega
        have hrt : r = false := by
          rcases HK2.out with h | h
          · omega
          · rw [← HR.out]; exact h
        subst hrt
        go_wp2_with fail
        go_region_held3 (fun w' => w'.cell? ⟨g, off + j * 2, none⟩ = some (.int .i64 y1) ∧ w'.cell? ⟨g, off + j * 2 + 1, none⟩ = some (.int .i64 y2) ∧ w'.cell? ⟨w.heap.size, 0, none⟩ = some (.int .i64 p) ∧ w'.cell? ⟨w.heap.size, 1, none⟩ = some (.int .i64 q))
          (first | exact ⟨(hl.cell (p := ⟨g, off + j * 2, none⟩) hgr).trans c1, (hl.cell (p := ⟨g, off + j * 2 + 1, none⟩) hgr).trans c2, (hl.cell (p := ⟨w.heap.size, 0, none⟩) b0).trans b1, (hl.cell (p := ⟨w.heap.size, 1, none⟩) b0).trans b2⟩ | go_keep)
          (first | (go_at_call 136; refine (CB.out _).mono ?_; rintro e w1 ⟨rfl, hl⟩))
        have LN := Lib.hid (show Below W.heap.size W w1 from lo_on HL.out (lo_on (drw_b wr) hl))
        clear hl c1 c2 b1 b2
        have LQ := Lib.hid (show Below w.heap.size w w1 from lo_on LW.out LN.out)
        have BX1 := Lib.hid (BX.out.lo LN.out)
        have RS := Lib.hid (fun (X : World) (l : Below w1.heap.size w1 X) i (hi : i < j) => show X.cell? ⟨g, off + i * 2, none⟩ = some (.int .i64 ((xs.take j).getD i (0, 0)).1) ∧ X.cell? ⟨g, off + i * 2 + 1, none⟩ = some (.int .i64 ((xs.take j).getD i (0, 0)).2) by
          rw [take_at xs hi, (lo_on LQ.out l).cell (p := ⟨g, off + i * 2, none⟩) hg, (lo_on LQ.out l).cell (p := ⟨g, off + i * 2 + 1, none⟩) hg]
          exact HC.out i (by omega))
        have RD := Lib.hid (fun (X : World) (l : Below w1.heap.size w1 X) i (hi : i < xs.length - j) => show X.cell? ⟨g, o3 + i * 2, none⟩ = some (.int .i64 ((xs.drop j).getD i (0, 0)).1) ∧ X.cell? ⟨g, o3 + i * 2 + 1, none⟩ = some (.int .i64 ((xs.drop j).getD i (0, 0)).2) by
          rcases ho3 with h | h
          · rw [drop_at, (lo_on LQ.out l).cell (p := ⟨g, o3 + i * 2, none⟩) hg, (lo_on LQ.out l).cell (p := ⟨g, o3 + i * 2 + 1, none⟩) hg, h, show off + j * 2 + i * 2 = off + (j + i) * 2 by omega]
            exact HC.out (j + i) (by omega)
          · omega)
        go_wp2_with fail
        refine wp_region_inv (by kernel_rfl) (by kernel_rfl) (fun D a X => ∃ (t20 t21 t22 t23 t24 t25 t26 t27 t28 t29 t30 t31 t4 : Value) (g0 g6 : Nat), a = (⟨#[(.slice (some ⟨g, off, none⟩) xs.length c), (.agg #[.int .i64 p, .int .i64 q]), undef, (.pointer (some ⟨w.heap.size, 0, none⟩)), t4, (.int .i64 (j : Int)), (.int .i64 (j : Int)), (.slice (some ⟨g, off, none⟩) xs.length c), (.int .i64 (xs.length : Int)), (.bool true), (.bool true), (.slice (some ⟨g, off, none⟩) xs.length c), (.int .i64 (j : Int)), (.pointer (some ⟨g, off + j * 2, none⟩)), (.agg #[.int .i64 y1, .int .i64 y2]), (.agg #[.int .i64 p, .int .i64 q]), (.bool false), (.bool false), u18, u19, t20, t21, t22, t23, t24, t25, t26, t27, t28, t29, t30, t31], []⟩ : Act) ∧ (D 12 → (Hid (OwnC X w1.heap.size t4 (xs.take j ++ (p, q) :: xs.drop j)) ∧ Hid (Below w1.heap.size w1 X))) ∧ (¬ D 12 → Hid (Below w1.heap.size w1 X) ∧ (D 0 → ¬ D 4 → (t20 = .slice (some ⟨g0, 0, none⟩) 0 0 ∧ OwnC X w1.heap.size (.slice (some ⟨g0, 0, none⟩) 0 0) [])) ∧ (D 1 → (t21 = .slice (some ⟨g, off, none⟩) xs.length c)) ∧ (D 2 → (t22 = .int .i64 (j : Int))) ∧ (D 3 → (t23 = .slice (some ⟨g, off, none⟩) j c)) ∧ (D 4 → ¬ D 7 → (True ∧ OwnC X w1.heap.size t24 (xs.take j))) ∧ (D 5 → (t25 = .agg #[.int .i64 p, .int .i64 q])) ∧ (D 6 → ¬ D 7 → (t26 = .slice (some ⟨g6, 0, none⟩) 1 1 ∧ Cel2 X g6 (p, q))) ∧ (D 7 → ¬ D 11 → (True ∧ OwnC X w1.heap.size t27 (xs.take j ++ [(p, q)]))) ∧ (D 8 → (t28 = .slice (some ⟨g, off, none⟩) xs.length c)) ∧ (D 9 → (t29 = .int .i64 (j : Int))) ∧ (D 10 → (t30 = .slice (some ⟨g, o3, none⟩) (xs.length - j) cc3)) ∧ (D 11 → (True ∧ OwnC X w1.heap.size t31 (xs.take j ++ (p, q) :: xs.drop j))) ∧ (D 0 → D 6 → ¬ D 4 → (g0 ≠ g6)) ∧ (D 4 → D 6 → ¬ D 7 → (t24.ownBlock ≠ some g6)))) ?_ ?_ ?_
        · exact ⟨_, _, _, _, _, _, _, _, _, _, _, _, _, 0, 0, rfl, fun h => h.elim, fun _ => ⟨Lib.hid (drew_below w1), fun h => h.elim, fun h => h.elim, fun h => h.elim, fun h => h.elim, fun h => h.elim, fun h => h.elim, fun h => h.elim, fun h => h.elim, fun h => h.elim, fun h => h.elim, fun h => h.elim, fun h => h.elim, fun h => h.elim, fun h => h.elim⟩⟩
        · refine (show ∀ i, i < 13 → StepAt _ _ _ _ _ i from ?_)
          refine lt_more (n := 12) ?_ (lt_more (n := 11) ?_ (lt_more (n := 10) ?_ (lt_more (n := 9) ?_ (lt_more (n := 8) ?_ (lt_more (n := 7) ?_ (lt_more (n := 6) ?_ (lt_more (n := 5) ?_ (lt_more (n := 4) ?_ (lt_more (n := 3) ?_ (lt_more (n := 2) ?_ (lt_more (n := 1) ?_ (lt_more (n := 0) ?_ lt_none))))))))))))
          · refine step_of _ [11, 11, 0, 1, 2, 3, 4, 5, 6, 7, 8, 9, 10, 11] [] rfl (by kernel_rfl) (by kernel_rfl) ?_
            rintro D a X hn hd hc ⟨t20, t21, t22, t23, t24, t25, t26, t27, t28, t29, t30, t31, t4, g0, g6, rfl, _, hrest⟩ K' hK
            have nl := hn
            obtain ⟨LX, c0, c1, c2, c3, c4, c5, c6, c7, c8, c9, c10, c11, s06, s46⟩ := hrest nl
            clear hrest
            have d0 := hd 0 (by simp)
            have d1 := hd 1 (by simp)
            have d2 := hd 2 (by simp)
            have d3 := hd 3 (by simp)
            have d4 := hd 4 (by simp)
            have d5 := hd 5 (by simp)
            have d6 := hd 6 (by simp)
            have d7 := hd 7 (by simp)
            have d8 := hd 8 (by simp)
            have d9 := hd 9 (by simp)
            have d10 := hd 10 (by simp)
            have d11 := hd 11 (by simp)
            clear hd hc
            have r11 := (c11 d11).2
            go_simp
            refine hK _ _ ⟨_, _, _, _, _, _, _, _, _, _, _, _, _, g0, g6, by first | rfl | simp [Act.put], fun _ => ?_, fun m => absurd (.inl rfl) m⟩
            exact ⟨Lib.hid r11, LX⟩
          · refine step_of _ [7, 10, 7] [(12, 11), (7, 4)] rfl (by kernel_rfl) (by kernel_rfl) ?_
            rintro D a X hn hd hc ⟨t20, t21, t22, t23, t24, t25, t26, t27, t28, t29, t30, t31, t4, g0, g6, rfl, _, hrest⟩ K' hK
            have nl : ¬ D 12 := fun h => hn (hc (12, 11) (by simp) h)
            obtain ⟨LX, c0, c1, c2, c3, c4, c5, c6, c7, c8, c9, c10, c11, s06, s46⟩ := hrest nl
            clear hrest
            have d7 := hd 7 (by simp)
            have d10 := hd 10 (by simp)
            have e7_4 := hc (7, 4) (by simp)
            clear hd hc
            have r7 := (c7 d7 hn).2
            obtain rfl := c10 d10
            have hsX := LX.out.size
            have d4 := e7_4 d7
            refine step_app_c (by rfl) _ _ (by rfl) w1.heap.size t27 (xs.take j ++ [(p, q)]) (by rfl) r7 g o3 (xs.length - j) cc3 (xs.drop j) (by rfl) (by rw [List.length_drop] <;> omega) (fun i hi => RD.out X LX.out i hi) (by rw [List.length_append, List.length_take]; simp only [List.length_cons, List.length_nil]; omega) hsX ?_
            intro v' X5 hown hgrow hat
            rw [List.append_assoc, List.singleton_append] at hown
            refine hK _ _ ⟨_, _, _, _, _, _, _, _, _, _, _, _, _, g0, g6, by first | rfl | simp [Act.put], fun h => (nl (h.resolve_left (by decide))).elim, fun _ => ⟨Lib.hid (LX.out.grown hgrow hsX (fun q hq => (r7.lt q hq).1)), ?c0, ?c1, ?c2, ?c3, ?c4, ?c5, ?c6, ?c7, ?c8, ?c9, ?c10, ?c11, ?s06, ?s46⟩⟩
            case c0 => exact fun h0 m4 => absurd d4 (fun q => m4 (.inr q))
            case c1 => exact fun h1 => c1 (h1.resolve_left (by decide))
            case c2 => exact fun h2 => c2 (h2.resolve_left (by decide))
            case c3 => exact fun h3 => c3 (h3.resolve_left (by decide))
            case c4 => exact fun h4 m7 => absurd d7 (fun q => m7 (.inr q))
            case c5 => exact fun h5 => c5 (h5.resolve_left (by decide))
            case c6 => exact fun h6 m7 => absurd d7 (fun q => m7 (.inr q))
            case c7 => exact fun h7 m11 => absurd (.inl rfl) m11
            case c8 => exact fun h8 => c8 (h8.resolve_left (by decide))
            case c9 => exact fun h9 => c9 (h9.resolve_left (by decide))
            case c10 => exact fun h10 => c10 (h10.resolve_left (by decide))
            case c11 => exact fun h11 => ⟨trivial, hown⟩
            case s06 => exact fun h0 h6 m4 => s06 (h0.resolve_left (by decide)) (h6.resolve_left (by decide)) (fun q => m4 (.inr q))
            case s46 => exact fun h4 h6 m7 => s46 (h4.resolve_left (by decide)) (h6.resolve_left (by decide)) (fun q => m7 (.inr q))
          · refine step_of _ [8, 9] [(12, 10)] rfl (by kernel_rfl) (by kernel_rfl) ?_
            rintro D a X hn hd hc ⟨t20, t21, t22, t23, t24, t25, t26, t27, t28, t29, t30, t31, t4, g0, g6, rfl, _, hrest⟩ K' hK
            have nl : ¬ D 12 := fun h => hn (hc (12, 10) (by simp) h)
            obtain ⟨LX, c0, c1, c2, c3, c4, c5, c6, c7, c8, c9, c10, c11, s06, s46⟩ := hrest nl
            clear hrest
            have d8 := hd 8 (by simp)
            have d9 := hd 9 (by simp)
            clear hd hc
            obtain rfl := c8 d8
            obtain rfl := c9 d9
            have hsl := hs2 X
            go_simp
            refine hK _ _ ⟨_, _, _, _, _, _, _, _, _, _, _, _, _, g0, g6, by first | rfl | simp [Act.put], fun h => (nl (h.resolve_left (by decide))).elim, fun _ => ⟨LX, ?c0, ?c1, ?c2, ?c3, ?c4, ?c5, ?c6, ?c7, ?c8, ?c9, ?c10, ?c11, ?s06, ?s46⟩⟩
            case c0 => exact fun h0 m4 => c0 (h0.resolve_left (by decide)) (fun q => m4 (.inr q))
            case c1 => exact fun h1 => c1 (h1.resolve_left (by decide))
            case c2 => exact fun h2 => c2 (h2.resolve_left (by decide))
            case c3 => exact fun h3 => c3 (h3.resolve_left (by decide))
            case c4 => exact fun h4 m7 => c4 (h4.resolve_left (by decide)) (fun q => m7 (.inr q))
            case c5 => exact fun h5 => c5 (h5.resolve_left (by decide))
            case c6 => exact fun h6 m7 => c6 (h6.resolve_left (by decide)) (fun q => m7 (.inr q))
            case c7 => exact fun h7 m11 => c7 (h7.resolve_left (by decide)) (fun q => m11 (.inr q))
            case c8 => exact fun h8 => c8 (h8.resolve_left (by decide))
            case c9 => exact fun h9 => c9 (h9.resolve_left (by decide))
            case c10 => exact fun h10 => rfl
            case c11 => exact fun h11 => c11 (h11.resolve_left (by decide))
            case s06 => exact fun h0 h6 m4 => s06 (h0.resolve_left (by decide)) (h6.resolve_left (by decide)) (fun q => m4 (.inr q))
            case s46 => exact fun h4 h6 m7 => s46 (h4.resolve_left (by decide)) (h6.resolve_left (by decide)) (fun q => m7 (.inr q))
          · refine step_of _ [] [(12, 9)] rfl (by kernel_rfl) (by kernel_rfl) ?_
            rintro D a X hn hd hc ⟨t20, t21, t22, t23, t24, t25, t26, t27, t28, t29, t30, t31, t4, g0, g6, rfl, _, hrest⟩ K' hK
            have nl : ¬ D 12 := fun h => hn (hc (12, 9) (by simp) h)
            obtain ⟨LX, c0, c1, c2, c3, c4, c5, c6, c7, c8, c9, c10, c11, s06, s46⟩ := hrest nl
            clear hrest
            clear hd hc
            go_simp
            refine hK _ _ ⟨_, _, _, _, _, _, _, _, _, _, _, _, _, g0, g6, by first | rfl | simp [Act.put], fun h => (nl (h.resolve_left (by decide))).elim, fun _ => ⟨LX, ?c0, ?c1, ?c2, ?c3, ?c4, ?c5, ?c6, ?c7, ?c8, ?c9, ?c10, ?c11, ?s06, ?s46⟩⟩
            case c0 => exact fun h0 m4 => c0 (h0.resolve_left (by decide)) (fun q => m4 (.inr q))
            case c1 => exact fun h1 => c1 (h1.resolve_left (by decide))
            case c2 => exact fun h2 => c2 (h2.resolve_left (by decide))
            case c3 => exact fun h3 => c3 (h3.resolve_left (by decide))
            case c4 => exact fun h4 m7 => c4 (h4.resolve_left (by decide)) (fun q => m7 (.inr q))
            case c5 => exact fun h5 => c5 (h5.resolve_left (by decide))
            case c6 => exact fun h6 m7 => c6 (h6.resolve_left (by decide)) (fun q => m7 (.inr q))
            case c7 => exact fun h7 m11 => c7 (h7.resolve_left (by decide)) (fun q => m11 (.inr q))
            case c8 => exact fun h8 => c8 (h8.resolve_left (by decide))
            case c9 => exact fun h9 => rfl
            case c10 => exact fun h10 => c10 (h10.resolve_left (by decide))
            case c11 => exact fun h11 => c11 (h11.resolve_left (by decide))
            case s06 => exact fun h0 h6 m4 => s06 (h0.resolve_left (by decide)) (h6.resolve_left (by decide)) (fun q => m4 (.inr q))
            case s46 => exact fun h4 h6 m7 => s46 (h4.resolve_left (by decide)) (h6.resolve_left (by decide)) (fun q => m7 (.inr q))
          · refine step_of _ [] [(12, 8)] rfl (by kernel_rfl) (by kernel_rfl) ?_
            rintro D a X hn hd hc ⟨t20, t21, t22, t23, t24, t25, t26, t27, t28, t29, t30, t31, t4, g0, g6, rfl, _, hrest⟩ K' hK
            have nl : ¬ D 12 := fun h => hn (hc (12, 8) (by simp) h)
            obtain ⟨LX, c0, c1, c2, c3, c4, c5, c6, c7, c8, c9, c10, c11, s06, s46⟩ := hrest nl
            clear hrest
            clear hd hc
            go_simp
            refine hK _ _ ⟨_, _, _, _, _, _, _, _, _, _, _, _, _, g0, g6, by first | rfl | simp [Act.put], fun h => (nl (h.resolve_left (by decide))).elim, fun _ => ⟨LX, ?c0, ?c1, ?c2, ?c3, ?c4, ?c5, ?c6, ?c7, ?c8, ?c9, ?c10, ?c11, ?s06, ?s46⟩⟩
            case c0 => exact fun h0 m4 => c0 (h0.resolve_left (by decide)) (fun q => m4 (.inr q))
            case c1 => exact fun h1 => c1 (h1.resolve_left (by decide))
            case c2 => exact fun h2 => c2 (h2.resolve_left (by decide))
            case c3 => exact fun h3 => c3 (h3.resolve_left (by decide))
            case c4 => exact fun h4 m7 => c4 (h4.resolve_left (by decide)) (fun q => m7 (.inr q))
            case c5 => exact fun h5 => c5 (h5.resolve_left (by decide))
            case c6 => exact fun h6 m7 => c6 (h6.resolve_left (by decide)) (fun q => m7 (.inr q))
            case c7 => exact fun h7 m11 => c7 (h7.resolve_left (by decide)) (fun q => m11 (.inr q))
            case c8 => exact fun h8 => rfl
            case c9 => exact fun h9 => c9 (h9.resolve_left (by decide))
            case c10 => exact fun h10 => c10 (h10.resolve_left (by decide))
            case c11 => exact fun h11 => c11 (h11.resolve_left (by decide))
            case s06 => exact fun h0 h6 m4 => s06 (h0.resolve_left (by decide)) (h6.resolve_left (by decide)) (fun q => m4 (.inr q))
            case s46 => exact fun h4 h6 m7 => s46 (h4.resolve_left (by decide)) (h6.resolve_left (by decide)) (fun q => m7 (.inr q))
          · refine step_of _ [4, 6, 4] [(12, 7), (11, 7)] rfl (by kernel_rfl) (by kernel_rfl) ?_
            rintro D a X hn hd hc ⟨t20, t21, t22, t23, t24, t25, t26, t27, t28, t29, t30, t31, t4, g0, g6, rfl, _, hrest⟩ K' hK
            have nl : ¬ D 12 := fun h => hn (hc (12, 7) (by simp) h)
            obtain ⟨LX, c0, c1, c2, c3, c4, c5, c6, c7, c8, c9, c10, c11, s06, s46⟩ := hrest nl
            clear hrest
            have d4 := hd 4 (by simp)
            have d6 := hd 6 (by simp)
            have e11_7 := hc (11, 7) (by simp)
            clear hd hc
            have r4 := (c4 d4 hn).2
            obtain ⟨rfl, r6⟩ := c6 d6 hn
            have hsX := LX.out.size
            obtain ⟨_, y0, y1', _, _⟩ := r6
            simp only at y0 y1'
            refine step_app_c (by rfl) _ _ (by rfl) w1.heap.size t24 (xs.take j) (by rfl) r4 g6 0 1 1 [(p, q)] (by rfl) rfl (one_cells y0 y1') (by rw [List.length_take]; omega) hsX ?_
            intro v' X5 hown hgrow hat
            refine hK _ _ ⟨_, _, _, _, _, _, _, _, _, _, _, _, _, g0, g6, by first | rfl | simp [Act.put], fun h => (nl (h.resolve_left (by decide))).elim, fun _ => ⟨Lib.hid (LX.out.grown hgrow hsX (fun q hq => (r4.lt q hq).1)), ?c0, ?c1, ?c2, ?c3, ?c4, ?c5, ?c6, ?c7, ?c8, ?c9, ?c10, ?c11, ?s06, ?s46⟩⟩
            case c0 => exact fun h0 m4 => absurd d4 (fun q => m4 (.inr q))
            case c1 => exact fun h1 => c1 (h1.resolve_left (by decide))
            case c2 => exact fun h2 => c2 (h2.resolve_left (by decide))
            case c3 => exact fun h3 => c3 (h3.resolve_left (by decide))
            case c4 => exact fun h4 m7 => absurd (.inl rfl) m7
            case c5 => exact fun h5 => c5 (h5.resolve_left (by decide))
            case c6 => exact fun h6 m7 => absurd (.inl rfl) m7
            case c7 => exact fun h7 m11 => ⟨trivial, hown⟩
            case c8 => exact fun h8 => c8 (h8.resolve_left (by decide))
            case c9 => exact fun h9 => c9 (h9.resolve_left (by decide))
            case c10 => exact fun h10 => c10 (h10.resolve_left (by decide))
            case c11 => exact fun h11 => (hn (e11_7 (h11.resolve_left (by decide)))).elim
            case s06 => exact fun h0 h6 m4 => s06 (h0.resolve_left (by decide)) (h6.resolve_left (by decide)) (fun q => m4 (.inr q))
            case s46 => exact fun h4 h6 m7 => absurd (.inl rfl) m7
          · refine step_of _ [5] [(12, 6)] rfl (by kernel_rfl) (by kernel_rfl) ?_
            rintro D a X hn hd hc ⟨t20, t21, t22, t23, t24, t25, t26, t27, t28, t29, t30, t31, t4, g0, g6, rfl, _, hrest⟩ K' hK
            have nl : ¬ D 12 := fun h => hn (hc (12, 6) (by simp) h)
            obtain ⟨LX, c0, c1, c2, c3, c4, c5, c6, c7, c8, c9, c10, c11, s06, s46⟩ := hrest nl
            clear hrest
            have d5 := hd 5 (by simp)
            clear hd hc
            obtain rfl := c5 d5
            have l := below_new X (.cells #[.int .i64 p, .int .i64 q] 29)
            have hsX := LX.out.size
            go_simp
            refine hK _ _ ⟨_, _, _, _, _, _, _, _, _, _, _, _, _, g0, X.heap.size, by first | rfl | simp [Act.put], fun h => (nl (h.resolve_left (by decide))).elim, fun _ => ⟨Lib.hid (lo_on LX.out l), ?c0, ?c1, ?c2, ?c3, ?c4, ?c5, ?c6, ?c7, ?c8, ?c9, ?c10, ?c11, ?s06, ?s46⟩⟩
            case c0 => exact fun h0 m4 => ⟨(c0 (h0.resolve_left (by decide)) (fun q => m4 (.inr q))).1, (c0 (h0.resolve_left (by decide)) (fun q => m4 (.inr q))).2.lo l⟩
            case c1 => exact fun h1 => c1 (h1.resolve_left (by decide))
            case c2 => exact fun h2 => c2 (h2.resolve_left (by decide))
            case c3 => exact fun h3 => c3 (h3.resolve_left (by decide))
            case c4 => exact fun h4 m7 => ⟨(c4 (h4.resolve_left (by decide)) (fun q => m7 (.inr q))).1, (c4 (h4.resolve_left (by decide)) (fun q => m7 (.inr q))).2.lo l⟩
            case c5 => exact fun h5 => c5 (h5.resolve_left (by decide))
            case c6 => exact fun h6 m7 => ⟨rfl, cel2_new X p q _⟩
            case c7 => exact fun h7 m11 => ⟨(c7 (h7.resolve_left (by decide)) (fun q => m11 (.inr q))).1, (c7 (h7.resolve_left (by decide)) (fun q => m11 (.inr q))).2.lo l⟩
            case c8 => exact fun h8 => c8 (h8.resolve_left (by decide))
            case c9 => exact fun h9 => c9 (h9.resolve_left (by decide))
            case c10 => exact fun h10 => c10 (h10.resolve_left (by decide))
            case c11 => exact fun h11 => ⟨(c11 (h11.resolve_left (by decide))).1, (c11 (h11.resolve_left (by decide))).2.lo l⟩
            case s06 => exact fun h0 h6 m4 => Nat.ne_of_lt ((c0 (h0.resolve_left (by decide)) (fun q => m4 (.inr q))).2.lt g0 rfl).2
            case s46 => exact fun h4 h6 m7 => fun e => by have := ((c4 (h4.resolve_left (by decide)) (fun q => m7 (.inr q))).2.lt _ e).2; omega
          · refine step_of _ [] [(12, 5)] rfl (by kernel_rfl) (by kernel_rfl) ?_
            rintro D a X hn hd hc ⟨t20, t21, t22, t23, t24, t25, t26, t27, t28, t29, t30, t31, t4, g0, g6, rfl, _, hrest⟩ K' hK
            have nl : ¬ D 12 := fun h => hn (hc (12, 5) (by simp) h)
            obtain ⟨LX, c0, c1, c2, c3, c4, c5, c6, c7, c8, c9, c10, c11, s06, s46⟩ := hrest nl
            clear hrest
            clear hd hc
            obtain ⟨_, x0, x1, _, _⟩ := BX1.out.lo LX.out
            simp only at x0 x1
            go_simp
            refine hK _ _ ⟨_, _, _, _, _, _, _, _, _, _, _, _, _, g0, g6, by first | rfl | simp [Act.put], fun h => (nl (h.resolve_left (by decide))).elim, fun _ => ⟨LX, ?c0, ?c1, ?c2, ?c3, ?c4, ?c5, ?c6, ?c7, ?c8, ?c9, ?c10, ?c11, ?s06, ?s46⟩⟩
            case c0 => exact fun h0 m4 => c0 (h0.resolve_left (by decide)) (fun q => m4 (.inr q))
            case c1 => exact fun h1 => c1 (h1.resolve_left (by decide))
            case c2 => exact fun h2 => c2 (h2.resolve_left (by decide))
            case c3 => exact fun h3 => c3 (h3.resolve_left (by decide))
            case c4 => exact fun h4 m7 => c4 (h4.resolve_left (by decide)) (fun q => m7 (.inr q))
            case c5 => exact fun h5 => rfl
            case c6 => exact fun h6 m7 => c6 (h6.resolve_left (by decide)) (fun q => m7 (.inr q))
            case c7 => exact fun h7 m11 => c7 (h7.resolve_left (by decide)) (fun q => m11 (.inr q))
            case c8 => exact fun h8 => c8 (h8.resolve_left (by decide))
            case c9 => exact fun h9 => c9 (h9.resolve_left (by decide))
            case c10 => exact fun h10 => c10 (h10.resolve_left (by decide))
            case c11 => exact fun h11 => c11 (h11.resolve_left (by decide))
            case s06 => exact fun h0 h6 m4 => s06 (h0.resolve_left (by decide)) (h6.resolve_left (by decide)) (fun q => m4 (.inr q))
            case s46 => exact fun h4 h6 m7 => s46 (h4.resolve_left (by decide)) (h6.resolve_left (by decide)) (fun q => m7 (.inr q))
          · refine step_of _ [0, 3] [(12, 4), (7, 4), (11, 7)] rfl (by kernel_rfl) (by kernel_rfl) ?_
            rintro D a X hn hd hc ⟨t20, t21, t22, t23, t24, t25, t26, t27, t28, t29, t30, t31, t4, g0, g6, rfl, _, hrest⟩ K' hK
            have nl : ¬ D 12 := fun h => hn (hc (12, 4) (by simp) h)
            obtain ⟨LX, c0, c1, c2, c3, c4, c5, c6, c7, c8, c9, c10, c11, s06, s46⟩ := hrest nl
            clear hrest
            have d0 := hd 0 (by simp)
            have d3 := hd 3 (by simp)
            have e7_4 := hc (7, 4) (by simp)
            have e11_7 := hc (11, 7) (by simp)
            clear hd hc
            obtain ⟨rfl, r0⟩ := c0 d0 hn
            obtain rfl := c3 d3
            have hsX := LX.out.size
            refine step_app_c (by rfl) _ _ (by rfl) w1.heap.size (.slice (some ⟨g0, 0, none⟩) 0 0) [] (by rfl) r0 g off j c (xs.take j) (by rfl) (by rw [List.length_take]; omega) (fun i hi => RS.out X LX.out i hi) (by simp only [List.length_nil]; omega) hsX ?_
            intro v' X5 hown hgrow hat
            have hob : OwnC X5 w1.heap.size v' (xs.take j) := by rw [List.nil_append] at hown; exact hown
            refine hK _ _ ⟨_, _, _, _, _, _, _, _, _, _, _, _, _, g0, g6, by first | rfl | simp [Act.put], fun h => (nl (h.resolve_left (by decide))).elim, fun _ => ⟨Lib.hid (LX.out.grown hgrow hsX (fun q hq => (r0.lt q hq).1)), ?c0, ?c1, ?c2, ?c3, ?c4, ?c5, ?c6, ?c7, ?c8, ?c9, ?c10, ?c11, ?s06, ?s46⟩⟩
            case c0 => exact fun h0 m4 => absurd (.inl rfl) m4
            case c1 => exact fun h1 => c1 (h1.resolve_left (by decide))
            case c2 => exact fun h2 => c2 (h2.resolve_left (by decide))
            case c3 => exact fun h3 => c3 (h3.resolve_left (by decide))
            case c4 => exact fun h4 m7 => ⟨trivial, hob⟩
            case c5 => exact fun h5 => c5 (h5.resolve_left (by decide))
            case c6 => exact fun h6 m7 => ⟨(c6 (h6.resolve_left (by decide)) (fun q => m7 (.inr q))).1, (c6 (h6.resolve_left (by decide)) (fun q => m7 (.inr q))).2.grown hgrow (fun e => s06 d0 (h6.resolve_left (by decide)) hn (Option.some.inj e))⟩
            case c7 => exact fun h7 m11 => (hn (e7_4 (h7.resolve_left (by decide)))).elim
            case c8 => exact fun h8 => c8 (h8.resolve_left (by decide))
            case c9 => exact fun h9 => c9 (h9.resolve_left (by decide))
            case c10 => exact fun h10 => c10 (h10.resolve_left (by decide))
            case c11 => exact fun h11 => (hn (e7_4 (e11_7 (h11.resolve_left (by decide))))).elim
            case s06 => exact fun h0 h6 m4 => absurd (.inl rfl) m4
            case s46 => exact fun h4 h6 m7 => hat_far hat (s06 d0 (h6.resolve_left (by decide)) hn) (c6 (h6.resolve_left (by decide)) (fun q => m7 (.inr q))).2.1
          · refine step_of _ [1, 2] [(12, 3)] rfl (by kernel_rfl) (by kernel_rfl) ?_
            rintro D a X hn hd hc ⟨t20, t21, t22, t23, t24, t25, t26, t27, t28, t29, t30, t31, t4, g0, g6, rfl, _, hrest⟩ K' hK
            have nl : ¬ D 12 := fun h => hn (hc (12, 3) (by simp) h)
            obtain ⟨LX, c0, c1, c2, c3, c4, c5, c6, c7, c8, c9, c10, c11, s06, s46⟩ := hrest nl
            clear hrest
            have d1 := hd 1 (by simp)
            have d2 := hd 2 (by simp)
            clear hd hc
            obtain rfl := c1 d1
            obtain rfl := c2 d2
            have hsl := hs1 X
            go_simp
            refine hK _ _ ⟨_, _, _, _, _, _, _, _, _, _, _, _, _, g0, g6, by first | rfl | simp [Act.put], fun h => (nl (h.resolve_left (by decide))).elim, fun _ => ⟨LX, ?c0, ?c1, ?c2, ?c3, ?c4, ?c5, ?c6, ?c7, ?c8, ?c9, ?c10, ?c11, ?s06, ?s46⟩⟩
            case c0 => exact fun h0 m4 => c0 (h0.resolve_left (by decide)) (fun q => m4 (.inr q))
            case c1 => exact fun h1 => c1 (h1.resolve_left (by decide))
            case c2 => exact fun h2 => c2 (h2.resolve_left (by decide))
            case c3 => exact fun h3 => rfl
            case c4 => exact fun h4 m7 => c4 (h4.resolve_left (by decide)) (fun q => m7 (.inr q))
            case c5 => exact fun h5 => c5 (h5.resolve_left (by decide))
            case c6 => exact fun h6 m7 => c6 (h6.resolve_left (by decide)) (fun q => m7 (.inr q))
            case c7 => exact fun h7 m11 => c7 (h7.resolve_left (by decide)) (fun q => m11 (.inr q))
            case c8 => exact fun h8 => c8 (h8.resolve_left (by decide))
            case c9 => exact fun h9 => c9 (h9.resolve_left (by decide))
            case c10 => exact fun h10 => c10 (h10.resolve_left (by decide))
            case c11 => exact fun h11 => c11 (h11.resolve_left (by decide))
            case s06 => exact fun h0 h6 m4 => s06 (h0.resolve_left (by decide)) (h6.resolve_left (by decide)) (fun q => m4 (.inr q))
            case s46 => exact fun h4 h6 m7 => s46 (h4.resolve_left (by decide)) (h6.resolve_left (by decide)) (fun q => m7 (.inr q))
          · refine step_of _ [] [(12, 2)] rfl (by kernel_rfl) (by kernel_rfl) ?_
            rintro D a X hn hd hc ⟨t20, t21, t22, t23, t24, t25, t26, t27, t28, t29, t30, t31, t4, g0, g6, rfl, _, hrest⟩ K' hK
            have nl : ¬ D 12 := fun h => hn (hc (12, 2) (by simp) h)
            obtain ⟨LX, c0, c1, c2, c3, c4, c5, c6, c7, c8, c9, c10, c11, s06, s46⟩ := hrest nl
            clear hrest
            clear hd hc
            go_simp
            refine hK _ _ ⟨_, _, _, _, _, _, _, _, _, _, _, _, _, g0, g6, by first | rfl | simp [Act.put], fun h => (nl (h.resolve_left (by decide))).elim, fun _ => ⟨LX, ?c0, ?c1, ?c2, ?c3, ?c4, ?c5, ?c6, ?c7, ?c8, ?c9, ?c10, ?c11, ?s06, ?s46⟩⟩
            case c0 => exact fun h0 m4 => c0 (h0.resolve_left (by decide)) (fun q => m4 (.inr q))
            case c1 => exact fun h1 => c1 (h1.resolve_left (by decide))
            case c2 => exact fun h2 => rfl
            case c3 => exact fun h3 => c3 (h3.resolve_left (by decide))
            case c4 => exact fun h4 m7 => c4 (h4.resolve_left (by decide)) (fun q => m7 (.inr q))
            case c5 => exact fun h5 => c5 (h5.resolve_left (by decide))
            case c6 => exact fun h6 m7 => c6 (h6.resolve_left (by decide)) (fun q => m7 (.inr q))
            case c7 => exact fun h7 m11 => c7 (h7.resolve_left (by decide)) (fun q => m11 (.inr q))
            case c8 => exact fun h8 => c8 (h8.resolve_left (by decide))
            case c9 => exact fun h9 => c9 (h9.resolve_left (by decide))
            case c10 => exact fun h10 => c10 (h10.resolve_left (by decide))
            case c11 => exact fun h11 => c11 (h11.resolve_left (by decide))
            case s06 => exact fun h0 h6 m4 => s06 (h0.resolve_left (by decide)) (h6.resolve_left (by decide)) (fun q => m4 (.inr q))
            case s46 => exact fun h4 h6 m7 => s46 (h4.resolve_left (by decide)) (h6.resolve_left (by decide)) (fun q => m7 (.inr q))
          · refine step_of _ [] [(12, 1)] rfl (by kernel_rfl) (by kernel_rfl) ?_
            rintro D a X hn hd hc ⟨t20, t21, t22, t23, t24, t25, t26, t27, t28, t29, t30, t31, t4, g0, g6, rfl, _, hrest⟩ K' hK
            have nl : ¬ D 12 := fun h => hn (hc (12, 1) (by simp) h)
            obtain ⟨LX, c0, c1, c2, c3, c4, c5, c6, c7, c8, c9, c10, c11, s06, s46⟩ := hrest nl
            clear hrest
            clear hd hc
            go_simp
            refine hK _ _ ⟨_, _, _, _, _, _, _, _, _, _, _, _, _, g0, g6, by first | rfl | simp [Act.put], fun h => (nl (h.resolve_left (by decide))).elim, fun _ => ⟨LX, ?c0, ?c1, ?c2, ?c3, ?c4, ?c5, ?c6, ?c7, ?c8, ?c9, ?c10, ?c11, ?s06, ?s46⟩⟩
            case c0 => exact fun h0 m4 => c0 (h0.resolve_left (by decide)) (fun q => m4 (.inr q))
            case c1 => exact fun h1 => rfl
            case c2 => exact fun h2 => c2 (h2.resolve_left (by decide))
            case c3 => exact fun h3 => c3 (h3.resolve_left (by decide))
            case c4 => exact fun h4 m7 => c4 (h4.resolve_left (by decide)) (fun q => m7 (.inr q))
            case c5 => exact fun h5 => c5 (h5.resolve_left (by decide))
            case c6 => exact fun h6 m7 => c6 (h6.resolve_left (by decide)) (fun q => m7 (.inr q))
            case c7 => exact fun h7 m11 => c7 (h7.resolve_left (by decide)) (fun q => m11 (.inr q))
            case c8 => exact fun h8 => c8 (h8.resolve_left (by decide))
            case c9 => exact fun h9 => c9 (h9.resolve_left (by decide))
            case c10 => exact fun h10 => c10 (h10.resolve_left (by decide))
            case c11 => exact fun h11 => c11 (h11.resolve_left (by decide))
            case s06 => exact fun h0 h6 m4 => s06 (h0.resolve_left (by decide)) (h6.resolve_left (by decide)) (fun q => m4 (.inr q))
            case s46 => exact fun h4 h6 m7 => s46 (h4.resolve_left (by decide)) (h6.resolve_left (by decide)) (fun q => m7 (.inr q))
          · refine step_of _ [] [(12, 0), (4, 0), (7, 4)] rfl (by kernel_rfl) (by kernel_rfl) ?_
            rintro D a X hn hd hc ⟨t20, t21, t22, t23, t24, t25, t26, t27, t28, t29, t30, t31, t4, g0, g6, rfl, _, hrest⟩ K' hK
            have nl : ¬ D 12 := fun h => hn (hc (12, 0) (by simp) h)
            obtain ⟨LX, c0, c1, c2, c3, c4, c5, c6, c7, c8, c9, c10, c11, s06, s46⟩ := hrest nl
            clear hrest
            have e4_0 := hc (4, 0) (by simp)
            have e7_4 := hc (7, 4) (by simp)
            clear hd hc
            have l := below_new X (.cells #[] 29)
            have hsX := LX.out.size
            go_simp
            refine hK _ _ ⟨_, _, _, _, _, _, _, _, _, _, _, _, _, X.heap.size, g6, by first | rfl | simp [Act.put], fun h => (nl (h.resolve_left (by decide))).elim, fun _ => ⟨Lib.hid (lo_on LX.out l), ?c0, ?c1, ?c2, ?c3, ?c4, ?c5, ?c6, ?c7, ?c8, ?c9, ?c10, ?c11, ?s06, ?s46⟩⟩
            case c0 => exact fun h0 m4 => ⟨rfl, ownC_lit0 X _ hsX⟩
            case c1 => exact fun h1 => c1 (h1.resolve_left (by decide))
            case c2 => exact fun h2 => c2 (h2.resolve_left (by decide))
            case c3 => exact fun h3 => c3 (h3.resolve_left (by decide))
            case c4 => exact fun h4 m7 => ⟨(c4 (h4.resolve_left (by decide)) (fun q => m7 (.inr q))).1, (c4 (h4.resolve_left (by decide)) (fun q => m7 (.inr q))).2.lo l⟩
            case c5 => exact fun h5 => c5 (h5.resolve_left (by decide))
            case c6 => exact fun h6 m7 => ⟨(c6 (h6.resolve_left (by decide)) (fun q => m7 (.inr q))).1, (c6 (h6.resolve_left (by decide)) (fun q => m7 (.inr q))).2.lo l⟩
            case c7 => exact fun h7 m11 => ⟨(c7 (h7.resolve_left (by decide)) (fun q => m11 (.inr q))).1, (c7 (h7.resolve_left (by decide)) (fun q => m11 (.inr q))).2.lo l⟩
            case c8 => exact fun h8 => c8 (h8.resolve_left (by decide))
            case c9 => exact fun h9 => c9 (h9.resolve_left (by decide))
            case c10 => exact fun h10 => c10 (h10.resolve_left (by decide))
            case c11 => exact fun h11 => ⟨(c11 (h11.resolve_left (by decide))).1, (c11 (h11.resolve_left (by decide))).2.lo l⟩
            case s06 => exact fun h0 h6 m4 => by have := (c6 (h6.resolve_left (by decide)) (fun q => hn (e4_0 (e7_4 q)))).2.1; omega
            case s46 => exact fun h4 h6 m7 => s46 (h4.resolve_left (by decide)) (h6.resolve_left (by decide)) (fun q => m7 (.inr q))
        · rintro D a X hall ⟨t20, t21, t22, t23, t24, t25, t26, t27, t28, t29, t30, t31, t4, g0, g6, rfl, hfin, _⟩
          have HFIN := Lib.hid (hfin (hall 12 (by decide)))
          clear hfin hall
          obtain ⟨HO4, HL4⟩ := HFIN.out
          go_wp2
          go_ret
          exact ⟨_, rfl, ownC_base HO4.out LQ.out.size, lo_on LQ.out HL4.out⟩
    · obtain rfl : j = xs.length := by omega
      obtain rfl : k = xs.length := by omega
      have hge : ¬ (xs.length : Int) < (xs.length : Int) := by omega
      go_wp2
      go_quiet (fail)
      obtain ⟨w1, hw1⟩ : ∃ w1, wr.drewN nq = w1 := ⟨_, rfl⟩
      have LN := Lib.hid (show Below W.heap.size W w1 by rw [← hw1]; exact lo_drewN HL.out _)
      rw [hw1]
      clear hw1 b1 b2
      have LQ := Lib.hid (show Below w.heap.size w w1 from lo_on LW.out LN.out)
      have BX1 := Lib.hid (BX.out.lo LN.out)
      have RS := Lib.hid (fun (X : World) (l : Below w1.heap.size w1 X) i (hi : i < xs.length) => show X.cell? ⟨g, off + i * 2, none⟩ = some (.int .i64 ((xs.take xs.length).getD i (0, 0)).1) ∧ X.cell? ⟨g, off + i * 2 + 1, none⟩ = some (.int .i64 ((xs.take xs.length).getD i (0, 0)).2) by
        rw [take_at xs hi, (lo_on LQ.out l).cell (p := ⟨g, off + i * 2, none⟩) hg, (lo_on LQ.out l).cell (p := ⟨g, off + i * 2 + 1, none⟩) hg]
        exact HC.out i (by omega))
      have RD := Lib.hid (fun (X : World) (l : Below w1.heap.size w1 X) i (hi : i < xs.length - xs.length) => show X.cell? ⟨g, o3 + i * 2, none⟩ = some (.int .i64 ((xs.drop xs.length).getD i (0, 0)).1) ∧ X.cell? ⟨g, o3 + i * 2 + 1, none⟩ = some (.int .i64 ((xs.drop xs.length).getD i (0, 0)).2) by
        rcases ho3 with h | h
        · rw [drop_at, (lo_on LQ.out l).cell (p := ⟨g, o3 + i * 2, none⟩) hg, (lo_on LQ.out l).cell (p := ⟨g, o3 + i * 2 + 1, none⟩) hg, h, show off + xs.length * 2 + i * 2 = off + (xs.length + i) * 2 by omega]
          exact HC.out (xs.length + i) (by omega)
        · omega)
      go_wp2_with fail
      refine wp_region_inv (by kernel_rfl) (by kernel_rfl) (fun D a X => ∃ (t20 t21 t22 t23 t24 t25 t26 t27 t28 t29 t30 t31 t4 : Value) (g0 g6 : Nat), a = (⟨#[(.slice (some ⟨g, off, none⟩) xs.length c), (.agg #[.int .i64 p, .int .i64 q]), undef, (.pointer (some ⟨w.heap.size, 0, none⟩)), t4, (.int .i64 (xs.length : Int)), (.int .i64 (xs.length : Int)), (.slice (some ⟨g, off, none⟩) xs.length c), (.int .i64 (xs.length : Int)), (.bool false), (.bool false), undef, undef, undef, undef, undef, undef, (.bool false), u18, u19, t20, t21, t22, t23, t24, t25, t26, t27, t28, t29, t30, t31], []⟩ : Act) ∧ (D 12 → (Hid (OwnC X w1.heap.size t4 (xs.take xs.length ++ (p, q) :: xs.drop xs.length)) ∧ Hid (Below w1.heap.size w1 X))) ∧ (¬ D 12 → Hid (Below w1.heap.size w1 X) ∧ (D 0 → ¬ D 4 → (t20 = .slice (some ⟨g0, 0, none⟩) 0 0 ∧ OwnC X w1.heap.size (.slice (some ⟨g0, 0, none⟩) 0 0) [])) ∧ (D 1 → (t21 = .slice (some ⟨g, off, none⟩) xs.length c)) ∧ (D 2 → (t22 = .int .i64 (xs.length : Int))) ∧ (D 3 → (t23 = .slice (some ⟨g, off, none⟩) xs.length c)) ∧ (D 4 → ¬ D 7 → (True ∧ OwnC X w1.heap.size t24 (xs.take xs.length))) ∧ (D 5 → (t25 = .agg #[.int .i64 p, .int .i64 q])) ∧ (D 6 → ¬ D 7 → (t26 = .slice (some ⟨g6, 0, none⟩) 1 1 ∧ Cel2 X g6 (p, q))) ∧ (D 7 → ¬ D 11 → (True ∧ OwnC X w1.heap.size t27 (xs.take xs.length ++ [(p, q)]))) ∧ (D 8 → (t28 = .slice (some ⟨g, off, none⟩) xs.length c)) ∧ (D 9 → (t29 = .int .i64 (xs.length : Int))) ∧ (D 10 → (t30 = .slice (some ⟨g, o3, none⟩) 0 cc3)) ∧ (D 11 → (True ∧ OwnC X w1.heap.size t31 (xs.take xs.length ++ (p, q) :: xs.drop xs.length))) ∧ (D 0 → D 6 → ¬ D 4 → (g0 ≠ g6)) ∧ (D 4 → D 6 → ¬ D 7 → (t24.ownBlock ≠ some g6)))) ?_ ?_ ?_
      · exact ⟨_, _, _, _, _, _, _, _, _, _, _, _, _, 0, 0, rfl, fun h => h.elim, fun _ => ⟨Lib.hid (drew_below w1), fun h => h.elim, fun h => h.elim, fun h => h.elim, fun h => h.elim, fun h => h.elim, fun h => h.elim, fun h => h.elim, fun h => h.elim, fun h => h.elim, fun h => h.elim, fun h => h.elim, fun h => h.elim, fun h => h.elim, fun h => h.elim⟩⟩
      · refine (show ∀ i, i < 13 → StepAt _ _ _ _ _ i from ?_)
        refine lt_more (n := 12) ?_ (lt_more (n := 11) ?_ (lt_more (n := 10) ?_ (lt_more (n := 9) ?_ (lt_more (n := 8) ?_ (lt_more (n := 7) ?_ (lt_more (n := 6) ?_ (lt_more (n := 5) ?_ (lt_more (n := 4) ?_ (lt_more (n := 3) ?_ (lt_more (n := 2) ?_ (lt_more (n := 1) ?_ (lt_more (n := 0) ?_ lt_none))))))))))))
        · refine step_of _ [11, 11, 0, 1, 2, 3, 4, 5, 6, 7, 8, 9, 10, 11] [] rfl (by kernel_rfl) (by kernel_rfl) ?_
          rintro D a X hn hd hc ⟨t20, t21, t22, t23, t24, t25, t26, t27, t28, t29, t30, t31, t4, g0, g6, rfl, _, hrest⟩ K' hK
          have nl := hn
          obtain ⟨LX, c0, c1, c2, c3, c4, c5, c6, c7, c8, c9, c10, c11, s06, s46⟩ := hrest nl
          clear hrest
          have d0 := hd 0 (by simp)
          have d1 := hd 1 (by simp)
          have d2 := hd 2 (by simp)
          have d3 := hd 3 (by simp)
          have d4 := hd 4 (by simp)
          have d5 := hd 5 (by simp)
          have d6 := hd 6 (by simp)
          have d7 := hd 7 (by simp)
          have d8 := hd 8 (by simp)
          have d9 := hd 9 (by simp)
          have d10 := hd 10 (by simp)
          have d11 := hd 11 (by simp)
          clear hd hc
          have r11 := (c11 d11).2
          go_simp
          refine hK _ _ ⟨_, _, _, _, _, _, _, _, _, _, _, _, _, g0, g6, by first | rfl | simp [Act.put], fun _ => ?_, fun m => absurd (.inl rfl) m⟩
          exact ⟨Lib.hid r11, LX⟩
        · refine step_of _ [7, 10, 7] [(12, 11), (7, 4)] rfl (by kernel_rfl) (by kernel_rfl) ?_
          rintro D a X hn hd hc ⟨t20, t21, t22, t23, t24, t25, t26, t27, t28, t29, t30, t31, t4, g0, g6, rfl, _, hrest⟩ K' hK
          have nl : ¬ D 12 := fun h => hn (hc (12, 11) (by simp) h)
          obtain ⟨LX, c0, c1, c2, c3, c4, c5, c6, c7, c8, c9, c10, c11, s06, s46⟩ := hrest nl
          clear hrest
          have d7 := hd 7 (by simp)
          have d10 := hd 10 (by simp)
          have e7_4 := hc (7, 4) (by simp)
          clear hd hc
          have r7 := (c7 d7 hn).2
          obtain rfl := c10 d10
          have hsX := LX.out.size
          have d4 := e7_4 d7
          refine step_app_c (by rfl) _ _ (by rfl) w1.heap.size t27 (xs.take xs.length ++ [(p, q)]) (by rfl) r7 g o3 0 cc3 (xs.drop xs.length) (by rfl) (by rw [List.length_drop] <;> omega) (fun i hi => absurd hi (Nat.not_lt_zero _)) (by rw [List.length_append, List.length_take]; simp only [List.length_cons, List.length_nil]; omega) hsX ?_
          intro v' X5 hown hgrow hat
          rw [List.append_assoc, List.singleton_append] at hown
          refine hK _ _ ⟨_, _, _, _, _, _, _, _, _, _, _, _, _, g0, g6, by first | rfl | simp [Act.put], fun h => (nl (h.resolve_left (by decide))).elim, fun _ => ⟨Lib.hid (LX.out.grown hgrow hsX (fun q hq => (r7.lt q hq).1)), ?c0, ?c1, ?c2, ?c3, ?c4, ?c5, ?c6, ?c7, ?c8, ?c9, ?c10, ?c11, ?s06, ?s46⟩⟩
          case c0 => exact fun h0 m4 => absurd d4 (fun q => m4 (.inr q))
          case c1 => exact fun h1 => c1 (h1.resolve_left (by decide))
          case c2 => exact fun h2 => c2 (h2.resolve_left (by decide))
          case c3 => exact fun h3 => c3 (h3.resolve_left (by decide))
          case c4 => exact fun h4 m7 => absurd d7 (fun q => m7 (.inr q))
          case c5 => exact fun h5 => c5 (h5.resolve_left (by decide))
          case c6 => exact fun h6 m7 => absurd d7 (fun q => m7 (.inr q))
          case c7 => exact fun h7 m11 => absurd (.inl rfl) m11
          case c8 => exact fun h8 => c8 (h8.resolve_left (by decide))
          case c9 => exact fun h9 => c9 (h9.resolve_left (by decide))
          case c10 => exact fun h10 => c10 (h10.resolve_left (by decide))
          case c11 => exact fun h11 => ⟨trivial, hown⟩
          case s06 => exact fun h0 h6 m4 => s06 (h0.resolve_left (by decide)) (h6.resolve_left (by decide)) (fun q => m4 (.inr q))
          case s46 => exact fun h4 h6 m7 => s46 (h4.resolve_left (by decide)) (h6.resolve_left (by decide)) (fun q => m7 (.inr q))
        · refine step_of _ [8, 9] [(12, 10)] rfl (by kernel_rfl) (by kernel_rfl) ?_
          rintro D a X hn hd hc ⟨t20, t21, t22, t23, t24, t25, t26, t27, t28, t29, t30, t31, t4, g0, g6, rfl, _, hrest⟩ K' hK
          have nl : ¬ D 12 := fun h => hn (hc (12, 10) (by simp) h)
          obtain ⟨LX, c0, c1, c2, c3, c4, c5, c6, c7, c8, c9, c10, c11, s06, s46⟩ := hrest nl
          clear hrest
          have d8 := hd 8 (by simp)
          have d9 := hd 9 (by simp)
          clear hd hc
          obtain rfl := c8 d8
          obtain rfl := c9 d9
          have hsl := hs2 X
          go_simp
          refine hK _ _ ⟨_, _, _, _, _, _, _, _, _, _, _, _, _, g0, g6, by first | rfl | simp [Act.put], fun h => (nl (h.resolve_left (by decide))).elim, fun _ => ⟨LX, ?c0, ?c1, ?c2, ?c3, ?c4, ?c5, ?c6, ?c7, ?c8, ?c9, ?c10, ?c11, ?s06, ?s46⟩⟩
          case c0 => exact fun h0 m4 => c0 (h0.resolve_left (by decide)) (fun q => m4 (.inr q))
          case c1 => exact fun h1 => c1 (h1.resolve_left (by decide))
          case c2 => exact fun h2 => c2 (h2.resolve_left (by decide))
          case c3 => exact fun h3 => c3 (h3.resolve_left (by decide))
          case c4 => exact fun h4 m7 => c4 (h4.resolve_left (by decide)) (fun q => m7 (.inr q))
          case c5 => exact fun h5 => c5 (h5.resolve_left (by decide))
          case c6 => exact fun h6 m7 => c6 (h6.resolve_left (by decide)) (fun q => m7 (.inr q))
          case c7 => exact fun h7 m11 => c7 (h7.resolve_left (by decide)) (fun q => m11 (.inr q))
          case c8 => exact fun h8 => c8 (h8.resolve_left (by decide))
          case c9 => exact fun h9 => c9 (h9.resolve_left (by decide))
          case c10 => exact fun h10 => rfl
          case c11 => exact fun h11 => c11 (h11.resolve_left (by decide))
          case s06 => exact fun h0 h6 m4 => s06 (h0.resolve_left (by decide)) (h6.resolve_left (by decide)) (fun q => m4 (.inr q))
          case s46 => exact fun h4 h6 m7 => s46 (h4.resolve_left (by decide)) (h6.resolve_left (by decide)) (fun q => m7 (.inr q))
        · refine step_of _ [] [(12, 9)] rfl (by kernel_rfl) (by kernel_rfl) ?_
          rintro D a X hn hd hc ⟨t20, t21, t22, t23, t24, t25, t26, t27, t28, t29, t30, t31, t4, g0, g6, rfl, _, hrest⟩ K' hK
          have nl : ¬ D 12 := fun h => hn (hc (12, 9) (by simp) h)
          obtain ⟨LX, c0, c1, c2, c3, c4, c5, c6, c7, c8, c9, c10, c11, s06, s46⟩ := hrest nl
          clear hrest
          clear hd hc
          go_simp
          refine hK _ _ ⟨_, _, _, _, _, _, _, _, _, _, _, _, _, g0, g6, by first | rfl | simp [Act.put], fun h => (nl (h.resolve_left (by decide))).elim, fun _ => ⟨LX, ?c0, ?c1, ?c2, ?c3, ?c4, ?c5, ?c6, ?c7, ?c8, ?c9, ?c10, ?c11, ?s06, ?s46⟩⟩
          case c0 => exact fun h0 m4 => c0 (h0.resolve_left (by decide)) (fun q => m4 (.inr q))
          case c1 => exact fun h1 => c1 (h1.resolve_left (by decide))
          case c2 => exact fun h2 => c2 (h2.resolve_left (by decide))
          case c3 => exact fun h3 => c3 (h3.resolve_left (by decide))
          case c4 => exact fun h4 m7 => c4 (h4.resolve_left (by decide)) (fun q => m7 (.inr q))
          case c5 => exact fun h5 => c5 (h5.resolve_left (by decide))
          case c6 => exact fun h6 m7 => c6 (h6.resolve_left (by decide)) (fun q => m7 (.inr q))
          case c7 => exact fun h7 m11 => c7 (h7.resolve_left (by decide)) (fun q => m11 (.inr q))
          case c8 => exact fun h8 => c8 (h8.resolve_left (by decide))
          case c9 => exact fun h9 => rfl
          case c10 => exact fun h10 => c10 (h10.resolve_left (by decide))
          case c11 => exact fun h11 => c11 (h11.resolve_left (by decide))
          case s06 => exact fun h0 h6 m4 => s06 (h0.resolve_left (by decide)) (h6.resolve_left (by decide)) (fun q => m4 (.inr q))
          case s46 => exact fun h4 h6 m7 => s46 (h4.resolve_left (by decide)) (h6.resolve_left (by decide)) (fun q => m7 (.inr q))
        · refine step_of _ [] [(12, 8)] rfl (by kernel_rfl) (by kernel_rfl) ?_
          rintro D a X hn hd hc ⟨t20, t21, t22, t23, t24, t25, t26, t27, t28, t29, t30, t31, t4, g0, g6, rfl, _, hrest⟩ K' hK
          have nl : ¬ D 12 := fun h => hn (hc (12, 8) (by simp) h)
          obtain ⟨LX, c0, c1, c2, c3, c4, c5, c6, c7, c8, c9, c10, c11, s06, s46⟩ := hrest nl
          clear hrest
          clear hd hc
          go_simp
          refine hK _ _ ⟨_, _, _, _, _, _, _, _, _, _, _, _, _, g0, g6, by first | rfl | simp [Act.put], fun h => (nl (h.resolve_left (by decide))).elim, fun _ => ⟨LX, ?c0, ?c1, ?c2, ?c3, ?c4, ?c5, ?c6, ?c7, ?c8, ?c9, ?c10, ?c11, ?s06, ?s46⟩⟩
          case c0 => exact fun h0 m4 => c0 (h0.resolve_left (by decide)) (fun q => m4 (.inr q))
          case c1 => exact fun h1 => c1 (h1.resolve_left (by decide))
          case c2 => exact fun h2 => c2 (h2.resolve_left (by decide))
          case c3 => exact fun h3 => c3 (h3.resolve_left (by decide))
          case c4 => exact fun h4 m7 => c4 (h4.resolve_left (by decide)) (fun q => m7 (.inr q))
          case c5 => exact fun h5 => c5 (h5.resolve_left (by decide))
          case c6 => exact fun h6 m7 => c6 (h6.resolve_left (by decide)) (fun q => m7 (.inr q))
          case c7 => exact fun h7 m11 => c7 (h7.resolve_left (by decide)) (fun q => m11 (.inr q))
          case c8 => exact fun h8 => rfl
          case c9 => exact fun h9 => c9 (h9.resolve_left (by decide))
          case c10 => exact fun h10 => c10 (h10.resolve_left (by decide))
          case c11 => exact fun h11 => c11 (h11.resolve_left (by decide))
          case s06 => exact fun h0 h6 m4 => s06 (h0.resolve_left (by decide)) (h6.resolve_left (by decide)) (fun q => m4 (.inr q))
          case s46 => exact fun h4 h6 m7 => s46 (h4.resolve_left (by decide)) (h6.resolve_left (by decide)) (fun q => m7 (.inr q))
        · refine step_of _ [4, 6, 4] [(12, 7), (11, 7)] rfl (by kernel_rfl) (by kernel_rfl) ?_
          rintro D a X hn hd hc ⟨t20, t21, t22, t23, t24, t25, t26, t27, t28, t29, t30, t31, t4, g0, g6, rfl, _, hrest⟩ K' hK
          have nl : ¬ D 12 := fun h => hn (hc (12, 7) (by simp) h)
          obtain ⟨LX, c0, c1, c2, c3, c4, c5, c6, c7, c8, c9, c10, c11, s06, s46⟩ := hrest nl
          clear hrest
          have d4 := hd 4 (by simp)
          have d6 := hd 6 (by simp)
          have e11_7 := hc (11, 7) (by simp)
          clear hd hc
          have r4 := (c4 d4 hn).2
          obtain ⟨rfl, r6⟩ := c6 d6 hn
          have hsX := LX.out.size
          obtain ⟨_, y0, y1', _, _⟩ := r6
          simp only at y0 y1'
          refine step_app_c (by rfl) _ _ (by rfl) w1.heap.size t24 (xs.take xs.length) (by rfl) r4 g6 0 1 1 [(p, q)] (by rfl) rfl (one_cells y0 y1') (by rw [List.length_take]; omega) hsX ?_
          intro v' X5 hown hgrow hat
          refine hK _ _ ⟨_, _, _, _, _, _, _, _, _, _, _, _, _, g0, g6, by first | rfl | simp [Act.put], fun h => (nl (h.resolve_left (by decide))).elim, fun _ => ⟨Lib.hid (LX.out.grown hgrow hsX (fun q hq => (r4.lt q hq).1)), ?c0, ?c1, ?c2, ?c3, ?c4, ?c5, ?c6, ?c7, ?c8, ?c9, ?c10, ?c11, ?s06, ?s46⟩⟩
          case c0 => exact fun h0 m4 => absurd d4 (fun q => m4 (.inr q))
          case c1 => exact fun h1 => c1 (h1.resolve_left (by decide))
          case c2 => exact fun h2 => c2 (h2.resolve_left (by decide))
          case c3 => exact fun h3 => c3 (h3.resolve_left (by decide))
          case c4 => exact fun h4 m7 => absurd (.inl rfl) m7
          case c5 => exact fun h5 => c5 (h5.resolve_left (by decide))
          case c6 => exact fun h6 m7 => absurd (.inl rfl) m7
          case c7 => exact fun h7 m11 => ⟨trivial, hown⟩
          case c8 => exact fun h8 => c8 (h8.resolve_left (by decide))
          case c9 => exact fun h9 => c9 (h9.resolve_left (by decide))
          case c10 => exact fun h10 => c10 (h10.resolve_left (by decide))
          case c11 => exact fun h11 => (hn (e11_7 (h11.resolve_left (by decide)))).elim
          case s06 => exact fun h0 h6 m4 => s06 (h0.resolve_left (by decide)) (h6.resolve_left (by decide)) (fun q => m4 (.inr q))
          case s46 => exact fun h4 h6 m7 => absurd (.inl rfl) m7
        · refine step_of _ [5] [(12, 6)] rfl (by kernel_rfl) (by kernel_rfl) ?_
          rintro D a X hn hd hc ⟨t20, t21, t22, t23, t24, t25, t26, t27, t28, t29, t30, t31, t4, g0, g6, rfl, _, hrest⟩ K' hK
          have nl : ¬ D 12 := fun h => hn (hc (12, 6) (by simp) h)
          obtain ⟨LX, c0, c1, c2, c3, c4, c5, c6, c7, c8, c9, c10, c11, s06, s46⟩ := hrest nl
          clear hrest
          have d5 := hd 5 (by simp)
          clear hd hc
          obtain rfl := c5 d5
          have l := below_new X (.cells #[.int .i64 p, .int .i64 q] 29)
          have hsX := LX.out.size
          go_simp
          refine hK _ _ ⟨_, _, _, _, _, _, _, _, _, _, _, _, _, g0, X.heap.size, by first | rfl | simp [Act.put], fun h => (nl (h.resolve_left (by decide))).elim, fun _ => ⟨Lib.hid (lo_on LX.out l), ?c0, ?c1, ?c2, ?c3, ?c4, ?c5, ?c6, ?c7, ?c8, ?c9, ?c10, ?c11, ?s06, ?s46⟩⟩
          case c0 => exact fun h0 m4 => ⟨(c0 (h0.resolve_left (by decide)) (fun q => m4 (.inr q))).1, (c0 (h0.resolve_left (by decide)) (fun q => m4 (.inr q))).2.lo l⟩
          case c1 => exact fun h1 => c1 (h1.resolve_left (by decide))
          case c2 => exact fun h2 => c2 (h2.resolve_left (by decide))
          case c3 => exact fun h3 => c3 (h3.resolve_left (by decide))
          case c4 => exact fun h4 m7 => ⟨(c4 (h4.resolve_left (by decide)) (fun q => m7 (.inr q))).1, (c4 (h4.resolve_left (by decide)) (fun q => m7 (.inr q))).2.lo l⟩
          case c5 => exact fun h5 => c5 (h5.resolve_left (by decide))
          case c6 => exact fun h6 m7 => ⟨rfl, cel2_new X p q _⟩
          case c7 => exact fun h7 m11 => ⟨(c7 (h7.resolve_left (by decide)) (fun q => m11 (.inr q))).1, (c7 (h7.resolve_left (by decide)) (fun q => m11 (.inr q))).2.lo l⟩
          case c8 => exact fun h8 => c8 (h8.resolve_left (by decide))
          case c9 => exact fun h9 => c9 (h9.resolve_left (by decide))
          case c10 => exact fun h10 => c10 (h10.resolve_left (by decide))
          case c11 => exact fun h11 => ⟨(c11 (h11.resolve_left (by decide))).1, (c11 (h11.resolve_left (by decide))).2.lo l⟩
          case s06 => exact fun h0 h6 m4 => Nat.ne_of_lt ((c0 (h0.resolve_left (by decide)) (fun q => m4 (.inr q))).2.lt g0 rfl).2
          case s46 => exact fun h4 h6 m7 => fun e => by have := ((c4 (h4.resolve_left (by decide)) (fun q => m7 (.inr q))).2.lt _ e).2; omega
        · refine step_of _ [] [(12, 5)] rfl (by kernel_rfl) (by kernel_rfl) ?_
          rintro D a X hn hd hc ⟨t20, t21, t22, t23, t24, t25, t26, t27, t28, t29, t30, t31, t4, g0, g6, rfl, _, hrest⟩ K' hK
          have nl : ¬ D 12 := fun h => hn (hc (12, 5) (by simp) h)
          obtain ⟨LX, c0, c1, c2, c3, c4, c5, c6, c7, c8, c9, c10, c11, s06, s46⟩ := hrest nl
          clear hrest
          clear hd hc
          obtain ⟨_, x0, x1, _, _⟩ := BX1.out.lo LX.out
          simp only at x0 x1
          go_simp
          refine hK _ _ ⟨_, _, _, _, _, _, _, _, _, _, _, _, _, g0, g6, by first | rfl | simp [Act.put], fun h => (nl (h.resolve_left (by decide))).elim, fun _ => ⟨LX, ?c0, ?c1, ?c2, ?c3, ?c4, ?c5, ?c6, ?c7, ?c8, ?c9, ?c10, ?c11, ?s06, ?s46⟩⟩
          case c0 => exact fun h0 m4 => c0 (h0.resolve_left (by decide)) (fun q => m4 (.inr q))
          case c1 => exact fun h1 => c1 (h1.resolve_left (by decide))
          case c2 => exact fun h2 => c2 (h2.resolve_left (by decide))
          case c3 => exact fun h3 => c3 (h3.resolve_left (by decide))
          case c4 => exact fun h4 m7 => c4 (h4.resolve_left (by decide)) (fun q => m7 (.inr q))
          case c5 => exact fun h5 => rfl
          case c6 => exact fun h6 m7 => c6 (h6.resolve_left (by decide)) (fun q => m7 (.inr q))
          case c7 => exact fun h7 m11 => c7 (h7.resolve_left (by decide)) (fun q => m11 (.inr q))
          case c8 => exact fun h8 => c8 (h8.resolve_left (by decide))
          case c9 => exact fun h9 => c9 (h9.resolve_left (by decide))
          case c10 => exact fun h10 => c10 (h10.resolve_left (by decide))
          case c11 => exact fun h11 => c11 (h11.resolve_left (by decide))
          case s06 => exact fun h0 h6 m4 => s06 (h0.resolve_left (by decide)) (h6.resolve_left (by decide)) (fun q => m4 (.inr q))
          case s46 => exact fun h4 h6 m7 => s46 (h4.resolve_left (by decide)) (h6.resolve_left (by decide)) (fun q => m7 (.inr q))
        · refine step_of _ [0, 3] [(12, 4), (7, 4), (11, 7)] rfl (by kernel_rfl) (by kernel_rfl) ?_
          rintro D a X hn hd hc ⟨t20, t21, t22, t23, t24, t25, t26, t27, t28, t29, t30, t31, t4, g0, g6, rfl, _, hrest⟩ K' hK
          have nl : ¬ D 12 := fun h => hn (hc (12, 4) (by simp) h)
          obtain ⟨LX, c0, c1, c2, c3, c4, c5, c6, c7, c8, c9, c10, c11, s06, s46⟩ := hrest nl
          clear hrest
          have d0 := hd 0 (by simp)
          have d3 := hd 3 (by simp)
          have e7_4 := hc (7, 4) (by simp)
          have e11_7 := hc (11, 7) (by simp)
          clear hd hc
          obtain ⟨rfl, r0⟩ := c0 d0 hn
          obtain rfl := c3 d3
          have hsX := LX.out.size
          refine step_app_c (by rfl) _ _ (by rfl) w1.heap.size (.slice (some ⟨g0, 0, none⟩) 0 0) [] (by rfl) r0 g off xs.length c (xs.take xs.length) (by rfl) (by rw [List.length_take]; omega) (fun i hi => RS.out X LX.out i hi) (by simp only [List.length_nil]; omega) hsX ?_
          intro v' X5 hown hgrow hat
          have hob : OwnC X5 w1.heap.size v' (xs.take xs.length) := by rw [List.nil_append] at hown; exact hown
          refine hK _ _ ⟨_, _, _, _, _, _, _, _, _, _, _, _, _, g0, g6, by first | rfl | simp [Act.put], fun h => (nl (h.resolve_left (by decide))).elim, fun _ => ⟨Lib.hid (LX.out.grown hgrow hsX (fun q hq => (r0.lt q hq).1)), ?c0, ?c1, ?c2, ?c3, ?c4, ?c5, ?c6, ?c7, ?c8, ?c9, ?c10, ?c11, ?s06, ?s46⟩⟩
          case c0 => exact fun h0 m4 => absurd (.inl rfl) m4
          case c1 => exact fun h1 => c1 (h1.resolve_left (by decide))
          case c2 => exact fun h2 => c2 (h2.resolve_left (by decide))
          case c3 => exact fun h3 => c3 (h3.resolve_left (by decide))
          case c4 => exact fun h4 m7 => ⟨trivial, hob⟩
          case c5 => exact fun h5 => c5 (h5.resolve_left (by decide))
          case c6 => exact fun h6 m7 => ⟨(c6 (h6.resolve_left (by decide)) (fun q => m7 (.inr q))).1, (c6 (h6.resolve_left (by decide)) (fun q => m7 (.inr q))).2.grown hgrow (fun e => s06 d0 (h6.resolve_left (by decide)) hn (Option.some.inj e))⟩
          case c7 => exact fun h7 m11 => (hn (e7_4 (h7.resolve_left (by decide)))).elim
          case c8 => exact fun h8 => c8 (h8.resolve_left (by decide))
          case c9 => exact fun h9 => c9 (h9.resolve_left (by decide))
          case c10 => exact fun h10 => c10 (h10.resolve_left (by decide))
          case c11 => exact fun h11 => (hn (e7_4 (e11_7 (h11.resolve_left (by decide))))).elim
          case s06 => exact fun h0 h6 m4 => absurd (.inl rfl) m4
          case s46 => exact fun h4 h6 m7 => hat_far hat (s06 d0 (h6.resolve_left (by decide)) hn) (c6 (h6.resolve_left (by decide)) (fun q => m7 (.inr q))).2.1
        · refine step_of _ [1, 2] [(12, 3)] rfl (by kernel_rfl) (by kernel_rfl) ?_
          rintro D a X hn hd hc ⟨t20, t21, t22, t23, t24, t25, t26, t27, t28, t29, t30, t31, t4, g0, g6, rfl, _, hrest⟩ K' hK
          have nl : ¬ D 12 := fun h => hn (hc (12, 3) (by simp) h)
          obtain ⟨LX, c0, c1, c2, c3, c4, c5, c6, c7, c8, c9, c10, c11, s06, s46⟩ := hrest nl
          clear hrest
          have d1 := hd 1 (by simp)
          have d2 := hd 2 (by simp)
          clear hd hc
          obtain rfl := c1 d1
          obtain rfl := c2 d2
          have hsl := hs1 X
          go_simp
          refine hK _ _ ⟨_, _, _, _, _, _, _, _, _, _, _, _, _, g0, g6, by first | rfl | simp [Act.put], fun h => (nl (h.resolve_left (by decide))).elim, fun _ => ⟨LX, ?c0, ?c1, ?c2, ?c3, ?c4, ?c5, ?c6, ?c7, ?c8, ?c9, ?c10, ?c11, ?s06, ?s46⟩⟩
          case c0 => exact fun h0 m4 => c0 (h0.resolve_left (by decide)) (fun q => m4 (.inr q))
          case c1 => exact fun h1 => c1 (h1.resolve_left (by decide))
          case c2 => exact fun h2 => c2 (h2.resolve_left (by decide))
          case c3 => exact fun h3 => rfl
          case c4 => exact fun h4 m7 => c4 (h4.resolve_left (by decide)) (fun q => m7 (.inr q))
          case c5 => exact fun h5 => c5 (h5.resolve_left (by decide))
          case c6 => exact fun h6 m7 => c6 (h6.resolve_left (by decide)) (fun q => m7 (.inr q))
          case c7 => exact fun h7 m11 => c7 (h7.resolve_left (by decide)) (fun q => m11 (.inr q))
          case c8 => exact fun h8 => c8 (h8.resolve_left (by decide))
          case c9 => exact fun h9 => c9 (h9.resolve_left (by decide))
          case c10 => exact fun h10 => c10 (h10.resolve_left (by decide))
          case c11 => exact fun h11 => c11 (h11.resolve_left (by decide))
          case s06 => exact fun h0 h6 m4 => s06 (h0.resolve_left (by decide)) (h6.resolve_left (by decide)) (fun q => m4 (.inr q))
          case s46 => exact fun h4 h6 m7 => s46 (h4.resolve_left (by decide)) (h6.resolve_left (by decide)) (fun q => m7 (.inr q))
        · refine step_of _ [] [(12, 2)] rfl (by kernel_rfl) (by kernel_rfl) ?_
          rintro D a X hn hd hc ⟨t20, t21, t22, t23, t24, t25, t26, t27, t28, t29, t30, t31, t4, g0, g6, rfl, _, hrest⟩ K' hK
          have nl : ¬ D 12 := fun h => hn (hc (12, 2) (by simp) h)
          obtain ⟨LX, c0, c1, c2, c3, c4, c5, c6, c7, c8, c9, c10, c11, s06, s46⟩ := hrest nl
          clear hrest
          clear hd hc
          go_simp
          refine hK _ _ ⟨_, _, _, _, _, _, _, _, _, _, _, _, _, g0, g6, by first | rfl | simp [Act.put], fun h => (nl (h.resolve_left (by decide))).elim, fun _ => ⟨LX, ?c0, ?c1, ?c2, ?c3, ?c4, ?c5, ?c6, ?c7, ?c8, ?c9, ?c10, ?c11, ?s06, ?s46⟩⟩
          case c0 => exact fun h0 m4 => c0 (h0.resolve_left (by decide)) (fun q => m4 (.inr q))
          case c1 => exact fun h1 => c1 (h1.resolve_left (by decide))
          case c2 => exact fun h2 => rfl
          case c3 => exact fun h3 => c3 (h3.resolve_left (by decide))
          case c4 => exact fun h4 m7 => c4 (h4.resolve_left (by decide)) (fun q => m7 (.inr q))
          case c5 => exact fun h5 => c5 (h5.resolve_left (by decide))
          case c6 => exact fun h6 m7 => c6 (h6.resolve_left (by decide)) (fun q => m7 (.inr q))
          case c7 => exact fun h7 m11 => c7 (h7.resolve_left (by decide)) (fun q => m11 (.inr q))
          case c8 => exact fun h8 => c8 (h8.resolve_left (by decide))
          case c9 => exact fun h9 => c9 (h9.resolve_left (by decide))
          case c10 => exact fun h10 => c10 (h10.resolve_left (by decide))
          case c11 => exact fun h11 => c11 (h11.resolve_left (by decide))
          case s06 => exact fun h0 h6 m4 => s06 (h0.resolve_left (by decide)) (h6.resolve_left (by decide)) (fun q => m4 (.inr q))
          case s46 => exact fun h4 h6 m7 => s46 (h4.resolve_left (by decide)) (h6.resolve_left (by decide)) (fun q => m7 (.inr q))
        · refine step_of _ [] [(12, 1)] rfl (by kernel_rfl) (by kernel_rfl) ?_
          rintro D a X hn hd hc ⟨t20, t21, t22, t23, t24, t25, t26, t27, t28, t29, t30, t31, t4, g0, g6, rfl, _, hrest⟩ K' hK
          have nl : ¬ D 12 := fun h => hn (hc (12, 1) (by simp) h)
          obtain ⟨LX, c0, c1, c2, c3, c4, c5, c6, c7, c8, c9, c10, c11, s06, s46⟩ := hrest nl
          clear hrest
          clear hd hc
          go_simp
          refine hK _ _ ⟨_, _, _, _, _, _, _, _, _, _, _, _, _, g0, g6, by first | rfl | simp [Act.put], fun h => (nl (h.resolve_left (by decide))).elim, fun _ => ⟨LX, ?c0, ?c1, ?c2, ?c3, ?c4, ?c5, ?c6, ?c7, ?c8, ?c9, ?c10, ?c11, ?s06, ?s46⟩⟩
          case c0 => exact fun h0 m4 => c0 (h0.resolve_left (by decide)) (fun q => m4 (.inr q))
          case c1 => exact fun h1 => rfl
          case c2 => exact fun h2 => c2 (h2.resolve_left (by decide))
          case c3 => exact fun h3 => c3 (h3.resolve_left (by decide))
          case c4 => exact fun h4 m7 => c4 (h4.resolve_left (by decide)) (fun q => m7 (.inr q))
          case c5 => exact fun h5 => c5 (h5.resolve_left (by decide))
          case c6 => exact fun h6 m7 => c6 (h6.resolve_left (by decide)) (fun q => m7 (.inr q))
          case c7 => exact fun h7 m11 => c7 (h7.resolve_left (by decide)) (fun q => m11 (.inr q))
          case c8 => exact fun h8 => c8 (h8.resolve_left (by decide))
          case c9 => exact fun h9 => c9 (h9.resolve_left (by decide))
          case c10 => exact fun h10 => c10 (h10.resolve_left (by decide))
          case c11 => exact fun h11 => c11 (h11.resolve_left (by decide))
          case s06 => exact fun h0 h6 m4 => s06 (h0.resolve_left (by decide)) (h6.resolve_left (by decide)) (fun q => m4 (.inr q))
          case s46 => exact fun h4 h6 m7 => s46 (h4.resolve_left (by decide)) (h6.resolve_left (by decide)) (fun q => m7 (.inr q))
        · refine step_of _ [] [(12, 0), (4, 0), (7, 4)] rfl (by kernel_rfl) (by kernel_rfl) ?_
          rintro D a X hn hd hc ⟨t20, t21, t22, t23, t24, t25, t26, t27, t28, t29, t30, t31, t4, g0, g6, rfl, _, hrest⟩ K' hK
          have nl : ¬ D 12 := fun h => hn (hc (12, 0) (by simp) h)
          obtain ⟨LX, c0, c1, c2, c3, c4, c5, c6, c7, c8, c9, c10, c11, s06, s46⟩ := hrest nl
          clear hrest
          have e4_0 := hc (4, 0) (by simp)
          have e7_4 := hc (7, 4) (by simp)
          clear hd hc
          have l := below_new X (.cells #[] 29)
          have hsX := LX.out.size
          go_simp
          refine hK _ _ ⟨_, _, _, _, _, _, _, _, _, _, _, _, _, X.heap.size, g6, by first | rfl | simp [Act.put], fun h => (nl (h.resolve_left (by decide))).elim, fun _ => ⟨Lib.hid (lo_on LX.out l), ?c0, ?c1, ?c2, ?c3, ?c4, ?c5, ?c6, ?c7, ?c8, ?c9, ?c10, ?c11, ?s06, ?s46⟩⟩
          case c0 => exact fun h0 m4 => ⟨rfl, ownC_lit0 X _ hsX⟩
          case c1 => exact fun h1 => c1 (h1.resolve_left (by decide))
          case c2 => exact fun h2 => c2 (h2.resolve_left (by decide))
          case c3 => exact fun h3 => c3 (h3.resolve_left (by decide))
          case c4 => exact fun h4 m7 => ⟨(c4 (h4.resolve_left (by decide)) (fun q => m7 (.inr q))).1, (c4 (h4.resolve_left (by decide)) (fun q => m7 (.inr q))).2.lo l⟩
          case c5 => exact fun h5 => c5 (h5.resolve_left (by decide))
          case c6 => exact fun h6 m7 => ⟨(c6 (h6.resolve_left (by decide)) (fun q => m7 (.inr q))).1, (c6 (h6.resolve_left (by decide)) (fun q => m7 (.inr q))).2.lo l⟩
          case c7 => exact fun h7 m11 => ⟨(c7 (h7.resolve_left (by decide)) (fun q => m11 (.inr q))).1, (c7 (h7.resolve_left (by decide)) (fun q => m11 (.inr q))).2.lo l⟩
          case c8 => exact fun h8 => c8 (h8.resolve_left (by decide))
          case c9 => exact fun h9 => c9 (h9.resolve_left (by decide))
          case c10 => exact fun h10 => c10 (h10.resolve_left (by decide))
          case c11 => exact fun h11 => ⟨(c11 (h11.resolve_left (by decide))).1, (c11 (h11.resolve_left (by decide))).2.lo l⟩
          case s06 => exact fun h0 h6 m4 => by have := (c6 (h6.resolve_left (by decide)) (fun q => hn (e4_0 (e7_4 q)))).2.1; omega
          case s46 => exact fun h4 h6 m7 => s46 (h4.resolve_left (by decide)) (h6.resolve_left (by decide)) (fun q => m7 (.inr q))
      · rintro D a X hall ⟨t20, t21, t22, t23, t24, t25, t26, t27, t28, t29, t30, t31, t4, g0, g6, rfl, hfin, _⟩
        have HFIN := Lib.hid (hfin (hall 12 (by decide)))
        clear hfin hall
        obtain ⟨HO4, HL4⟩ := HFIN.out
        go_wp2
        go_ret
        exact ⟨_, rfl, ownC_base HO4.out LQ.out.size, lo_on LQ.out HL4.out⟩
end Go.Proofs.Ytmcjichpeijiaaa
