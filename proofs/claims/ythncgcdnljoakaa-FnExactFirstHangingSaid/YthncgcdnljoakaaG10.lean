/- Mob1, as one text. -/
import Derived.Test.YthncgcdnljoakaaG7
import Derived.Test.YthncgcdnljoakaaG9
namespace Go.Proofs.Ythncgcdnljoakaa
open Go.RowKit
set_option maxHeartbeats 1600000 in
theorem l5End_any (i h n : Int) (r : Bool) (i0 : 0 ≤ i) (i1 : i ≤ 6) (n0 : 1 ≤ n) (n1 : n ≤ 6) (h0 : -9223372036854775808 ≤ h) (h1 : h ≤ 9223372036854775807) (w : World)
    (hr : ((decide (1 ≤ h) && decide (h ≤ 99)) || (decide (h < 0) && (decide (i + 1 ≤ -h) && decide (-h ≤ n - 1)))) = r) :
    Calls Try.prog 136 #[.int .i64 i, .int .i64 h, .int .i64 n] w fun e w' => e = .returned (.bool r) ∧ w = w' := by
  have A1 := Lib.hid (fun w => l1In_is h 1 99 _ rfl w)
  by_cases hp : 1 ≤ h ∧ h ≤ 99
  · have e1 : (decide (1 ≤ h) && decide (h ≤ 99)) = true := by simp; omega
    rw [e1] at A1 hr
    have HR := Lib.hid hr
    clear e1 hr
    go_enter Try.func136, Try.ntmps136
    go_wp2_with fail
    refine (A1.out _).mono ?_
    rintro e w' ⟨rfl, rfl⟩
    go_wp2
    go_ret
    exact ⟨by rw [← HR.out]; rfl, rfl⟩
  · have e1 : (decide (1 ≤ h) && decide (h ≤ 99)) = false := by simp; omega
    rw [e1] at A1 hr
    by_cases hm : h = -9223372036854775808
    · have e2 : r = false := by rw [← hr]; simp; omega
      subst e2
      subst hm
      have A2 := Lib.hid (fun w => l1In_is (-9223372036854775808) (i + 1) (n - 1) false (by simp; omega) w)
      clear e1 hr
      go_enter Try.func136, Try.ntmps136
      go_wp2_with fail
      refine (A1.out _).mono ?_
      rintro e w' ⟨rfl, rfl⟩
      go_wp2_with fail
      rw [show RowKit.wrap64 (9223372036854775808 : Int) = -9223372036854775808 by first | rfl | (simp [RowKit.wrap64]) | kernel_rfl]
      refine (A2.out _).mono ?_
      rintro e w' ⟨rfl, rfl⟩
      go_wp2
      go_ret
      exact ⟨rfl, rfl⟩
    · have hlo : -9223372036854775807 ≤ h := by omega
      have A2 := Lib.hid (fun w => l1In_is (-h) (i + 1) (n - 1) _ rfl w)
      obtain ⟨b, hb⟩ : ∃ b, (decide (i + 1 ≤ -h) && decide (-h ≤ n - 1)) = b := ⟨_, rfl⟩
      rw [hb] at A2 hr
      have HR := Lib.hid hr
      clear e1 hr hb hm
      by_cases hneg : h < 0
      all_goals cases b
      all_goals go_enter Try.func136, Try.ntmps136
      all_goals go_wp2_with fail
      all_goals refine (A1.out _).mono ?_
      all_goals rintro e w' ⟨rfl, rfl⟩
      all_goals go_wp2_with fail
      all_goals refine (A2.out _).mono ?_
      all_goals rintro e w' ⟨rfl, rfl⟩
      all_goals go_wp2
      all_goals go_ret
      all_goals exact ⟨by rw [← HR.out]; simp [hneg], rfl⟩
/-- A pair of a row, at its address. -/
theorem pair_at {w : World} {v : Value} {xs : List (Int × Int)} (h : LoadRow w v xs) (h0 : 0 < xs.length) : ∃ g off c, v = .slice (some ⟨g, off, none⟩) xs.length c ∧ g < w.heap.size ∧ ∀ j, j < xs.length → w.cell? ⟨g, off + j * 2, none⟩ = some (.int .i64 (xs.getD j (0, 0)).1) ∧ w.cell? ⟨g, off + j * 2 + 1, none⟩ = some (.int .i64 (xs.getD j (0, 0)).2) := by
  obtain ⟨a, c, e, h⟩ := h
  rcases h with h | ⟨g, off, rfl, hg, hc⟩
  · subst h; simp at h0
  · exact ⟨g, off, c, e, hg, hc⟩
theorem hv_even (m : MobV) (i : Nat) : hvM m (2 * i) = (m.hu.getD i (0, 0)).1 ∧ avM m (2 * i) = (m.am.getD i (0, 0)).1 := by
  unfold hvM avM
  have h1 : 2 * i % 2 = 0 := by omega
  have h2 : 2 * i / 2 = i := by omega
  rw [if_pos h1, if_pos h1, h2]
  exact ⟨rfl, rfl⟩
theorem hv_odd (m : MobV) (i : Nat) : hvM m (2 * i + 1) = (m.hu.getD i (0, 0)).2 ∧ avM m (2 * i + 1) = (m.am.getD i (0, 0)).2 := by
  unfold hvM avM
  have h1 : ¬ (2 * i + 1) % 2 = 0 := by omega
  have h2 : (2 * i + 1) / 2 = i := by omega
  rw [if_neg h1, if_neg h1, h2]
  exact ⟨rfl, rfl⟩
/-- The cells of an end. -/
theorem end_cells {w : World} {m : MobV} {g off g' off' n : Nat} (hn : m.am.length = n) (hs : m.hu.length = n) (ha : ∀ j, j < m.am.length → w.cell? ⟨g, off + j * 2, none⟩ = some (.int .i64 (m.am.getD j (0, 0)).1) ∧ w.cell? ⟨g, off + j * 2 + 1, none⟩ = some (.int .i64 (m.am.getD j (0, 0)).2))
    (hh : ∀ j, j < m.hu.length → w.cell? ⟨g', off' + j * 2, none⟩ = some (.int .i64 (m.hu.getD j (0, 0)).1) ∧ w.cell? ⟨g', off' + j * 2 + 1, none⟩ = some (.int .i64 (m.hu.getD j (0, 0)).2)) (i e : Nat) (hi : i < n) (he : e < 2) :
    w.cell? ⟨g, off + i * 2 + e, none⟩ = some (.int .i64 (avM m (2 * i + e))) ∧ w.cell? ⟨g', off' + i * 2 + e, none⟩ = some (.int .i64 (hvM m (2 * i + e))) := by
  have h : e = 0 ∨ e = 1 := by omega
  rcases h with rfl | rfl
  · rw [Nat.add_zero, Nat.add_zero, Nat.add_zero, (hv_even m i).1, (hv_even m i).2]
    exact ⟨(ha i (by omega)).1, (hh i (by omega)).1⟩
  · rw [(hv_odd m i).1, (hv_odd m i).2]
    exact ⟨(ha i (by omega)).2, (hh i (by omega)).2⟩
theorem hv_bnd {m : MobV} (h : BndM m) (t : Nat) (ht : t < 2 * m.hu.length) : -9223372036854775808 ≤ hvM m t ∧ hvM m t ≤ 9223372036854775807 := by
  have := h.2 (t / 2) (by omega)
  unfold hvM
  split
  · exact this.1
  · exact this.2
theorem endF_or (m : MobV) (t n : Nat) (hn : m.am.length = n) (r : Bool) (hr : ((decide (1 ≤ hvM m t) && decide (hvM m t ≤ 99)) || (decide (hvM m t < 0) && (decide (((t / 2 : Nat) : Int) + 1 ≤ -hvM m t) && decide (-hvM m t ≤ (n : Int) - 1)))) = r)
    (ha : 1 ≤ avM m t ∧ avM m t ≤ 12) : (r = true ↔ EndF m t) := by
  subst hn
  rw [← hr]
  simp [EndF, ha]
set_option maxRecDepth 100000 in
set_option maxHeartbeats 6400000 in
theorem l5Good_yes (v : Value) (m : MobV) (w : World) (hv : MobRow w v m) (hb : BndM m) (h1 : 1 ≤ m.am.length) (h6 : m.am.length ≤ 6) (hs : m.hu.length = m.am.length) :
    Calls Try.prog 107 #[v] w fun e w' => e = .returned (.bool (goodB m)) ∧ Below w.heap.size w w' := by
  obtain ⟨av, bv, rfl, ha, hh⟩ := hv
  obtain ⟨g, off, c, rfl, hg, hca⟩ := pair_at ha (by omega)
  obtain ⟨g', off', c', rfl, hg', hch⟩ := pair_at hh (by omega)
  obtain ⟨n, hn⟩ : ∃ n, m.am.length = n := ⟨_, rfl⟩
  have EC := Lib.hid (fun i e (h1 : i < n) (h2 : e < 2) => end_cells hn (hs.trans hn) hca hch i e h1 h2)
  have HN := Lib.hid hn
  have HB := Lib.hid (fun t (ht : t < 2 * n) => hv_bnd hb t (by omega))
  have EO := Lib.hid (fun t r hr ha => endF_or m t n hn r hr ha)
  have HYES := Lib.hid (fun (he : ∀ t, t < 2 * n → EndF m t) (ho : ∀ j, 1 ≤ j → j < n → cntM m (2 * n) j = 1) => show goodB m = true from (goodB_iff m).2 ⟨h1, h6, hs, by rw [hn]; exact he, by rw [hn]; exact ho⟩)
  have HNO := Lib.hid (fun t (ht : t < 2 * n) (h : ¬ EndF m t) => show goodB m = false from propB_no (fun f => h (f.ends t (by omega))))
  have HNO2 := Lib.hid (fun j (h1 : 1 ≤ j) (h2 : j < n) (h : cntM m (2 * n) j ≠ 1) => show goodB m = false from propB_no (fun f => h (by have := f.once j h1 (by omega); rw [hn] at this; exact this)))
  have HE := Lib.hid (fun t (h : EndF m t) => show (1 ≤ hvM m t ∧ hvM m t ≤ 99) ∨ (hvM m t < 0 ∧ ((t / 2 : Nat) : Int) + 1 ≤ -hvM m t ∧ -hvM m t ≤ (n : Int) - 1) by have := h.2; rw [hn] at this; exact this)
  obtain ⟨gb, hgb⟩ : ∃ r, goodB m = r := ⟨_, rfl⟩
  rw [hgb] at HYES HNO HNO2 ⊢
  obtain ⟨W, hW⟩ : ∃ W, w.alloc (.cells #[.slice (some ⟨g, off, none⟩) n c, .slice (some ⟨g', off', none⟩) n c'] 62) = W := ⟨_, rfl⟩
  have LW := Lib.hid (show Below w.heap.size w W by rw [← hW]; exact (Below.refl _ _).alloc (Nat.le_refl _) _)
  have BX := Lib.hid (show Box2 W w.heap.size (.slice (some ⟨g, off, none⟩) n c) (.slice (some ⟨g', off', none⟩) n c') by rw [← hW]; exact box2_new _ _ _ _)
  rw [hs, hn]
  rw [hn] at h1 h6
  have IN := Lib.hid (fun w => l1In_is (n : Int) 1 6 true (by simp; omega) w)
  have HM := make_ints n (by omega)
  clear hgb hb ha hh hca hch hs hn
  obtain ⟨bx, u0, u1⟩ := BX.out
  have h1' : (1 : Int) ≤ (n : Int) := by omega
  go_enter Try.func107, Try.ntmps107
  go_wp2_with fail
  refine (IN.out _).mono ?_
  rintro e w' ⟨rfl, rfl⟩
  obtain ⟨W1, hW1⟩ : ∃ X, W.alloc (.cells (madeCells #[.int .i64 0] n) 3) = X := ⟨_, rfl⟩
  have cz : ∀ j, j < n → W1.cell? ⟨W.heap.size, j, none⟩ = some (.int .i64 0) := fun j hj => by rw [← hW1, World.cell?_alloc_at _ _ _ _ rfl]; exact made_int _ _ hj
  have fz : ∀ j, W1.frozen? ⟨W.heap.size, j, none⟩ = false := fun j => by rw [← hW1]; exact World.frozen?_alloc_at _ _ _ _ rfl
  have sz : W1.heap.size = W.heap.size + 1 := by rw [← hW1]; simp
  have L1 := Lib.hid (show Below W.heap.size W W1 by rw [← hW1]; exact (Below.refl _ _).alloc (Nat.le_refl _) _)
  have z0 := cz 0 (by omega)
  have f0 := fz 0
  have OS := Lib.hid (one_set W1 W.heap.size 0 (.int .i64 1) z0)
  have CZ := Lib.hid cz
  have FZ := Lib.hid fz
  have SZ := Lib.hid sz
  clear cz fz sz hW
  go_wp2
  clear hW1 z0 f0 u0 u1
  have T0 := Lib.hid (show ∀ j, j < n → (W1.setCell ⟨W.heap.size, 0, none⟩ (.int .i64 1)).cell? ⟨W.heap.size, j, none⟩ = some (.int .i64 (if j = 0 then 1 else (cntM m 0 j : Int))) from fun j hj => by
    by_cases e : j = 0
    · rw [if_pos e, e]; exact OS.out.1
    · rw [if_neg e, OS.out.2 j e]; exact CZ.out j hj)
  have F0 := Lib.hid (show ∀ j, (W1.setCell ⟨W.heap.size, 0, none⟩ (.int .i64 1)).frozen? ⟨W.heap.size, j, none⟩ = false from fun j => by rw [World.frozen?_setCell]; exact FZ.out j)
  have B0 := Lib.hid (show Below W.heap.size W (W1.setCell ⟨W.heap.size, 0, none⟩ (.int .i64 1)) from L1.out.setCell (p := ⟨W.heap.size, 0, none⟩) (Nat.le_refl _) _)
  have S0 := Lib.hid (show W.heap.size < (W1.setCell ⟨W.heap.size, 0, none⟩ (.int .i64 1)).heap.size by have := SZ.out; simp; omega)
  go_loopw [5] (fun i wr => ∃ k : Nat, k ≤ n ∧ i = .int .i64 k ∧ Hid (∀ t, t < 2 * k → EndF m t) ∧ Hid (∀ j, j < n → wr.cell? ⟨W.heap.size, j, none⟩ = some (.int .i64 (if j = 0 then 1 else (cntM m (2 * k) j : Int)))) ∧ Hid (∀ j, wr.frozen? ⟨W.heap.size, j, none⟩ = false) ∧ Hid (Below W.heap.size W wr) ∧ Hid (W.heap.size < wr.heap.size)) (fun i _ => n - (intOf i).toNat)
  case atStart => exact ⟨0, Nat.zero_le _, rfl, Lib.hid (fun t h => by omega), T0, F0, B0, S0⟩
  case round =>
    obtain ⟨k, hk, rfl, HEN, HC, HF, HW, HS⟩ := hrel
    obtain ⟨wq, rfl⟩ : ∃ wq : World, wq = wr := ⟨_, rfl⟩
    clear T0 F0 B0 S0 OS CZ FZ SZ L1
    by_cases hlt : k < n
    · have hlt' : (k : Int) < (n : Int) := by omega
      go_wp2
      go_loopw [6] (fun x wr => ∃ e : Nat, e ≤ 2 ∧ x = .int .i64 e ∧ Hid (∀ t, t < 2 * k + e → EndF m t) ∧ Hid (∀ j, j < n → wr.cell? ⟨W.heap.size, j, none⟩ = some (.int .i64 (if j = 0 then 1 else (cntM m (2 * k + e) j : Int)))) ∧ Hid (∀ j, wr.frozen? ⟨W.heap.size, j, none⟩ = false) ∧ Hid (Below W.heap.size W wr) ∧ Hid (W.heap.size < wr.heap.size)) (fun x _ => 2 - (intOf x).toNat)
      case atStart => exact ⟨0, Nat.zero_le _, rfl, HEN, HC, HF, HW, HS⟩
      case round =>
        obtain ⟨e, he, rfl, HEN2, HC2, HF2, HW2, HS2⟩ := hrel
        obtain ⟨wx, rfl⟩ : ∃ wx : World, wx = wr := ⟨_, rfl⟩
        by_cases hel : e < 2
        · have hel' : (e : Int) < 2 := by omega
          have hkn : ((k : Nat) : Int) < (n : Int) := hlt'
          obtain ⟨_, u0, u1⟩ := BX.out.lo HW2.out
          have LX := LW.out.trans (HW2.out.mono LW.out.size)
          obtain ⟨e1, e2⟩ := EC.out k e hlt hel
          rw [← LX.cell (p := ⟨g, off + k * 2 + e, none⟩) hg] at e1
          rw [← LX.cell (p := ⟨g', off' + k * 2 + e, none⟩) hg'] at e2
          obtain ⟨t, ht⟩ : ∃ t, 2 * k + e = t := ⟨_, rfl⟩
          rw [ht] at HEN2 HC2 e1 e2
          have htn : t < 2 * n := by omega
          have htk : t / 2 = k := by omega
          have HT := Lib.hid ht
          have hbn := HB.out t htn
          have HNt := Lib.hid (HNO.out t htn)
          have HEt := Lib.hid (HE.out t)
          have EOt := Lib.hid (EO.out t)
          rw [htk] at HEt EOt
          have HCN := Lib.hid (fun j => show cntM m (t + 1) j = cntM m t j + if hvM m t = -(j : Int) then 1 else 0 from rfl)
          obtain ⟨x, hx⟩ : ∃ x, avM m t = x := ⟨_, rfl⟩
          obtain ⟨h, hh⟩ : ∃ h, hvM m t = h := ⟨_, rfl⟩
          rw [hx] at e1
          have HXX := Lib.hid hx
          rw [hh] at e2 hbn HEt HCN
          rw [hx, hh] at EOt
          obtain ⟨hb0, hb1⟩ := hbn
          have HSM := Lib.hid (show ∀ j, 1 ≤ j → j < n → cntM m t j ≤ 12 from fun j _ _ => Nat.le_trans (cntM_le m j t) (by omega))
          clear LX hx hh htk ht
          by_cases ha : 1 ≤ x ∧ x ≤ 12
          · have A := Lib.hid (fun w => l1In_is x 1 12 true (by simp; omega) w)
            obtain ⟨r, hr⟩ : ∃ r, ((decide (1 ≤ h) && decide (h ≤ 99)) || (decide (h < 0) && (decide ((k : Int) + 1 ≤ -h) && decide (-h ≤ (n : Int) - 1)))) = r := ⟨_, rfl⟩
            have L5 := Lib.hid (fun w => l5End_any (k : Int) h (n : Int) r (by omega) (by omega) (by omega) (by omega) hb0 hb1 w hr)
            have hiff := EOt.out r hr ha
            clear EOt hr
            cases r with
            | false =>
              have hno : ¬ EndF m t := fun f => by have := hiff.2 f; cases this
              have hgf := HNt.out hno
              have LF := Lib.hid (LW.out.trans (HW2.out.mono LW.out.size))
              subst hgf
              clear hiff hno HEt HCN
              go_wp2_with fail
              refine (A.out _).mono ?_
              rintro e' w'' ⟨rfl, rfl⟩
              go_wp2_with fail
              refine (L5.out _).mono ?_
              rintro e' w'' ⟨rfl, rfl⟩
              go_wp2
              go_ret
              exact ⟨rfl, LF.out⟩
            | true =>
              have hE : EndF m t := hiff.1 rfl
              have hor := HEt.out hE
              have HENN := Lib.hid (show ∀ u, u < t + 1 → EndF m u from fun u hu => by
                by_cases e : u = t
                · rw [e]; exact hE
                · exact HEN2.out u (by omega))
              clear hiff hE HEt HNt
              by_cases hneg : h < 0
              · obtain ⟨q, hq⟩ : ∃ q : Nat, h = -(q : Int) := ⟨(-h).toNat, by omega⟩
                subst hq
                have hq1 : 1 ≤ q ∧ q < n := by omega
                obtain ⟨hq1, hqn⟩ := hq1
                have hqn' : (q : Int) < (n : Int) := by omega
                have cq := HC2.out q hqn
                rw [if_neg (by omega)] at cq
                have fq := HF2.out q
                have hsm := HSM.out q hq1 hqn
                have OS := Lib.hid (one_set wx W.heap.size q (.int .i64 ((cntM m t q : Int) + 1)) cq)
                clear hor
                have hq0 : -(q : Int) < 0 := hneg
                obtain ⟨cnt, hcnt⟩ : ∃ c, cntM m t q = c := ⟨_, rfl⟩
                have HCNT := Lib.hid hcnt
                rw [hcnt] at cq hsm OS
                clear hcnt
                go_wp2_with fail
                refine (A.out _).mono ?_
                rintro e' w'' ⟨rfl, rfl⟩
                go_wp2_with fail
                refine (L5.out _).mono ?_
                rintro e' w'' ⟨rfl, rfl⟩
                go_wp2
                go_roundw
                case rel =>
                  refine ⟨e + 1, by omega, by go_num, ?_, ?_, ?_, ?_, ?_⟩
                  · rw [show 2 * k + (e + 1) = t + 1 by have := HT.out; omega]; exact HENN
                  · refine Lib.hid (fun j hj => ?_)
                    rw [show 2 * k + (e + 1) = t + 1 by have := HT.out; omega, HCN.out j]
                    by_cases ejq : j = q
                    · subst ejq
                      rw [if_neg (by omega), if_pos rfl, HCNT.out]
                      exact OS.out.1
                    · rw [OS.out.2 j ejq, HC2.out j hj]
                      by_cases e0 : j = 0
                      · rw [if_pos e0, if_pos e0]
                      · rw [if_neg e0, if_neg e0, if_neg (by omega), Nat.add_zero]
                  · exact Lib.hid (fun j => by rw [World.frozen?_setCell]; exact HF2.out j)
                  · exact Lib.hid (HW2.out.setCell (p := ⟨W.heap.size, q, none⟩) (Nat.le_refl _) _)
                  · exact Lib.hid (by have := HS2.out; simpa using this)
                case measure => simp [intOf]; omega
              · have hpos : 1 ≤ h ∧ h ≤ 99 := by omega
                clear hor
                go_wp2_with fail
                refine (A.out _).mono ?_
                rintro e' w'' ⟨rfl, rfl⟩
                go_wp2_with fail
                refine (L5.out _).mono ?_
                rintro e' w'' ⟨rfl, rfl⟩
                go_wp2
                go_roundw
                case rel =>
                  refine ⟨e + 1, by omega, by go_num, ?_, ?_, HF2, HW2, HS2⟩
                  · rw [show 2 * k + (e + 1) = t + 1 by have := HT.out; omega]; exact HENN
                  · refine Lib.hid (fun j hj => ?_)
                    rw [show 2 * k + (e + 1) = t + 1 by have := HT.out; omega, HCN.out j, show (if h = -(j : Int) then 1 else 0 : Nat) = 0 from if_neg (by omega), Nat.add_zero]
                    exact HC2.out j hj
                case measure => simp [intOf]; omega
          · have A := Lib.hid (fun w => l1In_is x 1 12 false (by simp; omega) w)
            have hgf : gb = false := HNt.out (fun f => ha (by have := f.1; rw [HXX.out] at this; exact this))
            have LF := Lib.hid (LW.out.trans (HW2.out.mono LW.out.size))
            subst hgf
            clear HEt HCN EOt
            go_wp2_with fail
            refine (A.out _).mono ?_
            rintro e' w'' ⟨rfl, rfl⟩
            go_wp2
            go_ret
            exact ⟨rfl, LF.out⟩
        · obtain rfl : e = 2 := by omega
          go_wp2
          go_roundw
          case rel => exact ⟨k + 1, by omega, by go_num, by rw [show 2 * (k + 1) = 2 * k + 2 by omega]; exact HEN2, by rw [show 2 * (k + 1) = 2 * k + 2 by omega]; exact HC2, HF2, HW2, HS2⟩
          case measure => simp [intOf]; omega
    · obtain rfl : k = n := by omega
      have hge : ¬ (k : Int) < (k : Int) := by omega
      have LF := Lib.hid (LW.out.trans (HW.out.mono LW.out.size))
      go_wp2
      go_loopw [7] (fun i wr => ∃ j : Nat, j ≤ k ∧ i = .int .i64 j ∧ Hid (∀ x, 1 ≤ x → x < j → cntM m (2 * k) x = 1) ∧ wr = wq) (fun i _ => k - (intOf i).toNat)
      case atStart => exact ⟨0, Nat.zero_le _, rfl, Lib.hid (fun x h1 h2 => by omega), rfl⟩
      case round =>
        obtain ⟨j, hj, rfl, HJ, rfl⟩ := hrel
        by_cases hjl : j < k
        · have hjl' : (j : Int) < (k : Int) := by omega
          have cj := HC.out j hjl
          by_cases j0 : j = 0
          · subst j0
            rw [if_pos rfl] at cj
            go_wp2
            go_roundw
            case rel => exact ⟨1, by omega, by go_num, Lib.hid (fun x h1 h2 => by omega), by trivial⟩
            case measure => simp [intOf]; omega
          · rw [if_neg j0] at cj
            have HNj := Lib.hid (HNO2.out j (by omega) hjl)
            obtain ⟨q, hq⟩ : ∃ q, cntM m (2 * k) j = q := ⟨_, rfl⟩
            rw [hq] at cj HNj
            by_cases q1 : q = 1
            · subst q1
              have HJN := Lib.hid (show ∀ x, 1 ≤ x → x < j + 1 → cntM m (2 * k) x = 1 from fun x h1 h2 => by
                by_cases e : x = j
                · rw [e]; exact hq
                · exact HJ.out x h1 (by omega))
              clear hq
              go_wp2
              go_roundw
              case rel => exact ⟨j + 1, by omega, by go_num, HJN, by trivial⟩
              case measure => simp [intOf]; omega
            · have hgf := HNj.out q1
              subst hgf
              have hne : ¬ ((q : Int) = 1) := by omega
              have hneb : ((q : Int) != 1) = true := by simp; omega
              clear hq
              go_wp2
              go_ret
              exact ⟨rfl, LF.out⟩
        · obtain rfl : j = k := by omega
          have hgt := HYES.out HEN.out HJ.out
          subst hgt
          go_wp2
          go_ret
          exact ⟨rfl, LF.out⟩
theorem good_no {m : MobV} (h : ¬ ((1 ≤ m.am.length ∧ m.am.length ≤ 6) ∧ m.hu.length = m.am.length)) : goodB m = false := propB_no (fun f => h ⟨⟨f.one, f.short⟩, f.same⟩)
set_option maxRecDepth 100000 in
set_option maxHeartbeats 1600000 in
theorem l5Good_any (v : Value) (m : MobV) (w : World) (hv : MobRow w v m) (hs : SmallM m) (hb : BndM m) :
    Calls Try.prog 107 #[v] w fun e w' => e = .returned (.bool (goodB m)) ∧ Below w.heap.size w w' := by
  by_cases h : (1 ≤ m.am.length ∧ m.am.length ≤ 6) ∧ m.hu.length = m.am.length
  · exact l5Good_yes v m w hv hb h.1.1 h.1.2 h.2
  · rw [good_no h]
    obtain ⟨hs1, hs2⟩ := hs
    obtain ⟨a, b, c, d, rfl⟩ := hv.form
    generalize m.am.length = n at *
    generalize m.hu.length = k at *
    have hne : (1 ≤ n ∧ n ≤ 6) → ((k : Int) != (n : Int)) = true := fun h2 => by simp; omega
    by_cases h2 : 1 ≤ n ∧ n ≤ 6
    · have IN := Lib.hid (fun w => l1In_is (n : Int) 1 6 true (by simp; omega) w)
      have hk := hne h2
      have hk2 : ¬ (k : Int) = (n : Int) := by omega
      clear hv hb hne h
      go_enter Try.func107, Try.ntmps107
      go_wp2_with fail
      refine (IN.out _).mono ?_
      rintro e w' ⟨rfl, rfl⟩
      go_wp2
      go_ret
      exact ⟨rfl, (Below.refl _ _).alloc (Nat.le_refl _) _⟩
    · have IN := Lib.hid (fun w => l1In_is (n : Int) 1 6 false (by simp; omega) w)
      clear hv hb hne h
      go_enter Try.func107, Try.ntmps107
      go_wp2_with fail
      refine (IN.out _).mono ?_
      rintro e w' ⟨rfl, rfl⟩
      go_wp2
      go_ret
      exact ⟨rfl, (Below.refl _ _).alloc (Nat.le_refl _) _⟩
end Go.Proofs.Ythncgcdnljoakaa
