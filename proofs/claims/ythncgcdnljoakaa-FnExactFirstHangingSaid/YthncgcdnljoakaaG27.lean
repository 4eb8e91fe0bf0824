/- FhT, as one text. -/
import Derived.Test.YthncgcdnljoakaaG1
import Derived.Test.YthncgcdnljoakaaG26
import Derived.Deep.RegionHeld3
import Derived.Deep.AppendLies
namespace Go.Proofs.Ythncgcdnljoakaa
open Go.RowKit
theorem ins_perm (ys : List Int) (x : Int) (k : Nat) : (ys.take k ++ [x] ++ ys.drop k).Perm (ys ++ [x]) := by
  have h1 : (ys.take k ++ [x] ++ ys.drop k).Perm (x :: (ys.take k ++ ys.drop k)) := by
    rw [List.append_assoc]
    exact List.perm_middle
  rw [List.take_append_drop] at h1
  exact h1.trans (List.perm_append_comm (l₁ := [x]) (l₂ := ys))
theorem own_lt {w : World} {B g n c : Nat} {v : List Value} (h : w.ownsRow B 3 1 (.slice (some ⟨g, 0, none⟩) n c) n v) : B ≤ g ∧ g < w.heap.size := h.lt g rfl
theorem app_new (w : World) (x : Int) (j : Nat) (hj : j < 1) : (w.alloc (.cells #[.int .i64 x] 3)).cell? ⟨w.heap.size, 0 + j, none⟩ = some (.int .i64 ([x].getD j 0)) := by
  obtain rfl : j = 0 := by omega
  exact (World.cell?_alloc_at _ _ _ _ rfl).trans rfl
theorem app_old (w : World) (x : Int) (g j : Nat) (hj : j < 1) (h : w.cell? ⟨g, 0, none⟩ = some (.int .i64 x)) : w.cell? ⟨g, 0 + j, none⟩ = some (.int .i64 ([x].getD j 0)) := by
  obtain rfl : j = 0 := by omega
  exact h
/-- A row of ints of its own is appended to, in a region that draws. -/
theorem step_app_ints {ops : Array Oper} {o : Oper} {a : Act} {w : World} {K : Act → World → Prop} {Q : Exit → Act → World → Prop} {E : Prop} (hgd : o.guard = none) (s x : Operand)
    (ho : o.op = .call { callee := .builtin .append, args := #[s, x], argTypes := #[38, 38] }) (B : Nat) (v : Value) (n : Nat) (xs : List Int) (hs : a.eval s = v) (hown : w.ownsRow B 3 1 v n (icells xs))
    (g o2 m c : Nat) (ns : List Int) (hx : a.eval x = .slice (some ⟨g, o2, none⟩) m c) (hl : ns.length = m) (hc : ∀ j, j < m → w.cell? ⟨g, o2 + j, none⟩ = some (.int .i64 (ns.getD j 0))) (T : Nat) (hT : n + m = T) (h0 : 0 < T) (hsm : T ≤ 2000000) (hb : B ≤ w.heap.size)
    (h : ∀ g' cap w', w'.ownsRow B 3 1 (.slice (some ⟨g', 0, none⟩) T cap) T (icells (xs ++ ns)) → w.grownBy w' v.ownBlock → B ≤ g' → g' < w'.heap.size → K (a.put o.dst (.slice (some ⟨g', 0, none⟩) T cap)) w') :
    if Region.wanted o (yielded ops a.tmps) = true then Oper.wp Try.prog o a w K Q else E := by
  have hw : Region.wanted o (yielded ops a.tmps) = true := by simp [Region.wanted, hgd]
  rw [if_pos hw]
  obtain ⟨i0, hi, hz0, hz1, hz2⟩ := info_parts infoInt
  obtain ⟨v', w', hr, h2, h3, _⟩ := run_append_own (P := Try.prog) w B 38 o.type 3 i0 (.int .i64 0) 1 8 Try.underlying38 hi hz0 hz1 hz2 rfl (by decide) v n (icells xs) hown ⟨g, o2, none⟩ m c (icells ns) (by rw [icells_len, hl, Nat.mul_one]) (fun j u hj => by
    obtain ⟨hjl, rfl⟩ := icells_get ns j u hj
    rw [Go.WideShapes.add_plain]
    exact hc j (by omega)) (icells_one ns) (by unfold maxLen; omega) (by omega) hb
  rw [hT] at h2
  have happ : icells xs ++ icells ns = icells (xs ++ ns) := by unfold icells; rw [List.map_append]
  rw [happ] at h2
  obtain ⟨g', cap, rfl, hB, hlt⟩ := h2.form h0
  unfold Oper.wp
  simp [execOp, ho, resolve, invoke, builtin, hs, hx, hr, Result.andThen]
  exact h g' cap w' h2 h3 hB hlt
theorem own_cap {w : World} {B g n c : Nat} {v : List Value} (h : w.ownsRow B 3 1 (.slice (some ⟨g, 0, none⟩) n c) n v) : n ≤ c := by
  rcases h.2 with ⟨h', _⟩ | ⟨g', cap', cur, h', _, _, hnc, _⟩
  · simp at h'
  · simp only [Value.slice.injEq, Option.some.injEq, Addr.mk.injEq, and_true, true_and] at h'
    obtain ⟨_, rfl⟩ := h'
    exact hnc
set_option maxRecDepth 100000 in
set_option maxHeartbeats 6400000 in
theorem l5Sorted_any (u : Value) (xs : List Int) (w : World) (hr : RowS w u xs) (hl : xs.length ≤ 2000) :
    Calls Try.prog 110 #[u] w fun e w' => ∃ v, e = .returned v ∧ ∃ ys, OwnI w' w.heap.size v ys ∧ RowS w' v ys ∧ ys.Perm xs ∧ Below w.heap.size w w' := by
  obtain ⟨g, off, c, rfl, hg, hc⟩ := hr
  have HC := Lib.hid hc
  have HPA := Lib.hid (show xs.take xs.length = xs from List.take_length)
  obtain ⟨i0, hi, hz0, hz1, hz2⟩ := info_parts infoInt
  obtain ⟨W, hW⟩ : ∃ W, w.alloc (.cells #[] 3) = W := ⟨_, rfl⟩
  have O0 := Lib.hid (show OwnI W w.heap.size (.slice (some ⟨w.heap.size, 0, none⟩) 0 0) [] by rw [← hW]; exact ownI_lit0 w _ (Nat.le_refl _))
  have L0 := Lib.hid (show Below w.heap.size w W by rw [← hW]; exact (Below.refl _ _).alloc (Nat.le_refl _) _)
  have P0 := Lib.hid (show ([] : List Int).Perm (xs.take 0) by rw [List.take_zero])
  obtain ⟨N, hN⟩ : ∃ N, xs.length = N := ⟨_, rfl⟩
  rw [hN] at HC hl HPA
  rw [hN]
  have HNL := Lib.hid hN
  clear hc hN
  go_enter Try.func110, Try.ntmps110
  go_wp2
  clear hW
  go_loopw [3, 4] (fun u x wr => ∃ (i : Nat) (ys : List Int) (g2 cap : Nat), i ≤ N ∧ x = .int .i64 i ∧ u = .slice (some ⟨g2, 0, none⟩) i cap ∧ Hid (wr.ownsRow w.heap.size 3 1 (.slice (some ⟨g2, 0, none⟩) i cap) i (icells ys)) ∧ Hid (ys.length = i) ∧ Hid (ys.Perm (xs.take i)) ∧ Hid (Below w.heap.size w wr)) (fun _ x _ => N - (intOf x).toNat)
  case atStart => exact ⟨0, [], _, _, Nat.zero_le _, rfl, rfl, O0, Lib.hid rfl, P0, L0⟩
  case round =>
    obtain ⟨i, ys, g2, cap, hi2, rfl, rfl, HO, HY, HP, HL⟩ := hrel
    obtain ⟨wq, rfl⟩ : ∃ wq : World, wq = wr := ⟨_, rfl⟩
    clear O0 P0 L0
    by_cases hlt : i < N
    · have hlt' : (i : Int) < (N : Int) := by omega
      have hgq : g < wq.heap.size := Nat.lt_of_lt_of_le hg HL.out.size
      have cx := (HL.out.cell (p := ⟨g, off + i, none⟩) hg).trans (HC.out i hlt)
      obtain ⟨x, hx⟩ : ∃ x, xs.getD i 0 = x := ⟨_, rfl⟩
      have HX := Lib.hid hx
      rw [hx] at cx
      clear hx
      obtain ⟨hgB, hgl⟩ := own_lt HO.out
      go_wp2
      go_loopw [5] (fun y wr => ∃ k d : Nat, k ≤ i ∧ y = .int .i64 k ∧ wr = wq.drewN d) (fun y _ => (intOf y).toNat)
      case atStart => exact ⟨i, 0, Nat.le_refl _, rfl, rfl⟩
      case round =>
        obtain ⟨k, d, hk, rfl, rfl⟩ := hrel
        have hiy := HY.out
        have cxd : (wq.drewN d).cell? ⟨g, off + i, none⟩ = some (.int .i64 x) := cx
        have hgd : g < (wq.drewN d).heap.size := hgq
        have hg2d : g2 < (wq.drewN d).heap.size := hgl
        by_cases h0 : 0 < k ∧ x < ys.getD (k - 1) 0
        · obtain ⟨j, rfl⟩ : ∃ j, k = j + 1 := ⟨k - 1, by omega⟩
          have cy : wq.cell? ⟨g2, j, none⟩ = some (.int .i64 (ys.getD j 0)) := own_part HO.out hiy j (by omega)
          have hxy := h0.2
          rw [Nat.add_sub_cancel] at hxy
          generalize ys.getD j 0 = y at *
          have hk0 : (0 : Int) < ((j + 1 : Nat) : Int) := by omega
          have hk1 : IntKind.i64.wrap (((j + 1 : Nat) : Int) - 1) = (j : Int) := by rw [wrap_mid _ (by omega) (by omega)]; omega
          have hk2 : (j : Int) < (i : Int) := by omega
          have hk3 : (0 : Int) < (j : Int) + 1 := by omega
          have hk4 : IntKind.i64.wrap ((j : Int) + 1 - 1) = (j : Int) := by rw [wrap_mid _ (by omega) (by omega)]; omega
          have hk5 : IntKind.i64.wrap (j : Int) = (j : Int) := wrap_mid _ (by omega) (by omega)
          clear h0
          go_wp2
          go_quiet (fail)
          go_wp2
          go_roundw
          case rel => exact ⟨j, d + nq, by omega, by go_num, by first | rfl | simp⟩
          case measure => simp [intOf]
        · have hc2 : ¬ 0 < k ∨ ∃ j, k = j + 1 ∧ ¬ x < ys.getD j 0 := by
            by_cases hk0 : 0 < k
            · exact .inr ⟨k - 1, by omega, fun h => h0 ⟨hk0, h⟩⟩
            · exact .inl hk0
          clear h0
          have hki : (k : Int) ≤ (i : Int) := by omega
          have hk00 : (0 : Int) ≤ (k : Int) := by omega
          rcases hc2 with hk0 | ⟨j, hkj, hnx⟩
          focus
            have hk0' : ¬ (0 : Int) < (k : Int) := by omega
            go_wp2
            go_quiet (fail)
            go_wp2
            clear hk0'
          rotate_left
          focus
            have cy : wq.cell? ⟨g2, j, none⟩ = some (.int .i64 (ys.getD j 0)) := own_part HO.out hiy j (by omega)
            generalize ys.getD j 0 = y at *
            have hk0 : (0 : Int) < (k : Int) := by omega
            have hk1 : IntKind.i64.wrap ((k : Int) - 1) = (j : Int) := by rw [wrap_mid _ (by omega) (by omega)]; omega
            have hk2 : (j : Int) < (i : Int) := by omega
            have hk0n : 0 < k := by omega
            clear hkj
            go_wp2
            go_quiet (fail)
            go_wp2
            clear cy hnx hk1 hk2 hk0n
          all_goals
            have HO8 := Lib.hid (show ((wq.drewN d).drewN nq).ownsRow w.heap.size 3 1 (.slice (some ⟨g2, 0, none⟩) i cap) i (icells ys) from HO.out)
            have HL8 := Lib.hid (lo_drewN (lo_drewN HL.out d) nq)
            have cx8 : ((wq.drewN d).drewN nq).cell? ⟨g, off + i, none⟩ = some (.int .i64 x) := cx
            have hg8 : g < ((wq.drewN d).drewN nq).heap.size := hgq
            have hg28 : g2 < ((wq.drewN d).drewN nq).heap.size := hgl
            clear cx cxd hgd hg2d hgq hgl hk0
            generalize (wq.drewN d).drewN nq = wz at *
            have hyk : (ys.take k).length = k := by rw [List.length_take]; omega
            have hyd : (ys.drop k).length = i - k := by rw [List.length_drop]; omega
            have YD := Lib.hid (fun j (hj : j < i - k) => show (ys.drop k).getD j 0 = ys.getD (k + j) 0 by simp [List.getD, List.getElem?_drop])
            have OC := Lib.hid (fun j (hj : j < i) => own_part HO8.out hiy j hj)
            have OW := Lib.hid (fun w1 (l : Below wz.heap.size wz w1) => (by
              have h := l1Own_any (.slice (some ⟨g2, 0, none⟩) k cap) (ys.take k) w1 ⟨g2, 0, cap, by rw [hyk], Nat.lt_of_lt_of_le hg28 l.size, fun j hj => by
                have hjk : j < k := by omega
                rw [Nat.zero_add, l.cell (p := ⟨g2, j, none⟩) hg28, OC.out j (by omega), show (ys.take k).getD j 0 = ys.getD j 0 by simp [List.getD, hjk]]⟩ (by omega)
              exact h : Calls Try.prog 139 #[.slice (some ⟨g2, 0, none⟩) k cap] w1 fun e w' => ∃ v', e = .returned v' ∧ OwnI w' w1.heap.size v' (ys.take k) ∧ Below w1.heap.size w1 w'))
            have hcp := own_cap HO8.out
            have hkc : (k : Int) ≤ (cap : Int) := by omega
            have hic : (i : Int) ≤ (cap : Int) := by omega
            have hcs : (¬ cap = 0 ∧ ¬ cap = k) ∨ (¬ cap = 0 ∧ cap = k) ∨ (cap = 0 ∧ k = 0) := by omega
            clear HO HL
            rcases hcs with ⟨hcz, hck⟩ | ⟨hcz, hck⟩ | ⟨hcz, hck⟩
            ·
              go_region_held3 (fun w' => w'.cell? ⟨g, off + i, none⟩ = some (.int .i64 x))
                (first
                  | exact cx8
                  | exact r5
                  | exact ra _
                  | exact r6
                  | exact r7
                  | go_keep)
                (first
                  | (go_at_call 139; refine (OW.out _ (by first | exact drew_below wz | exact ((Below.refl _ _).alloc (Nat.le_refl _) _).drew)).mono ?_; rintro e5 v5 ⟨va, rfl, oa0, l5⟩
                     have LB5 : Below wz.heap.size wz v5 := by first | exact (drew_below wz).trans l5 | exact (show Below wz.heap.size wz (wz.alloc (.cells #[.int .i64 x] 3)).drew from ((Below.refl _ _).alloc (Nat.le_refl _) _).drew).trans (l5.mono (by simp))
                     have oa : v5.ownsRow wz.heap.size 3 1 va k (icells (ys.take k)) := by
                       have h := oa0
                       unfold OwnI at h
                       rw [hyk] at h
                       exact ⟨h.1, h.2.imp id (fun ⟨g', cap, cur, a1, a2, a3⟩ => ⟨g', cap, cur, a1, Nat.le_trans (by simp) a2, a3⟩)⟩
                     have hv5 : wz.heap.size ≤ v5.heap.size := LB5.size
                     have r5 : v5.cell? ⟨g, off + i, none⟩ = some (.int .i64 x) := (LB5.cell (p := ⟨g, off + i, none⟩) hg8).trans cx8
                     have ra : ∀ o, (v5.alloc o).cell? ⟨g, off + i, none⟩ = some (.int .i64 x) := fun o => (World.cell?_of_block (a := ⟨g, off + i, none⟩) (Below.heap_alloc _ _ _ (show g < v5.heap.size by omega))).trans r5
                     try (have y5 : v5.cell? ⟨wz.heap.size, 0, none⟩ = some (.int .i64 x) := (l5.cell (p := ⟨wz.heap.size, 0, none⟩) (by simp)).trans ((World.cell?_alloc_at _ _ _ _ rfl).trans rfl))
                     have nva : va.ownBlock ≠ some g := fun h => by have := (oa.lt g h).1; omega)
                  | (refine step_app_ints (by rfl) _ _ (by rfl) wz.heap.size va k (ys.take k) (by rfl) (oa.alloc _) v5.heap.size 0 1 1 [x] (by rfl) rfl (fun j hj => app_new v5 x j hj) (k + 1) rfl (by omega) (by omega) (by simp; omega) ?_
                     intro ga ca w6 o6 gr6 hb6 hl6
                     have LB6 : Below wz.heap.size wz w6 := (LB5.alloc hv5 _).grown gr6 (by simp; omega) (fun q hq => (oa.lt q hq).1)
                     have r6 : w6.cell? ⟨g, off + i, none⟩ = some (.int .i64 x) := (LB6.cell (p := ⟨g, off + i, none⟩) hg8).trans cx8)
                  | (refine step_app_ints (by rfl) _ _ (by rfl) wz.heap.size va k (ys.take k) (by rfl) oa wz.heap.size 0 1 1 [x] (by rfl) rfl (fun j hj => app_old v5 x _ j hj y5) (k + 1) rfl (by omega) (by omega) hv5 ?_
                     intro ga ca w6 o6 gr6 hb6 hl6
                     have LB6 : Below wz.heap.size wz w6 := LB5.grown gr6 hv5 (fun q hq => (oa.lt q hq).1)
                     have r6 : w6.cell? ⟨g, off + i, none⟩ = some (.int .i64 x) := (LB6.cell (p := ⟨g, off + i, none⟩) hg8).trans cx8)
                  | (refine step_app_ints (by rfl) _ _ (by rfl) wz.heap.size (.slice (some ⟨ga, 0, none⟩) (k + 1) ca) (k + 1) (ys.take k ++ [x]) (by rfl) o6 g2 k (i - k) _ (ys.drop k) (by rfl) hyd (fun j hj => by
                       rw [LB6.cell (p := ⟨g2, k + j, none⟩) hg28, YD.out j hj]
                       exact OC.out (k + j) (by omega)) (i + 1) (by omega) (by omega) (by omega) LB6.size ?_
                     intro gb cb w7 o7 gr7 hb7 hl7
                     have LB7 : Below wz.heap.size wz w7 := LB6.grown gr7 LB6.size (fun q hq => by cases hq; exact hb6)
                     have r7 : w7.cell? ⟨g, off + i, none⟩ = some (.int .i64 x) := (LB7.cell (p := ⟨g, off + i, none⟩) hg8).trans cx8)
                  | (refine step_app_ints (by rfl) _ _ (by rfl) wz.heap.size (.slice (some ⟨ga, 0, none⟩) (k + 1) ca) (k + 1) (ys.take k ++ [x]) (by rfl) o6 g2 0 (i - k) _ (ys.drop k) (by rfl) hyd (fun j hj => by omega) (i + 1) (by omega) (by omega) (by omega) LB6.size ?_
                     intro gb cb w7 o7 gr7 hb7 hl7
                     have LB7 : Below wz.heap.size wz w7 := LB6.grown gr7 LB6.size (fun q hq => by cases hq; exact hb6)
                     have r7 : w7.cell? ⟨g, off + i, none⟩ = some (.int .i64 x) := (LB7.cell (p := ⟨g, off + i, none⟩) hg8).trans cx8))
              all_goals
                have HO9 := Lib.hid (show w7.ownsRow w.heap.size 3 1 (.slice (some ⟨gb, 0, none⟩) (i + 1) cb) (i + 1) (icells (ys.take k ++ [x] ++ ys.drop k)) from ⟨o7.1, o7.2.imp id (fun ⟨g', cap, cur, a1, a2, a3⟩ => ⟨g', cap, cur, a1, Nat.le_trans HL8.out.size a2, a3⟩)⟩)
                have HY9 := Lib.hid (show (ys.take k ++ [x] ++ ys.drop k).length = i + 1 by rw [List.length_append, List.length_append, hyk, hyd]; simp only [List.length_cons, List.length_nil] <;> omega)
                have HP9 := Lib.hid (show (ys.take k ++ [x] ++ ys.drop k).Perm (xs.take (i + 1)) by
                  rw [lv_snoc xs i (by have := HNL.out; omega), HX.out]
                  exact (ins_perm ys x k).trans (List.Perm.append HP.out (List.Perm.refl _)))
                have HL9 := Lib.hid (HL8.out.trans (LB7.mono HL8.out.size))
                clear o7 gr7 LB7 r7 o6 gr6 LB6 r6 oa oa0 l5 LB5 r5 ra nva
                go_wp2
                go_roundw
                case rel => exact ⟨i + 1, _, gb, cb, by omega, by go_num, rfl, HO9, HY9, HP9, HL9⟩
                case measure => simp [intOf]; omega
            · have hkc2 := hck.symm
              clear hck
              subst hkc2
              go_region_held3 (fun w' => w'.cell? ⟨g, off + i, none⟩ = some (.int .i64 x))
                (first
                  | exact cx8
                  | exact r5
                  | exact ra _
                  | exact r6
                  | exact r7
                  | go_keep)
                (first
                  | (go_at_call 139; refine (OW.out _ (by first | exact drew_below wz | exact ((Below.refl _ _).alloc (Nat.le_refl _) _).drew)).mono ?_; rintro e5 v5 ⟨va, rfl, oa0, l5⟩
                     have LB5 : Below wz.heap.size wz v5 := by first | exact (drew_below wz).trans l5 | exact (show Below wz.heap.size wz (wz.alloc (.cells #[.int .i64 x] 3)).drew from ((Below.refl _ _).alloc (Nat.le_refl _) _).drew).trans (l5.mono (by simp))
                     have oa : v5.ownsRow wz.heap.size 3 1 va k (icells (ys.take k)) := by
                       have h := oa0
                       unfold OwnI at h
                       rw [hyk] at h
                       exact ⟨h.1, h.2.imp id (fun ⟨g', cap, cur, a1, a2, a3⟩ => ⟨g', cap, cur, a1, Nat.le_trans (by simp) a2, a3⟩)⟩
                     have hv5 : wz.heap.size ≤ v5.heap.size := LB5.size
                     have r5 : v5.cell? ⟨g, off + i, none⟩ = some (.int .i64 x) := (LB5.cell (p := ⟨g, off + i, none⟩) hg8).trans cx8
                     have ra : ∀ o, (v5.alloc o).cell? ⟨g, off + i, none⟩ = some (.int .i64 x) := fun o => (World.cell?_of_block (a := ⟨g, off + i, none⟩) (Below.heap_alloc _ _ _ (show g < v5.heap.size by omega))).trans r5
                     try (have y5 : v5.cell? ⟨wz.heap.size, 0, none⟩ = some (.int .i64 x) := (l5.cell (p := ⟨wz.heap.size, 0, none⟩) (by simp)).trans ((World.cell?_alloc_at _ _ _ _ rfl).trans rfl))
                     have nva : va.ownBlock ≠ some g := fun h => by have := (oa.lt g h).1; omega)
                  | (refine step_app_ints (by rfl) _ _ (by rfl) wz.heap.size va k (ys.take k) (by rfl) (oa.alloc _) v5.heap.size 0 1 1 [x] (by rfl) rfl (fun j hj => app_new v5 x j hj) (k + 1) rfl (by omega) (by omega) (by simp; omega) ?_
                     intro ga ca w6 o6 gr6 hb6 hl6
                     have LB6 : Below wz.heap.size wz w6 := (LB5.alloc hv5 _).grown gr6 (by simp; omega) (fun q hq => (oa.lt q hq).1)
                     have r6 : w6.cell? ⟨g, off + i, none⟩ = some (.int .i64 x) := (LB6.cell (p := ⟨g, off + i, none⟩) hg8).trans cx8)
                  | (refine step_app_ints (by rfl) _ _ (by rfl) wz.heap.size va k (ys.take k) (by rfl) oa wz.heap.size 0 1 1 [x] (by rfl) rfl (fun j hj => app_old v5 x _ j hj y5) (k + 1) rfl (by omega) (by omega) hv5 ?_
                     intro ga ca w6 o6 gr6 hb6 hl6
                     have LB6 : Below wz.heap.size wz w6 := LB5.grown gr6 hv5 (fun q hq => (oa.lt q hq).1)
                     have r6 : w6.cell? ⟨g, off + i, none⟩ = some (.int .i64 x) := (LB6.cell (p := ⟨g, off + i, none⟩) hg8).trans cx8)
                  | (refine step_app_ints (by rfl) _ _ (by rfl) wz.heap.size (.slice (some ⟨ga, 0, none⟩) (k + 1) ca) (k + 1) (ys.take k ++ [x]) (by rfl) o6 g2 k (i - k) _ (ys.drop k) (by rfl) hyd (fun j hj => by
                       rw [LB6.cell (p := ⟨g2, k + j, none⟩) hg28, YD.out j hj]
                       exact OC.out (k + j) (by omega)) (i + 1) (by omega) (by omega) (by omega) LB6.size ?_
                     intro gb cb w7 o7 gr7 hb7 hl7
                     have LB7 : Below wz.heap.size wz w7 := LB6.grown gr7 LB6.size (fun q hq => by cases hq; exact hb6)
                     have r7 : w7.cell? ⟨g, off + i, none⟩ = some (.int .i64 x) := (LB7.cell (p := ⟨g, off + i, none⟩) hg8).trans cx8)
                  | (refine step_app_ints (by rfl) _ _ (by rfl) wz.heap.size (.slice (some ⟨ga, 0, none⟩) (k + 1) ca) (k + 1) (ys.take k ++ [x]) (by rfl) o6 g2 0 (i - k) _ (ys.drop k) (by rfl) hyd (fun j hj => by omega) (i + 1) (by omega) (by omega) (by omega) LB6.size ?_
                     intro gb cb w7 o7 gr7 hb7 hl7
                     have LB7 : Below wz.heap.size wz w7 := LB6.grown gr7 LB6.size (fun q hq => by cases hq; exact hb6)
                     have r7 : w7.cell? ⟨g, off + i, none⟩ = some (.int .i64 x) := (LB7.cell (p := ⟨g, off + i, none⟩) hg8).trans cx8)
                  | (refine step_app_ints (by rfl) _ _ (by rfl) wz.heap.size (.slice (some ⟨ga, 0, none⟩) (k + 1) ca) (k + 1) (ys.take k ++ [x]) (by rfl) o6 g2 0 0 _ (ys.drop k) (by rfl) (by omega) (fun j hj => by omega) (i + 1) (by omega) (by omega) (by omega) LB6.size ?_
                     intro gb cb w7 o7 gr7 hb7 hl7
                     have LB7 : Below wz.heap.size wz w7 := LB6.grown gr7 LB6.size (fun q hq => by cases hq; exact hb6)
                     have r7 : w7.cell? ⟨g, off + i, none⟩ = some (.int .i64 x) := (LB7.cell (p := ⟨g, off + i, none⟩) hg8).trans cx8))
              all_goals
                have HO9 := Lib.hid (show w7.ownsRow w.heap.size 3 1 (.slice (some ⟨gb, 0, none⟩) (i + 1) cb) (i + 1) (icells (ys.take k ++ [x] ++ ys.drop k)) from ⟨o7.1, o7.2.imp id (fun ⟨g', cap, cur, a1, a2, a3⟩ => ⟨g', cap, cur, a1, Nat.le_trans HL8.out.size a2, a3⟩)⟩)
                have HY9 := Lib.hid (show (ys.take k ++ [x] ++ ys.drop k).length = i + 1 by rw [List.length_append, List.length_append, hyk, hyd]; simp only [List.length_cons, List.length_nil] <;> omega)
                have HP9 := Lib.hid (show (ys.take k ++ [x] ++ ys.drop k).Perm (xs.take (i + 1)) by
                  rw [lv_snoc xs i (by have := HNL.out; omega), HX.out]
                  exact (ins_perm ys x k).trans (List.Perm.append HP.out (List.Perm.refl _)))
                have HL9 := Lib.hid (HL8.out.trans (LB7.mono HL8.out.size))
                clear o7 gr7 LB7 r7 o6 gr6 LB6 r6 oa oa0 l5 LB5 r5 ra nva
                go_wp2
                go_roundw
                case rel => exact ⟨i + 1, _, gb, cb, by omega, by go_num, rfl, HO9, HY9, HP9, HL9⟩
                case measure => simp [intOf]; omega
            · subst hcz hck
              obtain rfl : i = 0 := by omega
              rw [Nat.add_zero] at cx8
              go_region_held3 (fun w' => w'.cell? ⟨g, off, none⟩ = some (.int .i64 x))
                (first
                  | exact cx8
                  | exact r5
                  | exact ra _
                  | exact r6
                  | exact r7
                  | go_keep)
                (first
                  | (go_at_call 139; refine (OW.out _ (by first | exact drew_below wz | exact ((Below.refl _ _).alloc (Nat.le_refl _) _).drew)).mono ?_; rintro e5 v5 ⟨va, rfl, oa0, l5⟩
                     have LB5 : Below wz.heap.size wz v5 := by first | exact (drew_below wz).trans l5 | exact (show Below wz.heap.size wz (wz.alloc (.cells #[.int .i64 x] 3)).drew from ((Below.refl _ _).alloc (Nat.le_refl _) _).drew).trans (l5.mono (by simp))
                     have oa : v5.ownsRow wz.heap.size 3 1 va 0 (icells (ys.take 0)) := by
                       have h := oa0
                       unfold OwnI at h
                       rw [hyk] at h
                       exact ⟨h.1, h.2.imp id (fun ⟨g', cap, cur, a1, a2, a3⟩ => ⟨g', cap, cur, a1, Nat.le_trans (by simp) a2, a3⟩)⟩
                     have hv5 : wz.heap.size ≤ v5.heap.size := LB5.size
                     have r5 : v5.cell? ⟨g, off, none⟩ = some (.int .i64 x) := (LB5.cell (p := ⟨g, off, none⟩) hg8).trans cx8
                     have ra : ∀ o, (v5.alloc o).cell? ⟨g, off, none⟩ = some (.int .i64 x) := fun o => (World.cell?_of_block (a := ⟨g, off, none⟩) (Below.heap_alloc _ _ _ (show g < v5.heap.size by omega))).trans r5
                     try (have y5 : v5.cell? ⟨wz.heap.size, 0, none⟩ = some (.int .i64 x) := (l5.cell (p := ⟨wz.heap.size, 0, none⟩) (by simp)).trans ((World.cell?_alloc_at _ _ _ _ rfl).trans rfl))
                     have nva : va.ownBlock ≠ some g := fun h => by have := (oa.lt g h).1; omega)
                  | (refine step_app_ints (by rfl) _ _ (by rfl) wz.heap.size va 0 (ys.take 0) (by rfl) (oa.alloc _) v5.heap.size 0 1 1 [x] (by rfl) rfl (fun j hj => app_new v5 x j hj) (0 + 1) rfl (by omega) (by omega) (by simp; omega) ?_
                     intro ga ca w6 o6 gr6 hb6 hl6
                     have LB6 : Below wz.heap.size wz w6 := (LB5.alloc hv5 _).grown gr6 (by simp; omega) (fun q hq => (oa.lt q hq).1)
                     have r6 : w6.cell? ⟨g, off, none⟩ = some (.int .i64 x) := (LB6.cell (p := ⟨g, off, none⟩) hg8).trans cx8)
                  | (refine step_app_ints (by rfl) _ _ (by rfl) wz.heap.size va 0 (ys.take 0) (by rfl) oa wz.heap.size 0 1 1 [x] (by rfl) rfl (fun j hj => app_old v5 x _ j hj y5) (0 + 1) rfl (by omega) (by omega) hv5 ?_
                     intro ga ca w6 o6 gr6 hb6 hl6
                     have LB6 : Below wz.heap.size wz w6 := LB5.grown gr6 hv5 (fun q hq => (oa.lt q hq).1)
                     have r6 : w6.cell? ⟨g, off, none⟩ = some (.int .i64 x) := (LB6.cell (p := ⟨g, off, none⟩) hg8).trans cx8)
                  | (refine step_app_ints (by rfl) _ _ (by rfl) wz.heap.size (.slice (some ⟨ga, 0, none⟩) (0 + 1) ca) (0 + 1) (ys.take 0 ++ [x]) (by rfl) o6 g2 0 (0 - 0) _ (ys.drop 0) (by rfl) hyd (fun j hj => by
                       rw [LB6.cell (p := ⟨g2, 0 + j, none⟩) hg28, YD.out j hj]
                       exact OC.out (0 + j) (by omega)) (0 + 1) (by omega) (by omega) (by omega) LB6.size ?_
                     intro gb cb w7 o7 gr7 hb7 hl7
                     have LB7 : Below wz.heap.size wz w7 := LB6.grown gr7 LB6.size (fun q hq => by cases hq; exact hb6)
                     have r7 : w7.cell? ⟨g, off, none⟩ = some (.int .i64 x) := (LB7.cell (p := ⟨g, off, none⟩) hg8).trans cx8)
                  | (refine step_app_ints (by rfl) _ _ (by rfl) wz.heap.size (.slice (some ⟨ga, 0, none⟩) (0 + 1) ca) (0 + 1) (ys.take 0 ++ [x]) (by rfl) o6 g2 0 (0 - 0) _ (ys.drop 0) (by rfl) hyd (fun j hj => by omega) (0 + 1) (by omega) (by omega) (by omega) LB6.size ?_
                     intro gb cb w7 o7 gr7 hb7 hl7
                     have LB7 : Below wz.heap.size wz w7 := LB6.grown gr7 LB6.size (fun q hq => by cases hq; exact hb6)
                     have r7 : w7.cell? ⟨g, off, none⟩ = some (.int .i64 x) := (LB7.cell (p := ⟨g, off, none⟩) hg8).trans cx8))
              all_goals
                have HO9 := Lib.hid (show w7.ownsRow w.heap.size 3 1 (.slice (some ⟨gb, 0, none⟩) (0 + 1) cb) (0 + 1) (icells (ys.take 0 ++ [x] ++ ys.drop 0)) from ⟨o7.1, o7.2.imp id (fun ⟨g', cap, cur, a1, a2, a3⟩ => ⟨g', cap, cur, a1, Nat.le_trans HL8.out.size a2, a3⟩)⟩)
                have HY9 := Lib.hid (show (ys.take 0 ++ [x] ++ ys.drop 0).length = 0 + 1 by rw [List.length_append, List.length_append, hyk, hyd]; simp only [List.length_cons, List.length_nil] <;> omega)
                have HP9 := Lib.hid (show (ys.take 0 ++ [x] ++ ys.drop 0).Perm (xs.take (0 + 1)) by
                  rw [lv_snoc xs 0 (by have := HNL.out; omega), HX.out]
                  exact (ins_perm ys x 0).trans (List.Perm.append HP.out (List.Perm.refl _)))
                have HL9 := Lib.hid (HL8.out.trans (LB7.mono HL8.out.size))
                clear o7 gr7 LB7 r7 o6 gr6 LB6 r6 oa oa0 l5 LB5 r5 ra nva
                go_wp2
                go_roundw
                case rel => exact ⟨0 + 1, _, gb, cb, by omega, by go_num, rfl, HO9, HY9, HP9, HL9⟩
                case measure => simp [intOf]; omega
    · obtain rfl : N = i := by omega
      have hge : ¬ (N : Int) < (N : Int) := by omega
      obtain ⟨hgB, hgl⟩ := own_lt HO.out
      have HRS := Lib.hid (show RowS wq (.slice (some ⟨g2, 0, none⟩) N cap) ys from ⟨g2, 0, cap, by rw [HY.out], hgl, fun j hj => by rw [Nat.zero_add]; exact own_part HO.out HY.out j (by have := HY.out; omega)⟩)
      have HOI := Lib.hid (show OwnI wq w.heap.size (.slice (some ⟨g2, 0, none⟩) N cap) ys by unfold OwnI; rw [HY.out]; exact HO.out)
      rw [HPA.out] at HP
      clear HO HC
      go_wp2
      go_ret
      exact ⟨_, rfl, ys, HOI.out, HRS.out, HP.out, HL.out⟩
end Go.Proofs.Ythncgcdnljoakaa
