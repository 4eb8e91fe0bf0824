/- The model's search: whether cells hang together. -/
import Derived.Test.YtmcjichpeijiaaaBoP
import Derived.Test.YtmcjichpeijiaaaBo1
import Derived.Test.YtmcjichpeijiaaaIntLaw
import Derived.Maps.AppendAt
namespace Go.Proofs.Ytmcjichpeijiaaa
open Go.RowKit
theorem infoBool : (Try.prog.info? 4).map (fun i => (i.zero, i.size, i.bytes)) = some (some (.bool false), 1, 1) := by kernel_rfl
theorem make_bools (n : Nat) (hn : n ≤ 2000000) (u : World) :
    (Instr.makeSlice 139 (.int .i64 (n : Int)) (.int .i64 (n : Int))).run Try.prog u = .ok (.slice (some ⟨u.heap.size, 0, none⟩) n n) (u.alloc (.cells (madeCells #[.bool false] n) 4)) := by
  obtain ⟨i0, hi, hz0, hz1, hz2⟩ := info_parts infoBool
  have h := run_make (P := Try.prog) u 139 4 i0 (.bool false) Try.underlying139 hi hz0 .i64 .i64 (n : Int) (n : Int) (by omega) (Int.le_refl _) (by rw [hz2]; omega) (by omega)
  simpa [hz1, Value.cells] using h
theorem made_bool (m j : Nat) (h : j < m) : (madeCells #[.bool false] m)[j]? = some (.bool false) := by
  rw [← Array.getElem?_toList, toList_madeCells_one]; simp [h]
theorem ownsRow_only {w w' : World} {C B : Nat} {e : TypeId} {size : Nat} {v : Value} {n : Nat} {xs : List Value} (h : w.ownsRow B e size v n xs) (o : Only C w w') (hB : C < B) : w'.ownsRow B e size v n xs := by
  refine ⟨h.1, ?_⟩
  rcases h.2 with h2 | ⟨g, cap, cur, hv, hg, hb, r⟩
  · exact .inl h2
  · refine .inr ⟨g, cap, cur, hv, hg, ?_, r⟩
    rw [o.block g (by omega) (Array.getElem?_eq_some_iff.1 hb).1]; exact hb
theorem ownsRow_lo {w w' : World} {B : Nat} {e : TypeId} {size : Nat} {v : Value} {n : Nat} {xs : List Value} (h : w.ownsRow B e size v n xs) (o : Below w.heap.size w w') : w'.ownsRow B e size v n xs := by
  refine ⟨h.1, ?_⟩
  rcases h.2 with h2 | ⟨g, cap, cur, hv, hg, hb, r⟩
  · exact .inl h2
  · refine .inr ⟨g, cap, cur, hv, hg, ?_, r⟩
    rw [o.block g (Array.getElem?_eq_some_iff.1 hb).1]; exact hb
def natI (L : List Nat) : List Int := L.map fun n : Nat => (n : Int)
theorem natI_len (L : List Nat) : (natI L).length = L.length := by unfold natI; rw [List.length_map]
theorem natI_at (L : List Nat) (j : Nat) : (natI L).getD j 0 = ((L.getD j 0 : Nat) : Int) := by
  unfold natI
  simp only [List.getD, List.getElem?_map]
  cases L[j]? <;> rfl
theorem natI_snoc (L : List Nat) (j : Nat) : natI (L ++ [j]) = natI L ++ [(j : Int)] := by unfold natI; rw [List.map_append]; rfl
theorem ownI_form {w : World} {B : Nat} {u : Value} {xs : List Int} (h : OwnI w B u xs) (h0 : 0 < xs.length) : ∃ g c, u = .slice (some ⟨g, 0, none⟩) xs.length c ∧ B ≤ g ∧ g < w.heap.size ∧ ∀ j, j < xs.length → w.cell? ⟨g, j, none⟩ = some (.int .i64 (xs.getD j 0)) := by
  have h' := h
  unfold OwnI at h'
  obtain ⟨g, cap, rfl, hb, hl⟩ := h'.form (by omega)
  exact ⟨g, cap, rfl, hb, hl, fun j hj => by rw [h'.cellAt j (by omega)]; exact icells_at xs j hj⟩
/-- Which places the model has seen. -/
def SeenB (w : World) (S N : Nat) (L : List Nat) : Prop := S < w.heap.size ∧ (∀ j, j < N → w.cell? ⟨S, j, none⟩ = some (.bool (decide (j ∈ L)))) ∧ ∀ j, w.frozen? ⟨S, j, none⟩ = false
theorem SeenB.lo {w w' : World} {S N : Nat} {L : List Nat} (h : SeenB w S N L) (l : Below w.heap.size w w') : SeenB w' S N L := by
  obtain ⟨h0, h1, h2⟩ := h
  exact ⟨Nat.lt_of_lt_of_le h0 l.size, fun j hj => by rw [l.cell (p := ⟨S, j, none⟩) h0]; exact h1 j hj, fun j => by rw [l.frozen (p := ⟨S, j, none⟩) h0]; exact h2 j⟩
theorem SeenB.put {w : World} {S N i : Nat} {L : List Nat} (h : SeenB w S N L) (hi : i < N) : SeenB (w.setCell ⟨S, i, none⟩ (.bool true)) S N (L ++ [i]) := by
  obtain ⟨h0, h1, h2⟩ := h
  refine ⟨by simpa using h0, fun j hj => ?_, fun j => by rw [World.frozen?_setCell]; exact h2 j⟩
  by_cases e : j = i
  · subst e
    rw [World.cell?_setCell_same' _ _ _ (by rw [h1 j hj]; rfl)]
    simp
  · rw [World.cell?_setCell_other _ _ _ _ (fun hh => e (congrArg Addr.off hh).symm), h1 j hj]
    simp [e]
theorem SeenB.far {w : World} {S N : Nat} {L : List Nat} {w' : World} {row : Option Nat} (h : SeenB w S N L) (hg : w.grownBy w' row) (hne : ∀ q, row = some q → S ≠ q) : SeenB w' S N L := by
  obtain ⟨h0, h1, h2⟩ := h
  have hb : w'.heap[S]? = w.heap[S]? := hg.block S h0 (fun e => hne S e.symm rfl)
  exact ⟨Nat.lt_of_lt_of_le h0 hg.size, fun j hj => by rw [World.cell?_of_block (a := ⟨S, j, none⟩) hb]; exact h1 j hj, fun j => by rw [World.frozen?_of_block (a := ⟨S, j, none⟩) hb]; exact h2 j⟩
set_option maxRecDepth 100000 in
set_option maxHeartbeats 3200000 in
theorem l8Hangs_any (v : Value) (xs : List (Int × Int)) (w : World) (hr : LoadRow w v xs) (h0 : 0 < xs.length) (hx : xs.Nodup) (hs : ∀ c ∈ xs, SmC c) (hn : xs.length ≤ 1000) :
    Calls Try.prog 115 #[v] w fun e w' => e = .returned (.bool (connB xs)) ∧ Below w.heap.size w w' := by
  obtain ⟨i0, hi, hz0, hz1, hz2⟩ := info_parts infoInt
  have HE := Lib.hid (fun (L : List Nat) (h : BfsI xs L L.length 0) => h.said h0 hx)
  generalize connB xs = r at *
  have HS := Lib.hid hs
  have HM := make_bools xs.length (by omega)
  have HB0 := Lib.hid (BfsI.start h0)
  obtain ⟨a, c, rfl, hr⟩ := hr
  rcases hr with h | ⟨g, off, rfl, hg, hc⟩
  · subst h; simp at h0
  have HC := Lib.hid hc
  have HG := Lib.hid hg
  clear hc hs hx hg
  have BW := Lib.hid (show Below w.heap.size w ((w.alloc (.cells ((madeCells #[.bool false] xs.length).setIfInBounds 0 (.bool true)) 4)).alloc (.cells #[.int .i64 0] 3)) from alloc_two _ _ _)
  have SW := Lib.hid (show SeenB ((w.alloc (.cells ((madeCells #[.bool false] xs.length).setIfInBounds 0 (.bool true)) 4)).alloc (.cells #[.int .i64 0] 3)) w.heap.size xs.length [0] by
    refine SeenB.lo ⟨by simp, fun j hj => ?_, fun j => World.frozen?_alloc_at _ _ _ _ rfl⟩ (below_new _ _)
    rw [World.cell?_alloc_at _ _ _ _ rfl, Array.getElem?_setIfInBounds]
    by_cases e : 0 = j
    · subst e
      rw [if_pos rfl, if_pos (by rw [size_madeCells]; simpa using hj)]; simp
    · rw [if_neg e, made_bool _ _ hj]
      have : ¬ j = 0 := fun h => e h.symm
      simp [this])
  have OW := Lib.hid (show OwnI ((w.alloc (.cells ((madeCells #[.bool false] xs.length).setIfInBounds 0 (.bool true)) 4)).alloc (.cells #[.int .i64 0] 3)) (w.heap.size + 1) (.slice (some ⟨w.heap.size + 1, 0, none⟩) 1 1) (natI [0]) by
    have := ownI_lit1 (w.alloc (.cells ((madeCells #[.bool false] xs.length).setIfInBounds 0 (.bool true)) 4)) 0 (w.heap.size + 1) (by rw [World.size_alloc]; exact Nat.le_refl _)
    rw [World.size_alloc] at this
    exact this)
  have z0 : ((w.alloc (.cells (madeCells #[.bool false] xs.length) 4)).alloc (.cells #[.int .i64 0] 3)).cell? ⟨w.heap.size, 0, none⟩ = some (.bool false) := by
    rw [(below_new (w.alloc (.cells (madeCells #[.bool false] xs.length) 4)) (.cells #[.int .i64 0] 3)).cell (p := ⟨w.heap.size, 0, none⟩) (by simp), World.cell?_alloc_at _ _ _ _ rfl]
    exact made_bool _ _ h0
  have f0 : ((w.alloc (.cells (madeCells #[.bool false] xs.length) 4)).alloc (.cells #[.int .i64 0] 3)).frozen? ⟨w.heap.size, 0, none⟩ = false := by
    rw [(below_new (w.alloc (.cells (madeCells #[.bool false] xs.length) 4)) (.cells #[.int .i64 0] 3)).frozen (p := ⟨w.heap.size, 0, none⟩) (by simp)]
    exact World.frozen?_alloc_at _ _ _ _ rfl
  have h0' : (0 : Int) < (xs.length : Int) := by omega
  go_enter Try.func115, Try.ntmps115
  go_wp2
  clear HM z0 f0
  go_loopw [4, 5] (fun v x wr => ∃ (L : List Nat) (n : Nat), x = .int .i64 n ∧ n ≤ L.length ∧ Hid (OwnI wr (w.heap.size + 1) v (natI L)) ∧ Hid (SeenB wr w.heap.size xs.length L) ∧ Hid (BfsI xs L n 0) ∧ Hid (Below w.heap.size w wr)) (fun _ x _ => xs.length + 1 - (intOf x).toNat)
  case atStart => exact ⟨[0], 0, rfl, Nat.zero_le _, OW, SW, HB0, BW⟩
  case round =>
    obtain ⟨L, n, rfl, hnl, HO, HSe, HB, HL⟩ := hrel
    clear OW SW BW HB0
    have hLx := HB.out.len
    obtain ⟨gg, cap, hv, hgg, hgs, hcl⟩ := ownI_form HO.out (by rw [natI_len]; exact List.length_pos_of_mem HB.out.zero)
    rw [natI_len] at hv hcl
    subst hv
    by_cases hlt : n < L.length
    · have hlt' : (n : Int) < (L.length : Int) := by omega
      clear hcl hgg hgs
      go_wp2
      go_loopw [4, 6] (fun v x wr => ∃ (L : List Nat) (i : Nat), x = .int .i64 i ∧ i ≤ xs.length ∧ n < L.length ∧ Hid (OwnI wr (w.heap.size + 1) v (natI L)) ∧ Hid (SeenB wr w.heap.size xs.length L) ∧ Hid (BfsI xs L n i) ∧ Hid (Below w.heap.size w wr)) (fun _ x _ => xs.length - (intOf x).toNat)
      case atStart => exact ⟨L, 0, rfl, Nat.zero_le _, hlt, HO, HSe, HB, HL⟩
      case round =>
        clear HO HSe HB HL hlt hlt' hnl hLx
        obtain ⟨L, i, rfl, hix, hlt, HO, HSe, HB, HL⟩ := hrel
        have hLx := HB.out.len
        obtain ⟨gg, cap, hv, hgg, hgs, hcl⟩ := ownI_form HO.out (by rw [natI_len]; omega)
        rw [natI_len] at hv hcl
        subst hv
        by_cases hil : i < xs.length
        · have hil' : (i : Int) < (xs.length : Int) := by omega
          have hlt' : (n : Int) < (L.length : Int) := by omega
          have z0 := HSe.out.2.1 i hil
          by_cases hm : i ∈ L
          · rw [decide_eq_true hm] at z0
            have HBn := Lib.hid (HB.out.skip fun _ => hm)
            clear hcl hm
            go_wp2
            go_quiet (fail)
            go_wp2
            go_roundw
            case rel => exact ⟨L, i + 1, by go_num, by omega, hlt, HO, Lib.hid (HSe.out.lo (drewN_below _ _)), HBn, Lib.hid (lo_drewN HL.out _)⟩
            case measure => simp [intOf]; omega
          · rw [decide_eq_false hm] at z0
            have f0 := HSe.out.2.2 i
            have hsr := HSe.out.1
            have hLn := HB.out.lt _ (nat_mem hlt)
            have cn := hcl n hlt
            rw [natI_at] at cn
            obtain ⟨c1, c2⟩ := HC.out i hil
            obtain ⟨c3, c4⟩ := HC.out (L.getD n 0) hLn
            have hgw := HG.out
            have hgr : g < wr.heap.size := Nat.lt_of_lt_of_le hgw HL.out.size
            rw [← HL.out.cell (p := ⟨g, off + i * 2, none⟩) hgw] at c1
            rw [← HL.out.cell (p := ⟨g, off + i * 2 + 1, none⟩) hgw] at c2
            rw [← HL.out.cell (p := ⟨g, off + L.getD n 0 * 2, none⟩) hgw] at c3
            rw [← HL.out.cell (p := ⟨g, off + L.getD n 0 * 2 + 1, none⟩) hgw] at c4
            have s1 := HS.out _ (mem_getD hil)
            have s2 := HS.out _ (mem_getD hLn)
            have HBs := Lib.hid (fun h => HB.out.skip (i := i) h)
            have HBa := Lib.hid (fun h => HB.out.add (i := i) hil hlt hm h)
            have CN := Lib.hid (fun w => l8Near_any (xs.getD i (0, 0)) (xs.getD (L.getD n 0) (0, 0)) w s1 s2)
            generalize xs.getD i (0, 0) = x at c1 c2 HBs HBa CN
            generalize xs.getD (L.getD n 0) (0, 0) = y at c3 c4 HBs HBa CN
            have hl2 : ((L.getD n 0 : Nat) : Int) < (xs.length : Int) := by omega
            obtain ⟨q, hq⟩ : ∃ q, L.getD n 0 = q := ⟨_, rfl⟩
            rw [hq] at c3 c4 cn hl2 hLn
            obtain ⟨x1, x2⟩ := x
            obtain ⟨y1, y2⟩ := y
            simp only at c1 c2 c3 c4 CN
            clear hcl hm hq s1 s2
            obtain ⟨b, hb⟩ : ∃ b, nearB (x1, x2) (y1, y2) = b := ⟨_, rfl⟩
            rw [hb] at CN HBs HBa
            clear hb
            go_wp2_with fail
            go_region_held3 (fun w' => w'.cell? ⟨g, off + i * 2, none⟩ = some (.int .i64 x1) ∧ w'.cell? ⟨g, off + i * 2 + 1, none⟩ = some (.int .i64 x2) ∧ w'.cell? ⟨g, off + q * 2, none⟩ = some (.int .i64 y1) ∧ w'.cell? ⟨g, off + q * 2 + 1, none⟩ = some (.int .i64 y2) ∧ w'.cell? ⟨gg, n, none⟩ = some (.int .i64 q) ∧ w'.cell? ⟨w.heap.size, i, none⟩ = some (.bool false))
              (first | exact ⟨(hl.cell (p := ⟨g, off + i * 2, none⟩) hgr).trans c1, (hl.cell (p := ⟨g, off + i * 2 + 1, none⟩) hgr).trans c2, (hl.cell (p := ⟨g, off + q * 2, none⟩) hgr).trans c3, (hl.cell (p := ⟨g, off + q * 2 + 1, none⟩) hgr).trans c4, (hl.cell (p := ⟨gg, n, none⟩) hgs).trans cn, (hl.cell (p := ⟨w.heap.size, i, none⟩) hsr).trans z0⟩ | go_keep)
              (first | (go_at_call 154; refine (CN.out _).mono ?_; rintro e w1 ⟨rfl, hl⟩))
            have LN := Lib.hid (show Below wr.heap.size wr w1 from lo_on (drw_b wr) hl)
            have S1 := Lib.hid (HSe.out.lo LN.out)
            have O1 := Lib.hid (show OwnI w1 (w.heap.size + 1) (.slice (some ⟨gg, 0, none⟩) L.length cap) (natI L) from ownsRow_lo HO.out LN.out)
            have L1 := Lib.hid (lo_on HL.out LN.out)
            clear hl c1 c2 c3 c4 cn z0 f0 HSe HO
            cases b with
            | false =>
              have HBn := Lib.hid (HBs.out fun h => by cases h)
              clear HBs HBa
              go_wp2
              go_roundw
              case rel => exact ⟨L, i + 1, by go_num, by omega, hlt, O1, S1, HBn, L1⟩
              case measure => simp [intOf]; omega
            | true =>
              have HBn := Lib.hid (HBa.out rfl)
              clear HBs HBa
              have z1 := S1.out.2.1 i hil
              have hmf : decide (i ∈ L) = false := by
                cases e : decide (i ∈ L) with
                | false => rfl
                | true => exact absurd HBn.out.nd (by rw [List.nodup_append]; intro hh; exact hh.2.2 i (of_decide_eq_true e) i (by simp) rfl)
              rw [hmf] at z1
              have f1 := S1.out.2.2 i
              have hown := ownsRow_only O1.out (only_set w1 w.heap.size i (.bool true)) (Nat.lt_succ_self _)
              rw [natI_len] at hown
              have S2 := Lib.hid (S1.out.put hil)
              have L2 := Lib.hid (L1.out.setCell (p := ⟨w.heap.size, i, none⟩) (Nat.le_refl _) (.bool true))
              have hsz := L1.out.size
              have hs1 := S1.out.1
              clear O1 S1 hmf
              go_wp2_with (at_builtin; refine wpList_append_own _ rfl _ _ 41 rfl (w.heap.size + 1) 3 i0 (.int .i64 0) 1 8 Try.underlying41 hi hz0 hz1 hz2 rfl (by decide) _ _ _ rfl (hown.alloc _) ⟨w1.heap.size, 0, none⟩ 1 1 [.int .i64 i] rfl rfl (by simpa using cell_one_new (w1.setCell ⟨w.heap.size, i, none⟩ (.bool true)) (.int .i64 i) 3) (fun x hx => by simp at hx; subst hx; rfl) (by unfold maxLen; omega) (by omega) (by simp; omega) ?_; intro v' w3 hown' hgrow3 hnil3)
              have O3 := Lib.hid (show OwnI w3 (w.heap.size + 1) v' (natI (L ++ [i])) by rw [natI_snoc]; exact ownI_snoc hown' (natI_len L))
              have S3 := Lib.hid (SeenB.far (S2.out.lo (below_new _ _)) hgrow3 (fun q hq => by have := (hown.lt q hq).1; omega))
              have L3 := Lib.hid (show Below w.heap.size w w3 from (L2.out.alloc L2.out.size _).grown hgrow3 (by simp; omega) (fun j hj => by have := (hown.lt j hj).1; omega))
              clear hown hown' hgrow3 hnil3 z1 f1 S2 L2
              go_wp2
              go_roundw
              case rel => exact ⟨L ++ [i], i + 1, by go_num, by omega, by rw [List.length_append]; simp; omega, O3, S3, HBn, L3⟩
              case measure => simp [intOf]; omega
        · obtain rfl : i = xs.length := by omega
          have hge : ¬ (xs.length : Int) < (xs.length : Int) := by omega
          have HBn := Lib.hid HB.out.next
          clear hcl
          go_wp2
          go_roundw
          case rel => exact ⟨L, n + 1, by go_num, by omega, HO, HSe, HBn, HL⟩
          case measure => simp [intOf]; omega
    · obtain rfl : n = L.length := by omega
      have hge : ¬ (L.length : Int) < (L.length : Int) := by omega
      have HF := Lib.hid (HE.out L HB.out)
      clear hcl
      go_wp2
      go_ret
      exact ⟨by rw [← HF.out]; exact congrArg (fun b => Ending.returned (Value.bool b)) (by rw [Bool.eq_iff_iff]; simp; omega), HL.out⟩
end Go.Proofs.Ytmcjichpeijiaaa
