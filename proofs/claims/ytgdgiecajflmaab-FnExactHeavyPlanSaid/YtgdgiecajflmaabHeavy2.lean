/- The contract of the program's heavyCodes. -/
import Derived.Test.YtgdgiecajflmaabHeavy1
import Derived.Test.YtgdgiecajflmaabKit4
import Derived.Deep.AppendLies
import Derived.Deep.RegionHeld3
namespace Go.Proofs.Ytgdgiecajflmaab
open Go.RowKit Go.Maps
def cellsC : List (Nat → Int) → List Value
  | [] => []
  | f :: r => [.int .i64 (f 0), .int .i64 (f 1), .int .i64 (f 2), .int .i64 (f 3), .int .i64 (f 4)] ++ cellsC r
theorem cellsC_app (xs ys : List (Nat → Int)) : cellsC (xs ++ ys) = cellsC xs ++ cellsC ys := by
  induction xs with
  | nil => rfl
  | cons x l ih => simp [cellsC, ih]
def codeN (size i : Nat) : Nat → Int := fun j => (sgF size i).getD j 0
def hvC (e size h : Nat) : Nat → List (Nat → Int)
  | 0 => if e = 1 then [fun _ => 0] else []
  | i + 1 => hvC e size h i ++ [codeN size (h + i), fun j => -(codeN size (h + i) j)]
theorem hvC_len (e size h : Nat) (he : e ≤ 1) : ∀ i, (hvC e size h i).length = e + 2 * i := by
  intro i
  induction i with
  | zero => unfold hvC; split <;> simp <;> omega
  | succ i ih => rw [hvC, List.length_append, ih]; simp; omega
theorem codeN_small (size i : Nat) : ∀ j, -1 ≤ codeN size i j ∧ codeN size i j ≤ 1 := by
  intro j
  unfold codeN
  by_cases h : j < size
  · exact sgF_sign size i j h
  · have : (sgF size i).getD j 0 = 0 := by simp [List.getD, show (sgF size i).length ≤ j by rw [sgF_len]; omega]
    omega
theorem own_slice {w : World} {B : Nat} {e : TypeId} {s : Nat} {v : Value} {n : Nat} {xs : List Value} (h : w.ownsRow B e s v n xs) : ∃ a c, v = .slice a n c := by
  rcases h.2 with ⟨e1, e2⟩ | ⟨g, cap, _, e1, _⟩
  · exact ⟨none, 0, by rw [e1, e2]⟩
  · exact ⟨_, cap, e1⟩
set_option maxRecDepth 100000 in
set_option maxHeartbeats 6400000 in
theorem heavyCodes_any (N size : Nat) (hN : N ≤ 40) (hs : size ≤ 5) (w : World) :
    Calls Try.prog 59 #[.int .i64 (N : Int), .int .i64 (size : Int)] w fun e w' => ∃ u, e = .returned u ∧ w'.ownsRow w.heap.size 73 5 u N (cellsC (hvC (N % 2) size (3 ^ size / 2 + 1) (N / 2))) ∧ Below w.heap.size w w' := by
  obtain ⟨i0, hi, hz0, hz1, hz2⟩ := info_parts infoCode
  have PW := Lib.hid (fun w => power_any 3 size (.inr rfl) (by omega) w)
  rw [powF_cast] at PW
  have hp := pow3_le size (by omega)
  obtain ⟨M, hM⟩ : ∃ M, 3 ^ size = M := ⟨_, rfl⟩
  rw [hM] at PW hp ⊢
  obtain ⟨q, hq⟩ : ∃ q, M / 2 = q := ⟨_, rfl⟩
  have hq2 : (M : Int) / 2 = (q : Int) := by omega
  have hq1 : q ≤ 364 := by omega
  rw [hq]
  obtain ⟨p, hpp⟩ : ∃ p, N / 2 = p := ⟨_, rfl⟩
  rw [hpp]
  have L0 := Lib.hid (Below.refl w.heap.size w)
  have R0 := World.ownsRow_nil w w.heap.size 73 5
  clear hM hq
  by_cases he : N % 2 = 1
  · rw [he]
    have HNp := Lib.hid (show N = 1 + 2 * p by omega)
    have hpar : ((N : Int) % 2 == 1) = true := by simp; omega
    clear he hpp
    go_enter Try.func59, Try.ntmps59
    go_wp2_with (at_builtin; refine wpList_append_own _ rfl _ _ 70 rfl w.heap.size 73 i0 (.agg #[.int .i64 0, .int .i64 0, .int .i64 0, .int .i64 0, .int .i64 0]) 5 40 Try.underlying70 hi hz0 hz1 hz2 rfl (by decide) _ _ _ rfl (R0.alloc _) ⟨w.heap.size, 0, none⟩ 1 1 zero5 rfl rfl (World.news_of_block (cs := zero5.toArray) (t := 73) (fr := (0, 0)) (heap_alloc_new w _)) (by simp [zero5, Value.oneCell']) (by unfold maxLen; omega) (by omega) (by simp) ?_; intro v1 w1 hown1 hgrow1 hnil1)
    have R1 := Lib.hid (show w1.ownsRow w.heap.size 73 5 v1 (1 + 2 * 0) (cellsC (hvC 1 size (q + 1) 0)) from hown1)
    have L1 := Lib.hid (show Below w.heap.size w w1 from ((Below.refl _ _).alloc (Nat.le_refl _) _).grown hgrow1 (by simp) (fun j hj => by cases hj))
    clear hown1 hgrow1 hnil1 R0 L0
    refine (PW.out _).mono ?_
    rintro e w' ⟨rfl, rfl⟩
    go_wp2
    go_loopw [5, 6] (fun t x wr => ∃ i : Nat, i ≤ p ∧ x = .int .i64 ((q : Int) + 1 + i) ∧ Hid (wr.ownsRow w.heap.size 73 5 t (1 + 2 * i) (cellsC (hvC 1 size (q + 1) i))) ∧ Hid (Below w.heap.size w wr)) (fun _ x _ => (q + 1 + p) - (intOf x).toNat)
    case atStart => exact ⟨0, Nat.zero_le _, by simp, R1, L1⟩
    case round =>
      obtain ⟨i, hi', rfl, HR, HW⟩ := hrel
      obtain ⟨wq, rfl⟩ : ∃ wq : World, wq = wr := ⟨_, rfl⟩
      clear R1 L1 PW
      obtain ⟨ta, tc, rfl⟩ := own_slice HR.out
      by_cases hlt : i < p
      · have hlt' : (((1 + 2 * i : Nat) : Int)) < (N : Int) := by have := HNp.out; omega
        have hidx : (q : Int) + 1 + i = ((q + 1 + i : Nat) : Int) := by omega
        have SA := Lib.hid (signsAt_any (q + 1 + i) size (by have := HNp.out; omega) (by omega) wq)
        have HFL := Lib.hid (codeN_small size (q + 1 + i))
        have HSF := Lib.hid (show (fun j => (sgF size (q + 1 + i)).getD j 0) = codeN size (q + 1 + i) from rfl)
        have HVS := Lib.hid (show hvC 1 size (q + 1) (i + 1) = hvC 1 size (q + 1) i ++ [codeN size (q + 1 + i), fun j => -(codeN size (q + 1 + i) j)] from rfl)
        have HSL := sgF_len size (q + 1 + i)
        obtain ⟨ix, hix⟩ : ∃ ix : Int, (q : Int) + 1 + i = ix := ⟨_, rfl⟩
        rw [hix] at hidx ⊢
        rw [← hidx] at SA
        have HIX := Lib.hid hix
        have hix0 : 0 ≤ ix ∧ ix ≤ 2000 := by have := HNp.out; omega
        obtain ⟨ix0, ix1⟩ := hix0
        have hws := HW.out.size
        clear hix hidx
        go_wp2_with fail
        refine SA.out.mono ?_
        rintro e w2 ⟨gs, rfl, ms, l2⟩
        have L2 := Lib.hid (HW.out.trans (l2.mono hws))
        have R2 := Lib.hid (ownsRow_lo HR.out l2)
        have CO := Lib.hid (codeOf_any _ _ w2 ms.row (by rw [HSL]; exact hs))
        rw [HSF.out] at CO
        clear SA ms l2 HR HSF HSL
        generalize codeN size (q + 1 + i) = f at CO HFL HVS
        go_wp2_with fail
        refine CO.out.mono ?_
        rintro e w3 ⟨rfl, l3⟩
        have L3 := Lib.hid (L2.out.trans (l3.mono L2.out.size))
        have R3 := Lib.hid (ownsRow_lo R2.out l3)
        have hws3 := L3.out.size
        unfold codeV
        obtain ⟨W, hW⟩ : ∃ W, w3.alloc (.cells #[.int .i64 (f 0), .int .i64 (f 1), .int .i64 (f 2), .int .i64 (f 3), .int .i64 (f 4)] 73) = W := ⟨_, rfl⟩
        have LW := Lib.hid (show Below w3.heap.size w3 W by rw [← hW]; exact (Below.refl _ _).alloc (Nat.le_refl _) _)
        have LW0 := Lib.hid (L3.out.trans (LW.out.mono L3.out.size))
        have hsW : W.heap.size = w3.heap.size + 1 := by rw [← hW]; simp
        have F5 := Lib.hid (fun i (h : i < 5) => show W.cell? ⟨w3.heap.size, i, none⟩ = some (.int .i64 (f i)) by rw [← hW]; exact lit_five w3 73 (f 0) (f 1) (f 2) (f 3) (f 4) f rfl rfl rfl rfl rfl i h)
        have d0 := F5.out 0 (by omega)
        have d1 := F5.out 1 (by omega)
        have d2 := F5.out 2 (by omega)
        have d3 := F5.out 3 (by omega)
        have d4 := F5.out 4 (by omega)
        have RW := Lib.hid (ownsRow_lo R3.out LW.out)
        have hgr : w3.heap.size < W.heap.size := by omega
        have hob : ∀ g, (Value.slice ta (1 + 2 * i) tc).ownBlock = some g → w.heap.size ≤ g ∧ g < w3.heap.size := fun g hg => R3.out.lt g hg
        have HOB := Lib.hid hob
        have OP := Lib.hid (fun w => opposite_any f HFL.out w)
        unfold codeV at OP
        have hi20 : i ≤ 20 := by have := HNp.out; omega
        have ag : (Value.slice ta (1 + 2 * i) tc).ownBlock ≠ some w3.heap.size := fun h => by have := (HOB.out _ h).2; omega
        clear l3 CO R2 L2 hob F5
        go_wp2
        go_region_held3 (fun w' => w'.cell? ⟨w3.heap.size, 0, none⟩ = some (.int .i64 (f 0)) ∧ w'.cell? ⟨w3.heap.size, 1, none⟩ = some (.int .i64 (f 1)) ∧ w'.cell? ⟨w3.heap.size, 2, none⟩ = some (.int .i64 (f 2)) ∧ w'.cell? ⟨w3.heap.size, 3, none⟩ = some (.int .i64 (f 3)) ∧ w'.cell? ⟨w3.heap.size, 4, none⟩ = some (.int .i64 (f 4)))
          (first
            | exact ⟨(hl.cell (p := ⟨w3.heap.size, 0, none⟩) hgr).trans d0, (hl.cell (p := ⟨w3.heap.size, 1, none⟩) hgr).trans d1, (hl.cell (p := ⟨w3.heap.size, 2, none⟩) hgr).trans d2, (hl.cell (p := ⟨w3.heap.size, 3, none⟩) hgr).trans d3, (hl.cell (p := ⟨w3.heap.size, 4, none⟩) hgr).trans d4⟩
            | go_keep
            | (go_split_ands
               refine ⟨?_, ?_, ?_, ?_, ?_⟩ <;> (rw [hgrow6.cell_far _ (by simp; have h9 : W.heap.size ≤ w5.heap.size := hl.size; omega) (Ne.symm ag)]; assumption)))
          (first
            | (go_at_call 99; refine (OP.out _).mono ?_; rintro e w5 ⟨rfl, hl⟩)
            | (refine step_append_lies _ (by rfl) _ _ _ (by rfl) w.heap.size 73 i0 _ 5 40 Try.underlying70 hi hz0 hz1 hz2 rfl (by omega) (.slice ta (1 + 2 * i) tc) (1 + 2 * i) _ (by rfl) ((ownsRow_lo (w := W.drew) RW.out hl).alloc _) ⟨w5.heap.size, 0, none⟩ 2 2 [.int .i64 (f 0), .int .i64 (f 1), .int .i64 (f 2), .int .i64 (f 3), .int .i64 (f 4), .int .i64 (-(f 0)), .int .i64 (-(f 1)), .int .i64 (-(f 2)), .int .i64 (-(f 3)), .int .i64 (-(f 4))] (by rfl) (by rfl) (World.news_of_block (cs := #[.int .i64 (f 0), .int .i64 (f 1), .int .i64 (f 2), .int .i64 (f 3), .int .i64 (f 4), .int .i64 (-(f 0)), .int .i64 (-(f 1)), .int .i64 (-(f 2)), .int .i64 (-(f 3)), .int .i64 (-(f 4))]) (t := 73) (fr := (0, 0)) (heap_alloc_new w5 _)) (by simp [Value.oneCell']) (by omega) (by unfold maxLen; omega) (by omega) (by have h9 : W.heap.size ≤ w5.heap.size := hl.size; have := LW0.out.size; simp; omega) (w5.heap.size + 1) (by simp) ?_; intro gg cap w6 hown6 hgrow6 hat6 hlt6))
        have HN := Lib.hid (show w6.ownsRow w.heap.size 73 5 (.slice (some ⟨gg, 0, none⟩) ((1 + 2 * i) + 2) cap) (1 + 2 * (i + 1)) (cellsC (hvC 1 size (q + 1) (i + 1))) from by
          rw [HVS.out, cellsC_app, show 1 + 2 * (i + 1) = (1 + 2 * i) + 2 by omega]
          exact hown6)
        have HL := Lib.hid (show Below w.heap.size w w6 from (((LW0.out.drew).trans (hl.mono LW0.out.size)).alloc (by have h9 : W.heap.size ≤ w5.heap.size := hl.size; have := LW0.out.size; omega) _).grown hgrow6 (by have h9 : W.heap.size ≤ w5.heap.size := hl.size; have := LW0.out.size; simp; omega) (fun j hj => (HOB.out j hj).1))
        clear hown6 hgrow6 hat6 hlt6 hl
        go_wp2
        go_roundw
        case rel => exact ⟨i + 1, by omega, by rw [show ((q : Int) + 1 + ((i + 1 : Nat) : Int)) = ix + 1 by have := HIX.out; omega], HN, HL⟩
        case measure =>
          have := HIX.out
          simp [intOf]
          omega
      · obtain rfl : i = p := by omega
        have hge : ¬ (((1 + 2 * i : Nat) : Int)) < (N : Int) := by have := HNp.out; omega
        go_wp2
        go_ret
        exact ⟨_, rfl, by rw [HNp.out]; exact HR.out, HW.out⟩
  · have he0 : N % 2 = 0 := by omega
    rw [he0]
    have HNp := Lib.hid (show N = 2 * p by omega)
    have hpar : ((N : Int) % 2 == 1) = false := by simp; omega
    clear he0
    clear he hpp
    go_enter Try.func59, Try.ntmps59
    have R1 := Lib.hid (show w.ownsRow w.heap.size 73 5 (.slice none 0 0) (2 * 0) (cellsC (hvC 0 size (q + 1) 0)) from R0)
    have L1 := L0
    clear R0 L0
    go_wp2_with fail
    refine (PW.out _).mono ?_
    rintro e w ⟨rfl, rfl⟩
    go_wp2
    go_loopw [5, 6] (fun t x wr => ∃ i : Nat, i ≤ p ∧ x = .int .i64 ((q : Int) + 1 + i) ∧ Hid (wr.ownsRow w.heap.size 73 5 t (2 * i) (cellsC (hvC 0 size (q + 1) i))) ∧ Hid (Below w.heap.size w wr)) (fun _ x _ => (q + 1 + p) - (intOf x).toNat)
    case atStart => exact ⟨0, Nat.zero_le _, by simp, R1, L1⟩
    case round =>
      obtain ⟨i, hi', rfl, HR, HW⟩ := hrel
      obtain ⟨wq, rfl⟩ : ∃ wq : World, wq = wr := ⟨_, rfl⟩
      clear R1 L1 PW
      obtain ⟨ta, tc, rfl⟩ := own_slice HR.out
      by_cases hlt : i < p
      · have hlt' : (((2 * i : Nat) : Int)) < (N : Int) := by have := HNp.out; omega
        have hidx : (q : Int) + 1 + i = ((q + 1 + i : Nat) : Int) := by omega
        have SA := Lib.hid (signsAt_any (q + 1 + i) size (by have := HNp.out; omega) (by omega) wq)
        have HFL := Lib.hid (codeN_small size (q + 1 + i))
        have HSF := Lib.hid (show (fun j => (sgF size (q + 1 + i)).getD j 0) = codeN size (q + 1 + i) from rfl)
        have HVS := Lib.hid (show hvC 0 size (q + 1) (i + 1) = hvC 0 size (q + 1) i ++ [codeN size (q + 1 + i), fun j => -(codeN size (q + 1 + i) j)] from rfl)
        have HSL := sgF_len size (q + 1 + i)
        obtain ⟨ix, hix⟩ : ∃ ix : Int, (q : Int) + 1 + i = ix := ⟨_, rfl⟩
        rw [hix] at hidx ⊢
        rw [← hidx] at SA
        have HIX := Lib.hid hix
        have hix0 : 0 ≤ ix ∧ ix ≤ 2000 := by have := HNp.out; omega
        obtain ⟨ix0, ix1⟩ := hix0
        have hws := HW.out.size
        clear hix hidx
        go_wp2_with fail
        refine SA.out.mono ?_
        rintro e w2 ⟨gs, rfl, ms, l2⟩
        have L2 := Lib.hid (HW.out.trans (l2.mono hws))
        have R2 := Lib.hid (ownsRow_lo HR.out l2)
        have CO := Lib.hid (codeOf_any _ _ w2 ms.row (by rw [HSL]; exact hs))
        rw [HSF.out] at CO
        clear SA ms l2 HR HSF HSL
        generalize codeN size (q + 1 + i) = f at CO HFL HVS
        go_wp2_with fail
        refine CO.out.mono ?_
        rintro e w3 ⟨rfl, l3⟩
        have L3 := Lib.hid (L2.out.trans (l3.mono L2.out.size))
        have R3 := Lib.hid (ownsRow_lo R2.out l3)
        have hws3 := L3.out.size
        unfold codeV
        obtain ⟨W, hW⟩ : ∃ W, w3.alloc (.cells #[.int .i64 (f 0), .int .i64 (f 1), .int .i64 (f 2), .int .i64 (f 3), .int .i64 (f 4)] 73) = W := ⟨_, rfl⟩
        have LW := Lib.hid (show Below w3.heap.size w3 W by rw [← hW]; exact (Below.refl _ _).alloc (Nat.le_refl _) _)
        have LW0 := Lib.hid (L3.out.trans (LW.out.mono L3.out.size))
        have hsW : W.heap.size = w3.heap.size + 1 := by rw [← hW]; simp
        have F5 := Lib.hid (fun i (h : i < 5) => show W.cell? ⟨w3.heap.size, i, none⟩ = some (.int .i64 (f i)) by rw [← hW]; exact lit_five w3 73 (f 0) (f 1) (f 2) (f 3) (f 4) f rfl rfl rfl rfl rfl i h)
        have d0 := F5.out 0 (by omega)
        have d1 := F5.out 1 (by omega)
        have d2 := F5.out 2 (by omega)
        have d3 := F5.out 3 (by omega)
        have d4 := F5.out 4 (by omega)
        have RW := Lib.hid (ownsRow_lo R3.out LW.out)
        have hgr : w3.heap.size < W.heap.size := by omega
        have hob : ∀ g, (Value.slice ta (2 * i) tc).ownBlock = some g → w.heap.size ≤ g ∧ g < w3.heap.size := fun g hg => R3.out.lt g hg
        have HOB := Lib.hid hob
        have OP := Lib.hid (fun w => opposite_any f HFL.out w)
        unfold codeV at OP
        have hi20 : i ≤ 20 := by have := HNp.out; omega
        have ag : (Value.slice ta (2 * i) tc).ownBlock ≠ some w3.heap.size := fun h => by have := (HOB.out _ h).2; omega
        clear l3 CO R2 L2 hob F5
        go_wp2
        go_region_held3 (fun w' => w'.cell? ⟨w3.heap.size, 0, none⟩ = some (.int .i64 (f 0)) ∧ w'.cell? ⟨w3.heap.size, 1, none⟩ = some (.int .i64 (f 1)) ∧ w'.cell? ⟨w3.heap.size, 2, none⟩ = some (.int .i64 (f 2)) ∧ w'.cell? ⟨w3.heap.size, 3, none⟩ = some (.int .i64 (f 3)) ∧ w'.cell? ⟨w3.heap.size, 4, none⟩ = some (.int .i64 (f 4)))
          (first
            | exact ⟨(hl.cell (p := ⟨w3.heap.size, 0, none⟩) hgr).trans d0, (hl.cell (p := ⟨w3.heap.size, 1, none⟩) hgr).trans d1, (hl.cell (p := ⟨w3.heap.size, 2, none⟩) hgr).trans d2, (hl.cell (p := ⟨w3.heap.size, 3, none⟩) hgr).trans d3, (hl.cell (p := ⟨w3.heap.size, 4, none⟩) hgr).trans d4⟩
            | go_keep
            | (go_split_ands
               refine ⟨?_, ?_, ?_, ?_, ?_⟩ <;> (rw [hgrow6.cell_far _ (by simp; have h9 : W.heap.size ≤ w5.heap.size := hl.size; omega) (Ne.symm ag)]; assumption)))
          (first
            | (go_at_call 99; refine (OP.out _).mono ?_; rintro e w5 ⟨rfl, hl⟩)
            | (refine step_append_lies _ (by rfl) _ _ _ (by rfl) w.heap.size 73 i0 _ 5 40 Try.underlying70 hi hz0 hz1 hz2 rfl (by omega) (.slice ta (2 * i) tc) (2 * i) _ (by rfl) ((ownsRow_lo (w := W.drew) RW.out hl).alloc _) ⟨w5.heap.size, 0, none⟩ 2 2 [.int .i64 (f 0), .int .i64 (f 1), .int .i64 (f 2), .int .i64 (f 3), .int .i64 (f 4), .int .i64 (-(f 0)), .int .i64 (-(f 1)), .int .i64 (-(f 2)), .int .i64 (-(f 3)), .int .i64 (-(f 4))] (by rfl) (by rfl) (World.news_of_block (cs := #[.int .i64 (f 0), .int .i64 (f 1), .int .i64 (f 2), .int .i64 (f 3), .int .i64 (f 4), .int .i64 (-(f 0)), .int .i64 (-(f 1)), .int .i64 (-(f 2)), .int .i64 (-(f 3)), .int .i64 (-(f 4))]) (t := 73) (fr := (0, 0)) (heap_alloc_new w5 _)) (by simp [Value.oneCell']) (by omega) (by unfold maxLen; omega) (by omega) (by have h9 : W.heap.size ≤ w5.heap.size := hl.size; have := LW0.out.size; simp; omega) (w5.heap.size + 1) (by simp) ?_; intro gg cap w6 hown6 hgrow6 hat6 hlt6))
        have HN := Lib.hid (show w6.ownsRow w.heap.size 73 5 (.slice (some ⟨gg, 0, none⟩) ((2 * i) + 2) cap) (2 * (i + 1)) (cellsC (hvC 0 size (q + 1) (i + 1))) from by
          rw [HVS.out, cellsC_app, show 2 * (i + 1) = (2 * i) + 2 by omega]
          exact hown6)
        have HL := Lib.hid (show Below w.heap.size w w6 from (((LW0.out.drew).trans (hl.mono LW0.out.size)).alloc (by have h9 : W.heap.size ≤ w5.heap.size := hl.size; have := LW0.out.size; omega) _).grown hgrow6 (by have h9 : W.heap.size ≤ w5.heap.size := hl.size; have := LW0.out.size; simp; omega) (fun j hj => (HOB.out j hj).1))
        clear hown6 hgrow6 hat6 hlt6 hl
        go_wp2
        go_roundw
        case rel => exact ⟨i + 1, by omega, by rw [show ((q : Int) + 1 + ((i + 1 : Nat) : Int)) = ix + 1 by have := HIX.out; omega], HN, HL⟩
        case measure =>
          have := HIX.out
          simp [intOf]
          omega
      · obtain rfl : i = p := by omega
        have hge : ¬ (((2 * i : Nat) : Int)) < (N : Int) := by have := HNp.out; omega
        go_wp2
        go_ret
        exact ⟨_, rfl, by rw [HNp.out]; exact HR.out, HW.out⟩
end Go.Proofs.Ytgdgiecajflmaab
