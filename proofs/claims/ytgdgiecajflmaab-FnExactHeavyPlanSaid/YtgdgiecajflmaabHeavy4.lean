/- The contract of the program's HeavyPlan. -/
import Derived.Test.YtgdgiecajflmaabHeavy2
import Derived.Test.YtgdgiecajflmaabGrid
import Derived.StillTailTactics
namespace Go.Proofs.Ytgdgiecajflmaab
open Go.RowKit Go.Maps
theorem cellsC_len (fs : List (Nat → Int)) : (cellsC fs).length = fs.length * 5 := by
  induction fs with
  | nil => rfl
  | cons f r ih => simp [cellsC, ih]; omega
theorem cellsC_at (fs : List (Nat → Int)) : ∀ k, k < fs.length → ∀ j, j < 5 → (cellsC fs)[k * 5 + j]? = some (.int .i64 (fs.getD k (fun _ => 0) j)) := by
  induction fs with
  | nil => intro k h; simp at h
  | cons f r ih =>
    intro k hk j hj
    cases k with
    | zero =>
      simp only [Nat.zero_mul, Nat.zero_add, cellsC]
      match j, hj with
      | 0, _ => rfl
      | 1, _ => rfl
      | 2, _ => rfl
      | 3, _ => rfl
      | 4, _ => rfl
    | succ k =>
      have := ih k (by simpa using hk) j hj
      rw [cellsC, List.getElem?_append_right (by simp; omega)]
      rw [show (k + 1) * 5 + j - [Value.int .i64 (f 0), .int .i64 (f 1), .int .i64 (f 2), .int .i64 (f 3), .int .i64 (f 4)].length = k * 5 + j by simp; omega, this]
      simp [List.getD]
def codeAt (N s : Nat) (k j : Nat) : Int := (hvC (N % 2) s (3 ^ s / 2 + 1) (N / 2)).getD k (fun _ => 0) j
theorem ownsRow_set {w : World} {B : Nat} {e : TypeId} {s : Nat} {v : Value} {n : Nat} {xs : List Value} (h : w.ownsRow B e s v n xs) (g o : Nat) (u : Value) (hne : v.ownBlock ≠ some g) : (w.setCell ⟨g, o, none⟩ u).ownsRow B e s v n xs := by
  refine ⟨h.1, ?_⟩
  rcases h.2 with h | ⟨g', cap, cur, e, hb, hg, r⟩
  · exact .inl h
  · subst e
    exact .inr ⟨g', cap, cur, rfl, hb, ((only_set w g o u).block g' (fun e2 => hne (by rw [← e2]; rfl)) (Array.getElem?_eq_some_iff.1 hg).1).trans hg, r⟩
theorem needed_short (n : Int) : needF n ≤ 4 := by unfold needF; split <;> (try split) <;> (try split) <;> (try split) <;> omega
set_option maxRecDepth 100000 in
set_option maxHeartbeats 6400000 in
theorem heavyPlan_yes (N : Nat) (hn : coinsB (N : Int) = true) (w : World) :
    Calls Try.prog 7 #[.int .i64 (N : Int)] w fun e w' => ∃ u, e = .returned (.tuple #[u, .bool true]) ∧ MineT w' w.heap.size w'.heap.size u (gridL (needF N) N (fun j c => codeAt N (needF N) c j)) ∧ Below w.heap.size w w' := by
  have ND := Lib.hid (needed_impl (N : Int) w)
  rw [show neededF (N : Int) = (((needF (N : Int) : Nat) : Int), true) by unfold neededF; rw [if_pos hn]] at ND
  have hN : N ≤ 40 := by unfold coinsB at hn; simp at hn; omega
  have hs4 := needed_short (N : Int)
  have hN0 : 0 < N := by unfold coinsB at hn; simp at hn; omega
  obtain ⟨s, hs⟩ : ∃ s, needF (N : Int) = s := ⟨_, rfl⟩
  rw [hs] at ND hs4 ⊢
  have HM := make_tab s (by omega)
  have HI := make_ints N (by omega)
  have HV := Lib.hid (fun w => heavyCodes_any N s hN (by omega) w)
  have hcl : (hvC (N % 2) s (3 ^ s / 2 + 1) (N / 2)).length = N := by rw [hvC_len _ _ _ (by omega)]; omega
  have CA := Lib.hid (fun k (h : k < N) j (hj : j < 5) => show (cellsC (hvC (N % 2) s (3 ^ s / 2 + 1) (N / 2)))[k * 5 + j]? = some (.int .i64 (codeAt N s k j)) from cellsC_at _ k (by rw [hcl]; exact h) j hj)
  generalize codeAt N s = cd at CA ⊢
  generalize cellsC (hvC (N % 2) s (3 ^ s / 2 + 1) (N / 2)) = cs at HV CA
  clear hs hn hcl
  go_enter Try.func7, Try.ntmps7
  go_wp2_with fail
  refine ND.out.mono ?_
  rintro e w1 ⟨rfl, l1⟩
  have L1 := Lib.hid l1
  have hw1 := l1.size
  clear l1 ND
  go_wp2
  go_loopw [22] (fun i wr => ∃ k : Nat, k ≤ s ∧ i = .int .i64 k ∧ Hid (GridF wr w1.heap.size k N (fun _ _ => 0)) ∧ Hid (∀ j, k ≤ j → j < s → wr.cell? ⟨w1.heap.size, j, none⟩ = some (.slice none 0 0)) ∧ Hid (∀ j, wr.frozen? ⟨w1.heap.size, j, none⟩ = false) ∧ Hid (Below w1.heap.size w1 wr) ∧ wr.heap.size = w1.heap.size + 1 + k) (fun i _ => s - (intOf i).toNat)
  case atStart => exact ⟨0, Nat.zero_le _, rfl, Lib.hid ⟨fun j h => by omega, fun j h => by omega, fun j h => by omega, by simp⟩, Lib.hid (fun j _ h => by rw [World.cell?_alloc_at _ _ _ _ rfl]; exact made_tab _ _ h), Lib.hid (fun j => World.frozen?_alloc_at _ _ _ _ rfl), Lib.hid ((Below.refl _ _).alloc (Nat.le_refl _) _), by simp⟩
  case round =>
    obtain ⟨k, hk, rfl, HG, H2, H3, HW, hsz⟩ := hrel
    obtain ⟨wq, rfl⟩ : ∃ wq : World, wq = wr := ⟨_, rfl⟩
    by_cases hlt : k < s
    · have hlt' : (k : Int) < (s : Int) := by omega
      have hcw := H2.out k (Nat.le_refl _) hlt
      have hfw := H3.out k
      have hgb : w1.heap.size < wq.heap.size := by omega
      have a1 : (wq.alloc (.cells (madeCells #[.int .i64 0] N) 3)).cell? ⟨w1.heap.size, k, none⟩ = some (.slice none 0 0) := by rw [World.cell?_of_block (Below.heap_alloc _ _ _ hgb)]; exact hcw
      have a2 : (wq.alloc (.cells (madeCells #[.int .i64 0] N) 3)).frozen? ⟨w1.heap.size, k, none⟩ = false := by rw [World.frozen?_of_block (Below.heap_alloc _ _ _ hgb)]; exact hfw
      clear hcw hfw HM
      go_wp2
      go_roundw
      case rel =>
        have AL := (Below.refl wq.heap.size wq).alloc (Nat.le_refl _) (.cells (madeCells #[.int .i64 0] N) 3)
        have G1 := HG.out.lo AL
        have OS := one_set (wq.alloc (.cells (madeCells #[.int .i64 0] N) 3)) w1.heap.size k (.slice (some ⟨wq.heap.size, 0, none⟩) N N) a1
        rw [hsz] at OS
        have nb : ∀ b c u, b ≠ w1.heap.size → ((wq.alloc (.cells (madeCells #[.int .i64 0] N) 3)).setCell ⟨w1.heap.size, k, none⟩ u).cell? ⟨b, c, none⟩ = (wq.alloc (.cells (madeCells #[.int .i64 0] N) 3)).cell? ⟨b, c, none⟩ := fun b c u h => World.cell?_setCell_other _ _ _ _ (fun hh => h (congrArg Addr.block hh).symm)
        refine ⟨k + 1, by omega, by go_num, Lib.hid ⟨fun j hj => ?_, fun j hj c hc => ?_, fun j hj c => ?_, by simp; omega⟩, Lib.hid (fun j h1 h2 => ?_), Lib.hid (fun j => ?_), Lib.hid ((HW.out.alloc HW.out.size _).setCell (p := ⟨w1.heap.size, k, none⟩) (Nat.le_refl _) _), by simp; omega⟩
        · by_cases e : j = k
          · subst e; exact OS.1
          · rw [OS.2 j e]; exact G1.tab j (by omega)
        · rw [nb _ _ _ (by omega)]
          by_cases e : j = k
          · subst e
            rw [World.cell?_alloc_at _ _ _ _ hsz.symm]
            exact made_int _ _ hc
          · exact G1.cell j (by omega) c hc
        · rw [World.frozen?_setCell]
          by_cases e : j = k
          · subst e; exact World.frozen?_alloc_at _ _ _ _ hsz.symm
          · exact G1.frz j (by omega) c
        · rw [OS.2 j (by omega), World.cell?_of_block (Below.heap_alloc _ _ _ hgb)]; exact H2.out j (by omega) h2
        · rw [World.frozen?_setCell, World.frozen?_of_block (Below.heap_alloc _ _ _ hgb)]; exact H3.out j
      case measure => simp [intOf]; omega
    · obtain rfl : k = s := by omega
      have hge : ¬ (k : Int) < (k : Int) := by omega
      have LQ := Lib.hid (L1.out.trans (HW.out.mono L1.out.size))
      clear H2 H3 HM HI
      go_wp2_with fail
      refine (HV.out _).mono ?_
      rintro e w3 ⟨u, rfl, ho, l3⟩
      have G3 := Lib.hid (HG.out.lo l3)
      have R3 := Lib.hid ho
      have L3 := Lib.hid (LQ.out.trans (l3.mono LQ.out.size))
      obtain ⟨gu, cu, rfl, hgu, hgu2⟩ := ho.form (show 0 < N by omega)
      have GZ := Lib.hid (G3.out.same (val' := fun j c => if c < 0 then cd c j else 0) (fun j _ c _ => by simp))
      clear ho l3 HV HG
      go_wp2
      go_loopw [35] (fun i wr => ∃ m : Nat, m ≤ N ∧ i = .int .i64 m ∧ Hid (GridF wr w1.heap.size k N (fun j c => if c < m then cd c j else 0)) ∧ Hid (wr.ownsRow wq.heap.size 73 5 (.slice (some ⟨gu, 0, none⟩) N cu) N cs) ∧ Hid (Below w.heap.size w wr)) (fun i _ => N - (intOf i).toNat)
      case atStart => exact ⟨0, Nat.zero_le _, rfl, GZ, R3, L3⟩
      case round =>
        obtain ⟨m, hm, rfl, HG, HR, HL⟩ := hrel
        obtain ⟨wy, rfl⟩ : ∃ wy : World, wy = wr := ⟨_, rfl⟩
        clear GZ G3 R3 L3
        by_cases hmn : m < N
        · have hmn' : (m : Int) < (N : Int) := by omega
          obtain ⟨f, hf⟩ : ∃ f : Nat → Int, cd m = f := ⟨_, rfl⟩
          have hcell : ∀ j, j < 5 → wy.cell? ⟨gu, m * 5 + j, none⟩ = some (.int .i64 (f j)) := fun j hj => by
            rw [HR.out.cellAt (m * 5 + j) (by omega), ← hf]
            exact CA.out m hmn j hj
          have d0 := hcell 0 (by omega)
          have d1 := hcell 1 (by omega)
          have d2 := hcell 2 (by omega)
          have d3 := hcell 3 (by omega)
          have d4 := hcell 4 (by omega)
          rw [Nat.add_zero] at d0
          clear hcell
          have HCM := Lib.hid hf
          have hroom := HG.out.room
          obtain ⟨W, hW⟩ : ∃ W, wy.alloc (.cells #[.int .i64 (f 0), .int .i64 (f 1), .int .i64 (f 2), .int .i64 (f 3), .int .i64 (f 4)] 73) = W := ⟨_, rfl⟩
          have LW := show Below wy.heap.size wy W by rw [← hW]; exact (Below.refl _ _).alloc (Nat.le_refl _) _
          have hsW : W.heap.size = wy.heap.size + 1 := by rw [← hW]; simp
          have B5 := Lib.hid (fun i (h : i < 5) => show W.cell? ⟨wy.heap.size, i, none⟩ = some (.int .i64 (f i)) by rw [← hW]; exact lit_five wy 73 (f 0) (f 1) (f 2) (f 3) (f 4) f rfl rfl rfl rfl rfl i h)
          have GW := Lib.hid ((HG.out.lo LW).same (val' := fun j c => if c < m ∨ (c = m ∧ j < 0) then cd c j else 0) (fun j _ c _ => by simp))
          have RW := Lib.hid (ownsRow_lo HR.out LW)
          have LW2 := Lib.hid (HL.out.trans (LW.mono HL.out.size))
          clear hf LW HR HL HG
          go_wp2
          go_loopw [42] (fun i wr => ∃ x : Nat, x ≤ k ∧ i = .int .i64 x ∧ Hid (GridF wr w1.heap.size k N (fun j c => if c < m ∨ (c = m ∧ j < x) then cd c j else 0)) ∧ Hid (∀ j, j < 5 → wr.cell? ⟨wy.heap.size, j, none⟩ = some (.int .i64 (f j))) ∧ Hid (wr.ownsRow wq.heap.size 73 5 (.slice (some ⟨gu, 0, none⟩) N cu) N cs) ∧ Hid (Below w.heap.size w wr)) (fun i _ => k - (intOf i).toNat)
          case atStart => exact ⟨0, Nat.zero_le _, rfl, GW, B5, RW, LW2⟩
          case round =>
            obtain ⟨x, hx, rfl, HGx, HBx, HRx, HLx⟩ := hrel
            obtain ⟨wz, rfl⟩ : ∃ wz : World, wz = wr := ⟨_, rfl⟩
            clear GW B5 RW LW2
            by_cases hxk : x < k
            · have hxk' : (x : Int) < (k : Int) := by omega
              have hx5 : (x : Int) < 5 := by omega
              have t1 := HGx.out.tab x hxk
              have t2 := HGx.out.cell x hxk m hmn
              have t3 := HGx.out.frz x hxk m
              have t4 := HBx.out x (by omega)
              go_wp2
              go_still_tail 9, (by kernel_rfl)
              have DR := Lib.hid (show Below wz.heap.size wz wz.drew from ⟨rfl, rfl, rfl, Nat.le_refl _, fun _ _ => rfl⟩)
              have GD := Lib.hid (HGx.out.lo DR.out)
              have BD := Lib.hid (fun j (h : j < 5) => show wz.drew.cell? ⟨wy.heap.size, j, none⟩ = some (.int .i64 (f j)) from HBx.out j h)
              have RD := Lib.hid (ownsRow_lo HRx.out DR.out)
              have LD := Lib.hid (HLx.out.trans (DR.out.mono HLx.out.size))
              change wpList _ _ _ _ _ wz.drew
              have s2 : wz.drew.cell? ⟨w1.heap.size + 1 + x, m, none⟩ = _ := t2
              have s3 : wz.drew.frozen? ⟨w1.heap.size + 1 + x, m, none⟩ = false := t3
              clear t1 t2 t3 t4 HGx HBx HRx HLx DR
              generalize wz.drew = wd at *
              go_wp2
              go_roundw
              case rel =>
                refine ⟨x + 1, by omega, by go_num, Lib.hid ((GD.out.set hxk hmn (f x)).same (fun j hj c hc => ?_)), Lib.hid (fun j hj => ?_), Lib.hid (ownsRow_set RD.out _ _ _ (fun e => by have e2 : gu = w1.heap.size + 1 + x := Option.some.inj e; omega)), Lib.hid (LD.out.setCell (p := ⟨w1.heap.size + 1 + x, m, none⟩) (by simp only; omega) _)⟩
                · by_cases e : j = x ∧ c = m
                  · obtain ⟨e1, e2⟩ := e
                    subst e1; subst e2
                    rw [if_pos (by omega), if_pos ⟨rfl, rfl⟩, HCM.out]
                  · rw [if_neg e]
                    by_cases e2 : c < m ∨ (c = m ∧ j < x)
                    · rw [if_pos e2, if_pos (by omega)]
                    · rw [if_neg e2, if_neg (by omega)]
                · rw [World.cell?_setCell_other _ _ _ _ (fun hh => by have := congrArg Addr.block hh; simp at this; omega)]
                  exact BD.out j hj
              case measure => simp [intOf]; omega
            · obtain rfl : x = k := by omega
              have hge3 : ¬ (x : Int) < (x : Int) := by omega
              have HN := Lib.hid (HGx.out.same (val' := fun j c => if c < m + 1 then cd c j else 0) (fun j hj c _ => by
                by_cases e : c < m + 1
                · rw [if_pos e, if_pos (by omega)]
                · rw [if_neg e, if_neg (by omega)]))
              go_wp2
              go_roundw
              case rel => exact ⟨m + 1, by omega, by go_num, HN, HRx, HLx⟩
              case measure => simp [intOf]; omega
        · obtain rfl : m = N := by omega
          have hge2 : ¬ (m : Int) < (m : Int) := by omega
          have HM2 := Lib.hid ((HG.out.same (val' := fun j c => cd c j) (fun j _ c hc => by rw [if_pos hc])).mine (B := w.heap.size) hw1)
          go_wp2
          try rw [Exit.noGoto_ret]
          go_ret2
          exact ⟨_, rfl, HM2.out, HL.out⟩
end Go.Proofs.Ytgdgiecajflmaab
