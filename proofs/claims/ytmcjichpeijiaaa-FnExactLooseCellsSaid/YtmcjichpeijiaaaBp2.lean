/- The model's l8Put and l8Down. -/
import Derived.Test.YtmcjichpeijiaaaBp1
namespace Go.Proofs.Ytmcjichpeijiaaa
open Go.RowKit Go.Maps
theorem elemC : Try.prog.elem 22 = 29 := by kernel_rfl
theorem undC : Try.prog.underlying 22 = some (.slice (Try.prog.elem 22)) := by rw [elemC]; exact Try.underlying22
theorem slice_h (g off n c k : Nat) (hk : k ≤ c) (X : World) : (Instr.slice 22 (.slice (some ⟨g, off, none⟩) n c) none (some (.int .i64 (k : Int))) none).run Try.prog X = .ok (.slice (some ⟨g, off, none⟩) k c) X := by
  rw [run_slice_h X _ _ _ _ undC _ _ (by omega) (by omega), elemC, Try.sizeOf29]
  simp [sliced, Result.andThen, Go.WideShapes.add_plain]
theorem slice_l (g off n c k : Nat) (hk : k ≤ n) (hn : n ≤ c) : ∃ o3 c3, (∀ X : World, (Instr.slice 22 (.slice (some ⟨g, off, none⟩) n c) (some (.int .i64 (k : Int))) none none).run Try.prog X = .ok (.slice (some ⟨g, o3, none⟩) (n - k) c3) X) ∧ (o3 = off + k * 2 ∨ k = n) ∧ n - k ≤ c3 := by
  by_cases h : c = k
  · refine ⟨off, 0, fun X => ?_, .inr (by omega), by omega⟩
    rw [run_slice_l X _ _ _ _ undC _ _ (by omega) (by omega), elemC, Try.sizeOf29]
    simp [sliced, Result.andThen, h]
  · refine ⟨off + k * 2, c - k, fun X => ?_, .inl rfl, by omega⟩
    rw [run_slice_l X _ _ _ _ undC _ _ (by omega) (by omega), elemC, Try.sizeOf29]
    simp [sliced, Result.andThen, h, Go.WideShapes.add_plain]
/-- A row of cells that has a block. -/
def RowB (w : World) (v : Value) (xs : List (Int × Int)) : Prop :=
  ∃ g off c, v = .slice (some ⟨g, off, none⟩) xs.length c ∧ xs.length ≤ c ∧ g < w.heap.size ∧ ∀ j, j < xs.length → w.cell? ⟨g, off + j * 2, none⟩ = some (.int .i64 (xs.getD j (0, 0)).1) ∧ w.cell? ⟨g, off + j * 2 + 1, none⟩ = some (.int .i64 (xs.getD j (0, 0)).2)
theorem RowB.row {w : World} {v : Value} {xs : List (Int × Int)} (h : RowB w v xs) : LoadRow w v xs := by
  obtain ⟨g, off, c, e, _, hg, hc⟩ := h
  exact ⟨_, c, e, .inr ⟨g, off, rfl, hg, hc⟩⟩
theorem RowB.lo {w w' : World} {v : Value} {xs : List (Int × Int)} (h : RowB w v xs) (l : Below w.heap.size w w') : RowB w' v xs := by
  obtain ⟨g, off, c, e, hn, hg, hc⟩ := h
  exact ⟨g, off, c, e, hn, Nat.lt_of_lt_of_le hg l.size, fun j hj => by rw [l.cell (p := ⟨g, off + j * 2, none⟩) hg, l.cell (p := ⟨g, off + j * 2 + 1, none⟩) hg]; exact hc j hj⟩
theorem OwnC.rowB {w : World} {B : Nat} {v : Value} {xs : List (Int × Int)} (h : OwnC w B v xs) (h0 : v ≠ .slice none 0 0) : RowB w v xs := by
  have h' := h
  unfold OwnC at h'
  rcases h'.2 with ⟨rfl, _⟩ | ⟨g, cap, cur, rfl, _, hb, hnc, _⟩
  · exact absurd rfl h0
  · refine ⟨g, 0, cap, rfl, hnc, (Array.getElem?_eq_some_iff.1 hb).1, fun j hj => ?_⟩
    have hc := cellsF_at xs j hj
    rw [Nat.zero_add, h'.cellAt (j * 2) (by omega), h'.cellAt (j * 2 + 1) (by omega)]
    exact hc
theorem OwnC.rowB1 {w : World} {B : Nat} {v : Value} {xs : List (Int × Int)} (h : OwnC w B v xs) (h0 : 0 < xs.length) : RowB w v xs := by
  obtain ⟨g, c, rfl, _⟩ := ownC_form h h0
  exact h.rowB (by simp)
theorem put_k (xs : List (Int × Int)) (c : Int × Int) : ∃ k, k ≤ xs.length ∧ (∀ j, j < k → bfC (xs.getD j (0, 0)) c = true) ∧ (k = xs.length ∨ bfC (xs.getD k (0, 0)) c = false) := by
  have key : ∀ m, m ≤ xs.length → (∀ j, j < m → bfC (xs.getD j (0, 0)) c = true) ∨ ∃ k, k < m ∧ (∀ j, j < k → bfC (xs.getD j (0, 0)) c = true) ∧ bfC (xs.getD k (0, 0)) c = false := by
    intro m
    induction m with
    | zero => intro _; exact .inl fun j hj => by omega
    | succ m ih =>
      intro hm
      rcases ih (by omega) with h | ⟨k, h1, h2, h3⟩
      · cases e : bfC (xs.getD m (0, 0)) c with
        | true =>
          refine .inl fun j hj => ?_
          by_cases ej : j = m
          · subst ej; exact e
          · exact h j (by omega)
        | false => exact .inr ⟨m, by omega, h, e⟩
      · exact .inr ⟨k, by omega, h2, h3⟩
  rcases key xs.length (Nat.le_refl _) with h | ⟨k, h1, h2, h3⟩
  · exact ⟨xs.length, Nat.le_refl _, h, .inl rfl⟩
  · exact ⟨k, by omega, h2, .inr h3⟩
theorem l8Put_any (v : Value) (xs : List (Int × Int)) (p q : Int) (w : World) (hv : RowB w v xs) (hn : xs.length ≤ 1000) :
    Calls Try.prog 108 #[v, .agg #[.int .i64 p, .int .i64 q]] w fun e w' => ∃ v', e = .returned v' ∧ OwnC w' w.heap.size v' (putL xs (p, q)) ∧ Below w.heap.size w w' := by
  obtain ⟨g, off, c, rfl, hnc, hg, hc⟩ := hv
  obtain ⟨k, hk, h1, h2⟩ := put_k xs (p, q)
  obtain ⟨o3, c3, s2, h3, _⟩ := slice_l g off xs.length c k hk hnc
  exact l8Put_at g off c o3 c3 k xs p q w hg hn hc hk h1 h2 (fun X => slice_h g off xs.length c k (by omega) X) s2 h3
def SmL (xs : List (Int × Int)) : Prop := ∀ c ∈ xs, SmC c
theorem min_in (f : Int × Int → Int) (xs : List (Int × Int)) (h0 : 0 < xs.length) (m : Int) (h : ∀ c ∈ xs, -m ≤ f c ∧ f c ≤ m) : ∀ k, -m ≤ mnF f (xs.take (max k 1)) ∧ mnF f (xs.take (max k 1)) ≤ m := by
  intro k
  obtain ⟨c, hc, e⟩ := mnF_mem f (xs.take (max k 1)) (by intro e; have := congrArg List.length e; rw [List.length_take, List.length_nil] at this; omega)
  have := h c (List.mem_of_mem_take hc)
  omega
theorem downM_take (xs : List (Int × Int)) (k : Nat) (hk : k < xs.length) : (downM xs).take (k + 1) = (downM xs).take k ++ [((xs.getD k (0, 0)).1 - mnF Prod.fst xs, (xs.getD k (0, 0)).2 - mnF Prod.snd xs)] := by
  rw [take_snocC _ k (by unfold downM; rw [List.length_map]; exact hk)]
  congr 2
  unfold downM mvC
  simp only [List.getD, List.getElem?_map, List.getElem?_eq_getElem hk, Option.map_some, Option.getD_some]
  exact cell_ext (by simp only; omega) (by simp only; omega)
set_option maxRecDepth 100000 in
set_option maxHeartbeats 6400000 in
theorem l8Down_any (v : Value) (xs : List (Int × Int)) (w : World) (hr : LoadRow w v xs) (h0 : 0 < xs.length) (hs : SmL xs) (hn : xs.length ≤ 500) :
    Calls Try.prog 84 #[v] w fun e w' => ∃ v', e = .returned v' ∧ OwnC w' w.heap.size v' (downL xs) ∧ Below w.heap.size w w' := by
  obtain ⟨a, c, rfl, hr⟩ := hr
  rcases hr with h | ⟨g, off, rfl, hg, hc⟩
  · subst h; simp at h0
  have HS := Lib.hid hs
  have HC := Lib.hid hc
  obtain ⟨c1, c2⟩ := hc 0 h0
  rw [Nat.zero_mul, Nat.add_zero] at c1 c2
  have h0' : (0 : Int) < (xs.length : Int) := by omega
  have C10 := Lib.hid (show mnF Prod.fst (xs.take (max 0 1)) = (xs.getD 0 (0, 0)).1 by cases xs with | nil => simp at h0 | cons x l => simp [mnF])
  have C20 := Lib.hid (show mnF Prod.snd (xs.take (max 0 1)) = (xs.getD 0 (0, 0)).2 by cases xs with | nil => simp at h0 | cons x l => simp [mnF])
  have B1 := Lib.hid (min_in Prod.fst xs h0 1000 (fun c hc => (hs c hc).1))
  have B2 := Lib.hid (min_in Prod.snd xs h0 1000 (fun c hc => (hs c hc).2))
  clear hc hs
  obtain ⟨p, hp⟩ : ∃ p, (xs.getD 0 (0, 0)).1 = p := ⟨_, rfl⟩
  obtain ⟨q, hq⟩ : ∃ q, (xs.getD 0 (0, 0)).2 = q := ⟨_, rfl⟩
  rw [hp] at c1 C10
  rw [hq] at c2 C20
  clear hp hq
  have hgl : ∀ o, (w.alloc o).cell? ⟨g, off, none⟩ = some (.int .i64 p) := fun o => by rw [(below_new w o).cell (p := ⟨g, off, none⟩) hg]; exact c1
  have hgl2 : ∀ o, (w.alloc o).cell? ⟨g, off + 1, none⟩ = some (.int .i64 q) := fun o => by rw [(below_new w o).cell (p := ⟨g, off + 1, none⟩) hg]; exact c2
  go_enter Try.func84, Try.ntmps84
  go_wp2_with fail
  go_region_held3 (fun w' => w'.cell? ⟨g, off, none⟩ = some (.int .i64 p) ∧ w'.cell? ⟨g, off + 1, none⟩ = some (.int .i64 q))
    (first | exact ⟨c1, c2⟩ | exact ⟨hgl _, hgl2 _⟩ | go_keep)
    (fail)
  clear hgl hgl2
  have LD := Lib.hid (show Below w.heap.size w (w.alloc (.cells #[] 29)).drew from (below_new w _).drew)
  have OD := Lib.hid (show OwnC (w.alloc (.cells #[] 29)).drew w.heap.size (.slice (some ⟨w.heap.size, 0, none⟩) 0 0) [] from ownC_lit0 w _ (Nat.le_refl _))
  go_wp2
  go_loopw [4, 5, 6] (fun x y i wr => ∃ k n : Nat, k ≤ xs.length ∧ i = .int .i64 k ∧ x = .int .i64 (mnF Prod.fst (xs.take (max k 1))) ∧ y = .int .i64 (mnF Prod.snd (xs.take (max k 1))) ∧ wr = (w.alloc (.cells #[] 29)).drew) (fun _ _ i _ => xs.length - (intOf i).toNat)
  case atStart => exact ⟨0, 0, Nat.zero_le _, rfl, by rw [C10.out], by rw [C20.out], rfl⟩
  case round =>
    obtain ⟨k, n, hk, rfl, rfl, rfl, rfl⟩ := hrel
    clear c1 c2
    by_cases hlt : k < xs.length
    · have hlt' : (k : Int) < (xs.length : Int) := by omega
      obtain ⟨c1, c2⟩ := HC.out k hlt
      rw [← LD.out.cell (p := ⟨g, off + k * 2, none⟩) hg] at c1
      rw [← LD.out.cell (p := ⟨g, off + k * 2 + 1, none⟩) hg] at c2
      have S1 := Lib.hid (corner_step Prod.fst xs k hlt)
      have S2 := Lib.hid (corner_step Prod.snd xs k hlt)
      have M1 := Lib.hid (fun w => l1Least_any (mnF Prod.fst (xs.take (max k 1))) (xs.getD k (0, 0)).1 w)
      have M2 := Lib.hid (fun w => l1Least_any (mnF Prod.snd (xs.take (max k 1))) (xs.getD k (0, 0)).2 w)
      rw [min_swap, ← S1.out] at M1
      rw [min_swap, ← S2.out] at M2
      generalize mnF Prod.fst (xs.take (max k 1)) = m1 at M1 ⊢
      generalize mnF Prod.snd (xs.take (max k 1)) = m2 at M2 ⊢
      generalize (xs.getD k (0, 0)).1 = x1 at c1 M1
      generalize (xs.getD k (0, 0)).2 = x2 at c2 M2
      obtain ⟨n1, hn1⟩ : ∃ n1, mnF Prod.fst (xs.take (max (k + 1) 1)) = n1 := ⟨_, rfl⟩
      obtain ⟨n2, hn2⟩ : ∃ n2, mnF Prod.snd (xs.take (max (k + 1) 1)) = n2 := ⟨_, rfl⟩
      rw [hn1] at M1
      rw [hn2] at M2
      have N1 := Lib.hid hn1
      have N2 := Lib.hid hn2
      clear hn1 hn2 S1 S2
      go_wp2_with fail
      refine (M1.out _).mono ?_
      rintro e w1 ⟨rfl, rfl⟩
      go_wp2_with fail
      refine (M2.out _).mono ?_
      rintro e w1 ⟨rfl, rfl⟩
      go_wp2
      go_roundw
      case rel => exact ⟨k + 1, 0, by omega, by go_num, by rw [N1.out], by rw [N2.out], trivial⟩
      case measure => simp [intOf]; omega
    · obtain rfl : k = xs.length := by omega
      have hge : ¬ (xs.length : Int) < (xs.length : Int) := by omega
      have b1 := B1.out xs.length
      have b2 := B2.out xs.length
      rw [show xs.take (max xs.length 1) = xs from List.take_of_length_le (by omega)] at b1 b2 ⊢
      have HD := Lib.hid (fun k (hk : k < xs.length) => downM_take xs k hk)
      have HDL := Lib.hid (show (downM xs).length = xs.length by unfold downM; rw [List.length_map])
      have HF := Lib.hid (show downL xs = sortL ((downM xs).take xs.length) by unfold downL; rw [List.take_of_length_le (by rw [HDL.out]; exact Nat.le_refl _)])
      generalize mnF Prod.fst xs = m1 at b1 HD ⊢
      generalize mnF Prod.snd xs = m2 at b2 HD ⊢
      generalize downM xs = ds at HD HDL HF
      obtain ⟨b11, b12⟩ := b1
      obtain ⟨b21, b22⟩ := b2
      go_wp2
      go_loopw [3, 7] (fun v i wr => ∃ k : Nat, k ≤ xs.length ∧ i = .int .i64 k ∧ Hid (OwnC wr w.heap.size v (sortL (ds.take k))) ∧ Hid (RowB wr v (sortL (ds.take k))) ∧ Hid (Below w.heap.size w wr)) (fun _ i _ => xs.length - (intOf i).toNat)
      case atStart => exact ⟨0, Nat.zero_le _, rfl, OD, Lib.hid (OwnC.rowB OD.out (by simp)), LD⟩
      case round =>
        obtain ⟨k, hk, rfl, HO, HR, HL⟩ := hrel
        clear OD LD
        by_cases hlt : k < xs.length
        · have hlt' : (k : Int) < (xs.length : Int) := by omega
          obtain ⟨c1, c2⟩ := HC.out k hlt
          have hgr : g < wr.heap.size := Nat.lt_of_lt_of_le hg HL.out.size
          rw [← HL.out.cell (p := ⟨g, off + k * 2, none⟩) hg] at c1
          rw [← HL.out.cell (p := ⟨g, off + k * 2 + 1, none⟩) hg] at c2
          obtain ⟨⟨e1, e2⟩, e3, e4⟩ := HS.out _ (mem_getD hlt)
          have hsl : (sortL (ds.take k)).length = k := by rw [sortL_len, List.length_take, HDL.out]; omega
          have HDk := Lib.hid (show sortL (ds.take (k + 1)) = putL (sortL (ds.take k)) ((xs.getD k (0, 0)).1 - m1, (xs.getD k (0, 0)).2 - m2) by rw [HD.out k hlt, sortL_snoc])
          generalize (xs.getD k (0, 0)).1 = x1 at c1 e1 e2 HDk
          generalize (xs.getD k (0, 0)).2 = x2 at c2 e3 e4 HDk
          have PU := Lib.hid (fun w1 (l : Below wr.heap.size wr w1) => l8Put_any _ _ (x1 - m1) (x2 - m2) w1 (HR.out.lo l) (by rw [hsl]; omega))
          have hpl := putL_len (sortL (ds.take k)) (x1 - m1, x2 - m2)
          rw [← HDk.out] at hpl
          have HPL := Lib.hid (show 0 < (sortL (ds.take (k + 1))).length by omega)
          clear hsl hpl
          generalize sortL (ds.take k) = ys at HO HR HDk PU
          obtain ⟨gv, ov, cv, rfl, hv⟩ := HR.out
          clear hv HR
          obtain ⟨L, hL⟩ : ∃ L, ys.length = L := ⟨_, rfl⟩
          rw [hL] at PU HO ⊢
          clear hL
          have hw1 : IntKind.i64.wrap (x1 - m1) = x1 - m1 := by rw [IntKind.wrap_i64]; omega
          have hw2 : IntKind.i64.wrap (x2 - m2) = x2 - m2 := by rw [IntKind.wrap_i64]; omega
          go_wp2_with fail
          go_region_held3 (fun w' => w'.cell? ⟨g, off + k * 2, none⟩ = some (.int .i64 x1) ∧ w'.cell? ⟨g, off + k * 2 + 1, none⟩ = some (.int .i64 x2))
            (first | exact ⟨(hl.cell (p := ⟨g, off + k * 2, none⟩) hgr).trans c1, (hl.cell (p := ⟨g, off + k * 2 + 1, none⟩) hgr).trans c2⟩ | go_keep)
            (first | (go_at_call 108; with_reducible refine (PU.out wr.drew (drw_b wr)).mono ?_; rintro e w1 ⟨v', rfl, ho, hl⟩))
          have HON := Lib.hid (show OwnC w1 w.heap.size v' (sortL (ds.take (k + 1))) by rw [HDk.out]; exact ownC_base ho (show w.heap.size ≤ wr.drew.heap.size from HL.out.size))
          have HLN := Lib.hid (show Below w.heap.size w w1 from lo_on HL.out (lo_on (drw_b wr) hl))
          have HRN := Lib.hid (HON.out.rowB1 HPL.out)
          clear ho hl c1 c2
          go_wp2
          go_roundw
          case rel => exact ⟨k + 1, by omega, by go_num, HON, HRN, HLN⟩
          case measure => simp [intOf]; omega
        · obtain rfl : k = xs.length := by omega
          have hge : ¬ (xs.length : Int) < (xs.length : Int) := by omega
          obtain ⟨gv, ov, cv, rfl, hv⟩ := HR.out
          clear hv
          go_wp2
          go_ret
          exact ⟨_, rfl, by rw [HF.out]; exact HO.out, HL.out⟩
end Go.Proofs.Ytmcjichpeijiaaa
