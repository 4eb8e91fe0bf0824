/- The model's HeavyPlan. -/
import Derived.Test.YtgdgiecajflmaabAllB
import Derived.Test.YtgdgiecajflmaabHeavy5
import Derived.Test.YtgdgiecajflmaabHeavy6
import Derived.Test.YtgdgiecajflmaabTells4
import Derived.Deep.Cut
namespace Go.Proofs.Ytgdgiecajflmaab
open Go.RowKit Go.Maps
def hcL (k o : Nat) : Nat → List (List Int)
  | 0 => if o = 1 then [List.replicate k 0] else []
  | j + 1 => hcL k o j ++ [sgF k (3 ^ k / 2 + 1 + j), negF (sgF k (3 ^ k / 2 + 1 + j))]
theorem hcL_len (k o : Nat) (ho : o ≤ 1) : ∀ j, (hcL k o j).length = o + 2 * j := by
  intro j
  induction j with
  | zero => unfold hcL; split <;> simp <;> omega
  | succ j ih => rw [hcL, List.length_append, ih]; simp; omega
theorem getD_app {α : Type} (xs ys : List α) (c : Nat) (d : α) : (xs ++ ys).getD c d = if c < xs.length then xs.getD c d else ys.getD (c - xs.length) d := by
  simp only [List.getD]
  split
  · rename_i h; rw [List.getElem?_append_left h]
  · rename_i h; rw [List.getElem?_append_right (by omega)]
theorem hcL_code (k o : Nat) (ho : o ≤ 1) : ∀ m c i, c < o + 2 * m → i < k → ((hcL k o m).getD c []).getD i 0 = (hvC o k (3 ^ k / 2 + 1) m).getD c (fun _ => 0) i := by
  intro m
  induction m with
  | zero =>
    intro c i hc hi
    obtain rfl : o = 1 := by omega
    obtain rfl : c = 0 := by omega
    simp [hcL, hvC, List.getD, hi]
  | succ m ih =>
    intro c i hc hi
    rw [hcL, hvC, getD_app, getD_app, hcL_len k o ho, hvC_len _ _ _ ho]
    by_cases h : c < o + 2 * m
    · rw [if_pos h, if_pos h]; exact ih c i h hi
    · rw [if_neg h, if_neg h]
      have h2 : c - (o + 2 * m) = 0 ∨ c - (o + 2 * m) = 1 := by omega
      rcases h2 with e | e <;> rw [e]
      · rfl
      · show (negF (sgF k (3 ^ k / 2 + 1 + m))).getD i 0 = -(codeN k (3 ^ k / 2 + 1 + m) i)
        rw [neg_at]
        rfl
theorem hcL_row (k o m c : Nat) (ho : o ≤ 1) (hc : c < o + 2 * m) : ((hcL k o m).getD c []).length = k := by
  induction m with
  | zero =>
    obtain rfl : o = 1 := by omega
    obtain rfl : c = 0 := by omega
    simp [hcL, List.getD]
  | succ m ih =>
    rw [hcL, getD_app, hcL_len k o ho]
    by_cases h : c < o + 2 * m
    · rw [if_pos h]; exact ih h
    · rw [if_neg h]
      have h2 : c - (o + 2 * m) = 0 ∨ c - (o + 2 * m) = 1 := by omega
      rcases h2 with e | e <;> rw [e]
      · exact sgF_len _ _
      · exact (negF_len _).trans (sgF_len _ _)
theorem drewB (w : World) : Below w.heap.size w w.drew := ⟨rfl, rfl, rfl, Nat.le_refl _, fun _ _ => rfl⟩
theorem rowB_inner {L : Nat} {w2 wr : World} {ob : Option Nat} {u : Value} {xs : List Int} (h : RowB L w2 u xs) (q : Keeps L w2.heap.size w2 wr) (ho : ∀ g, ob = some g → g < L ∨ w2.heap.size ≤ g) : InnerR wr ob u xs := by
  obtain ⟨g, off, c, e, h1, h2⟩ := h
  refine ⟨_, c, e, .inr ⟨g, off, rfl, Nat.lt_of_lt_of_le h1.2 q.size, fun hh => ?_, fun j hj => ?_⟩⟩
  · have := ho g hh.symm; omega
  · rw [World.cell?_of_block (a := ⟨g, off + j, none⟩) (q.block g h1.1 h1.2)]; exact h2 j hj
/-- More rows, behind an append. -/
theorem tabR_more {wa w3 : World} {B K : Nat} {v v' : Value} {xss nx : List (List Int)} {us nu : List Value} (hk : xss.length = K) (hl : us.length = xss.length) (hn : nu.length = nx.length)
    (hr : ∀ j, j < xss.length → ∃ u, us[j]? = some u ∧ InnerR wa v.ownBlock u (xss.getD j [])) (h1 : ∀ j, j < nx.length → ∃ u, nu[j]? = some u ∧ InnerR wa v.ownBlock u (nx.getD j []))
    (hown' : w3.ownsRow B 30 1 v' (K + nx.length) (us ++ nu)) (hg : wa.grownBy w3 v.ownBlock) (hob : ∀ g, v'.ownBlock = some g → v.ownBlock = some g ∨ wa.heap.size ≤ g) : OwnTabR w3 B v' (xss ++ nx) := by
  refine ⟨us ++ nu, by rw [List.length_append, List.length_append, hl, hn], by rw [List.length_append, hk]; exact hown', fun j hj => ?_⟩
  rw [List.length_append] at hj
  rw [getD_app]
  by_cases e : j < xss.length
  · obtain ⟨y, hy, hi⟩ := hr j e
    rw [if_pos e]
    exact ⟨y, by rw [List.getElem?_append_left (by omega)]; exact hy, hi.grown hg hob⟩
  · obtain ⟨y, hy, hi⟩ := h1 (j - xss.length) (by omega)
    rw [if_neg e]
    exact ⟨y, by rw [List.getElem?_append_right (by omega), hl]; exact hy, hi.grown hg hob⟩
theorem OwnTabR.slice {w : World} {B : Nat} {v : Value} {xss : List (List Int)} (h : OwnTabR w B v xss) : ∃ a c, v = .slice a xss.length c := by
  obtain ⟨us, _, hown, _⟩ := h
  exact own_slice hown
theorem zeros_inner (w : World) (K : Nat) (o : Obj) (ob : Option Nat) (hob : ∀ g, ob = some g → g < w.heap.size) :
    InnerR ((w.alloc (.cells (madeCells #[.int .i64 0] K) 3)).alloc o) ob (.slice (some ⟨w.heap.size, 0, none⟩) K K) (List.replicate K 0) := by
  have hb : ((w.alloc (.cells (madeCells #[.int .i64 0] K) 3)).alloc o).heap[w.heap.size]? = some (.cells (madeCells #[.int .i64 0] K) 3 (0, 0)) := by
    rw [Below.heap_alloc _ _ _ (by simp), heap_alloc_new]
  refine ⟨_, K, by rw [List.length_replicate], .inr ⟨w.heap.size, 0, rfl, by simp; omega, fun e => ?_, fun j hj => ?_⟩⟩
  · have := hob _ e.symm; omega
  · rw [List.length_replicate] at hj
    have : ((w.alloc (.cells (madeCells #[.int .i64 0] K) 3)).alloc o).cell? ⟨w.heap.size, 0 + j, none⟩ = (madeCells #[.int .i64 0] K)[j]? := by
      rw [Nat.zero_add]
      simp only [World.cell?, hb]
      rfl
    rw [this, made_int _ _ hj]
    simp [List.getD, hj]
theorem gridL_snoc (k n : Nat) (val : Nat → Nat → Int) : gridL (k + 1) n val = gridL k n val ++ [(List.range n).map (val k)] := by
  simp [gridL, List.range_succ]
theorem range_snoc (m : Nat) (f : Nat → Int) : (List.range (m + 1)).map f = (List.range m).map f ++ [f m] := by simp [List.range_succ]
set_option maxRecDepth 100000 in
set_option maxHeartbeats 12800000 in
theorem specHeavy_yes (N : Nat) (hn : coinsB (N : Int) = true) (w : World) :
    Calls Try.prog 6 #[.int .i64 (N : Int)] w fun e w' => ∃ u, e = .returned (.tuple #[u, .bool true]) ∧ TabRow w' u (gridL (needF N) N (fun j c => codeAt N (needF N) c j)) ∧ Below w.heap.size w w' := by
  obtain ⟨i0, hi, hz0, hz1, hz2⟩ := info_parts infoInt
  obtain ⟨i1, ki, kz0, kz1, kz2⟩ := info_parts infoIntS
  have CO := Lib.hid (fun w => l3Coins_is (N : Int) true hn w)
  have hN : 2 ≤ N ∧ N ≤ 40 := by unfold coinsB at hn; simp at hn; omega
  obtain ⟨hN2, hN40⟩ := hN
  have ND := Lib.hid (fun w => l3Needed_any (N : Int) (by omega) w)
  have hneed : (1 ≤ needF (N : Int) ∧ needF (N : Int) ≤ 4) ∧ N ≤ 3 ^ needF (N : Int) := by
    unfold needF
    rw [if_neg (by omega)]
    split
    · exact ⟨by omega, by omega⟩
    · split
      · exact ⟨by omega, by omega⟩
      · split
        · exact ⟨by omega, by omega⟩
        · exact ⟨by omega, by omega⟩
  obtain ⟨K, hK⟩ : ∃ K, needF (N : Int) = K := ⟨_, rfl⟩
  rw [hK] at ND hneed ⊢
  obtain ⟨⟨hK1, hK4⟩, hNM⟩ := hneed
  have hodd : 3 ^ K % 2 = 1 := by
    have : K = 1 ∨ K = 2 ∨ K = 3 ∨ K = 4 := by omega
    rcases this with rfl | rfl | rfl | rfl <;> rfl
  have ALL := Lib.hid (fun w => l3AllB_any K (by omega) w)
  have LD := Lib.hid (fun i (h : i < 3 ^ K) => lead_idx hK4 h)
  have HI := make_ints K (by omega)
  have HROW := Lib.hid (fun c (hc : c < N) => hcL_row K (N % 2) (N / 2) c (by omega) (by omega))
  have HCODE := Lib.hid (fun c i (hc : c < N) (h2 : i < K) => show ((hcL K (N % 2) (N / 2)).getD c []).getD i 0 = codeAt N K c i from hcL_code K (N % 2) (by omega) (N / 2) c i (by omega) h2)
  have HLEN := Lib.hid (hcL_len K (N % 2) (by omega))
  have HAT := Lib.hid (fun i (h : i < 3 ^ K) => allF_at K i h)
  have hal := allF_len K
  have HSUC := Lib.hid (fun j => show hcL K (N % 2) (j + 1) = hcL K (N % 2) j ++ [sgF K (3 ^ K / 2 + 1 + j), negF (sgF K (3 ^ K / 2 + 1 + j))] from rfl)
  have hM81 := pow3_le K (by omega)
  obtain ⟨M, hM⟩ : ∃ M, 3 ^ K = M := ⟨_, rfl⟩
  rw [hM] at hNM hodd LD HAT hal HSUC hM81
  obtain ⟨o, ho⟩ : ∃ o, N % 2 = o := ⟨_, rfl⟩
  obtain ⟨p, hp⟩ : ∃ p, N / 2 = p := ⟨_, rfl⟩
  have HNO := Lib.hid (show N = o + 2 * p by omega)
  have ho1 : o ≤ 1 := by omega
  obtain ⟨md, hmd⟩ : ∃ md, M / 2 = md := ⟨_, rfl⟩
  have HME := Lib.hid (show md + 1 + p ≤ M by omega)
  rw [ho, hp] at HROW HCODE
  rw [ho] at HLEN HSUC
  rw [hmd] at LD HSUC
  have HC0 := Lib.hid (show hcL K o 0 = if o = 1 then [List.replicate K 0] else [] from rfl)
  generalize codeAt N K = cd at *
  obtain ⟨W0, hW0⟩ : ∃ W, w.alloc (.cells #[] 30) = W := ⟨_, rfl⟩
  have R0 := Lib.hid (show W0.ownsRow w.heap.size 30 1 (.slice (some ⟨w.heap.size, 0, none⟩) 0 0) 0 [] by rw [← hW0]; exact World.ownsRow_lit w #[] 0 (Nat.le_refl _) (by decide) rfl)
  have L0 := Lib.hid (show Below w.heap.size w W0 by rw [← hW0]; exact (Below.refl w.heap.size w).alloc (Nat.le_refl _) (.cells #[] 30))
  have hs0 : W0.heap.size = w.heap.size + 1 := by rw [← hW0]; simp
  have HS0 := Lib.hid hs0
  have HPAR := Lib.hid (show (o = 1 → ((N : Int) % 2 == 1) = true) ∧ (o = 0 → ((N : Int) % 2 == 1) = false) from ⟨fun h => by simp; omega, fun h => by simp; omega⟩)
  clear hn hK hM hs0 ho hp hmd hodd hNM
  go_enter Try.func6, Try.ntmps6
  go_wp2_with fail
  refine (CO.out _).mono ?_
  rintro e w' ⟨rfl, rfl⟩
  go_wp2_with fail
  refine (ND.out _).mono ?_
  rintro e w' ⟨rfl, rfl⟩
  go_upto_if 21 with (fail)
  go_cut [5] from 6 (fun t5 w' => ∃ ta tc, t5 = .slice ta o tc ∧ Hid (OwnTabR w' w.heap.size (.slice ta o tc) (hcL K o 0)) ∧ Hid (∀ g, (Value.slice ta o tc).ownBlock = some g → g < w'.heap.size) ∧ Hid (Below w.heap.size w w'))
  case first =>
    by_cases h1 : o = 1
    · have hpar := HPAR.out.1 h1
      have hz := zeros_inner W0 K (.cells #[.slice (some ⟨W0.heap.size, 0, none⟩) K K] 30) (Value.slice (some ⟨w.heap.size, 0, none⟩) 0 0).ownBlock (fun g hg => by cases hg; show w.heap.size < W0.heap.size; have := HS0.out; omega)
      have HZ := Lib.hid hz
      clear hz
      go_wp2_with (at_builtin; refine wpList_append_lies _ rfl _ _ 22 rfl w.heap.size 30 i1 (.slice none 0 0) 1 24 Try.underlying22 ki kz0 kz1 kz2 rfl (by decide) (.slice (some ⟨w.heap.size, 0, none⟩) 0 0) 0 [] rfl ((R0.out.alloc _).alloc _) ⟨W0.heap.size + 1, 0, none⟩ 1 1 [.slice (some ⟨W0.heap.size, 0, none⟩) K K] rfl rfl (World.news_of_block (cs := #[.slice (some ⟨W0.heap.size, 0, none⟩) K K]) (t := 30) (fr := (0, 0)) (by have := heap_alloc_new (W0.alloc (.cells (madeCells #[.int .i64 0] K) 3)) (.cells #[.slice (some ⟨W0.heap.size, 0, none⟩) K K] 30); rw [World.size_alloc] at this; exact this)) (by simp [Value.oneCell']) (by omega) (by unfold maxLen; omega) (by omega) (by have := HS0.out; simp; omega) (W0.heap.size + 2) (by simp) ?_; intro g1 cap1 w1 hown1 hgrow1 hat1 hlt1)
      have HT := Lib.hid (show OwnTabR w1 w.heap.size (.slice (some ⟨g1, 0, none⟩) 1 cap1) ([] ++ [List.replicate K 0]) from tabR_more (us := []) (nu := [.slice (some ⟨W0.heap.size, 0, none⟩) K K]) (K := 0) (v := .slice (some ⟨w.heap.size, 0, none⟩) 0 0) rfl rfl rfl (fun j hj => by simp at hj) (fun j hj => by
        obtain rfl : j = 0 := by simpa using hj
        exact ⟨_, rfl, HZ.out⟩) hown1 hgrow1 (fun g hg => by
        rcases hat1 with h | h
        · exact .inl (h.trans hg)
        · right
          have : g1 = g := Option.some.inj hg
          simp
          omega))
      have HL := Lib.hid (show Below w.heap.size w w1 from ((L0.out.alloc (by have := HS0.out; omega) _).alloc (by have := HS0.out; simp; omega) _).grown hgrow1 (by have := HS0.out; simp; omega) (fun q hq => by cases hq; exact Nat.le_refl _))
      subst h1
      clear hown1 hgrow1 hat1
      go_wp2
      go_meet
      exact ⟨_, _, rfl, by rw [HC0.out]; exact HT, Lib.hid (fun g hg => by cases hg; exact hlt1), HL⟩
    · obtain rfl : o = 0 := by omega
      have hpar := HPAR.out.2 rfl
      have HT := Lib.hid (show OwnTabR W0 w.heap.size (.slice (some ⟨w.heap.size, 0, none⟩) 0 0) [] from ⟨[], rfl, R0.out, fun j hj => by simp at hj⟩)
      go_wp2
      go_meet
      exact ⟨_, _, rfl, by rw [HC0.out]; exact HT, Lib.hid (fun g hg => by cases hg; show w.heap.size < W0.heap.size; have := HS0.out; omega), L0⟩
  case rest =>
    obtain ⟨ta, tc, rfl, HT, HOB, HW⟩ := hcut
    clear HC0 R0 L0 HS0 HPAR CO ND
    clear hW0
    go_wp2_with fail
    refine (ALL.out wc).mono ?_
    rintro e w2 ⟨u, rfl, ha, l2⟩
    have hA0 := HW.out.size
    have L2 := Lib.hid (HW.out.trans (l2.mono hA0))
    obtain ⟨gA, offA, cA, rfl, hgA, hcA⟩ := ha
    rw [hal] at hcA ⊢
    have HCA := Lib.hid hcA
    have HGA := Lib.hid hgA
    have HT2 := Lib.hid (HT.out.lo l2)
    have HOB2 := Lib.hid (fun g hg => show g < wc.heap.size ∨ w2.heap.size ≤ g from .inl (HOB.out g hg))
    have hs2 := l2.size
    clear l2 hcA hgA HT HOB ALL hal HW
    go_wp2
    go_loopw [5, 7] (fun t i wr => ∃ k : Nat, k ≤ md + 1 + p ∧ i = .int .i64 k ∧ Hid (OwnTabR wr w.heap.size t (hcL K o (k - (md + 1)))) ∧ Hid (∀ g, t.ownBlock = some g → g < wc.heap.size ∨ w2.heap.size ≤ g) ∧ Hid (Keeps wc.heap.size w2.heap.size w2 wr) ∧ Hid (Below w.heap.size w wr)) (fun _ i _ => md + 2 + p - (intOf i).toNat)
    case atStart => exact ⟨0, Nat.zero_le _, rfl, by rw [Nat.zero_sub]; exact HT2, HOB2, Lib.hid (Keeps.refl _ _ _), L2⟩
    case round =>
      obtain ⟨k, hk, rfl, HTk, HOk, HKk, HWk⟩ := hrel
      obtain ⟨wx, rfl⟩ : ∃ wx : World, wx = wr := ⟨_, rfl⟩
      clear HT2 HOB2 L2
      obtain ⟨xa, xc, hxv⟩ := HTk.out.slice
      subst hxv
      have hlen := HLEN.out (k - (md + 1))
      obtain ⟨X, hX⟩ : ∃ X, hcL K o (k - (md + 1)) = X := ⟨_, rfl⟩
      have HX := Lib.hid hX
      rw [hX] at hlen HTk HOk ⊢
      obtain ⟨L, hL⟩ : ∃ L, X.length = L := ⟨_, rfl⟩
      have HL := Lib.hid hL
      rw [hL] at hlen HTk HOk ⊢
      have HLE := Lib.hid hlen
      clear hX hL hlen
      by_cases hkE : k < md + 1 + p
      · have hkM' : k < M := by have := HME.out; omega
        have hkM : (k : Int) < (M : Int) := by omega
        have hLN : (L : Int) < (N : Int) := by have := HNO.out; have := HLE.out; omega
        obtain ⟨u, hu, hr⟩ := HCA.out k hkM'
        rw [HAT.out k hkM'] at hr
        have hr' := hr
        obtain ⟨gu, ou, cu, rfl, _, _⟩ := hr'
        rw [sgF_len] at hu hr
        have HRB := Lib.hid hr
        have hcell : wx.cell? ⟨gA, offA + k, none⟩ = some (.slice (some ⟨gu, ou, none⟩) K cu) := by rw [World.cell?_of_block (a := ⟨gA, offA + k, none⟩) (HKk.out.block gA HGA.out.1 HGA.out.2)]; exact hu
        have HIN := Lib.hid (rowB_inner HRB.out HKk.out HOk.out)
        have LDk := Lib.hid (l3Leads_any _ _ wx HIN.out.row (by rw [sgF_len]; omega))
        rw [LD.out k hkM'] at LDk
        have hgx : gA < wx.heap.size := by have := HKk.out.size; have := HGA.out.2; omega
        clear hu hr
        by_cases hmk : md < k
        · rw [decide_eq_true hmk] at LDk
          have TU := Lib.hid (fun w1 (l : Below wx.heap.size wx w1) => l3Turned_any _ _ w1 (HIN.out.row.lo l) (by rw [sgF_len]; omega) (fun j hj => sgF_sign K k j (by rw [sgF_len] at hj; exact hj)))
          obtain ⟨us, hul, hown, hrr⟩ := HTk.out
          rw [HL.out] at hown
          have OWS := Lib.hid hown
          have HRR := Lib.hid hrr
          have HUL := Lib.hid hul
          have hwx := HWk.out.size
          have hobA : (Value.slice xa L xc).ownBlock ≠ some gA := fun e => by have := HOk.out gA e; have := HGA.out; omega
          have hL40 : L ≤ 40 := by omega
          clear hown hrr hul HTk
          go_wp2_with fail
          refine LDk.out.mono ?_
          rintro e w' ⟨rfl, rfl⟩
          go_wp2
          go_region_held3 (fun w' => w'.cell? ⟨gA, offA + k, none⟩ = some (.slice (some ⟨gu, ou, none⟩) K cu))
            (first
              | exact (hl.cell (p := ⟨gA, offA + k, none⟩) hgx).trans hcell
              | go_keep
              | (rw [hgrow6.cell_far _ (by simp; have h9 : w'.heap.size ≤ w5.heap.size := hl.size; omega) (Ne.symm hobA)]; assumption))
            (first
              | (go_at_call 58; refine (TU.out _ (drewB _)).mono ?_; rintro e w5 ⟨u5, rfl, o5, hl⟩; obtain ⟨sa, sc, hus⟩ := ownI_slice o5; rw [negF_len, sgF_len] at hus; subst hus)
              | (refine step_append_lies _ (by rfl) _ _ _ (by rfl) w.heap.size 30 i1 _ 1 24 Try.underlying22 ki kz0 kz1 kz2 rfl (by omega) (.slice xa L xc) L us (by rfl) ((ownsRow_lo (w := w'.drew) OWS.out hl).alloc _) ⟨w5.heap.size, 0, none⟩ 2 2 [.slice (some ⟨gu, ou, none⟩) K cu, .slice sa K sc] (by rfl) (by rfl) (World.news_of_block (cs := #[.slice (some ⟨gu, ou, none⟩) K cu, .slice sa K sc]) (t := 30) (fr := (0, 0)) (heap_alloc_new w5 _)) (by simp [Value.oneCell']) (by omega) (by unfold maxLen; omega) (by omega) (by have h9 : w'.heap.size ≤ w5.heap.size := hl.size; simp; omega) (w5.heap.size + 1) (by simp) ?_; intro g6 cap6 w6 hown6 hgrow6 hat6 hlt6))
          have h9 : w'.heap.size ≤ w5.heap.size := hl.size
          have LWA := ((drewB w').trans hl).alloc (show w'.heap.size ≤ w5.heap.size from h9) (.cells #[.slice (some ⟨gu, ou, none⟩) K cu, .slice sa K sc] 30)
          have HN := Lib.hid (show OwnTabR w6 w.heap.size (.slice (some ⟨g6, 0, none⟩) (L + 2) cap6) (hcL K o (k + 1 - (md + 1))) by
            rw [show k + 1 - (md + 1) = (k - (md + 1)) + 1 by omega, HSUC.out, HX.out, show md + 1 + (k - (md + 1)) = k by omega]
            exact tabR_more (us := us) (nu := [.slice (some ⟨gu, ou, none⟩) K cu, .slice sa K sc]) (v := .slice xa L xc) HL.out HUL.out rfl (fun j hj => by
              obtain ⟨u, hu, hh⟩ := HRR.out j hj
              exact ⟨u, hu, hh.lo LWA⟩) (fun j hj => by
              have : j = 0 ∨ j = 1 := by simp at hj; omega
              rcases this with rfl | rfl
              · exact ⟨_, rfl, HIN.out.lo LWA⟩
              · exact ⟨_, rfl, (innerR_own o5 (fun g hg => (OWS.out.lt g hg).2)).lo ((Below.refl _ _).alloc (Nat.le_refl _) _)⟩) hown6 hgrow6 (fun g hg => by
              have e6 : g6 = g := Option.some.inj hg
              rcases hat6 with h | h
              · exact .inl (by rw [h, e6])
              · right; simp; omega))
          have HON := Lib.hid (show ∀ g, (Value.slice (some ⟨g6, 0, none⟩) (L + 2) cap6).ownBlock = some g → g < wc.heap.size ∨ w2.heap.size ≤ g from fun g hg => by
            have e6 : g6 = g := Option.some.inj hg
            rcases hat6 with h | h
            · exact HOk.out g (by rw [h, e6])
            · right; have := HKk.out.size; omega)
          have HKN := Lib.hid (show Keeps wc.heap.size w2.heap.size w2 w6 from HKk.out.trans ⟨Nat.le_trans LWA.size hgrow6.size, fun q h1 h2 => by
            have hq : q < w'.heap.size := by have := HKk.out.size; omega
            rw [hgrow6.block q (Nat.lt_of_lt_of_le hq LWA.size) (fun e => by have := HOk.out q e.symm; omega)]
            exact LWA.block q hq⟩)
          have HWN := Lib.hid (show Below w.heap.size w w6 from (HWk.out.trans (LWA.mono hwx)).grown hgrow6 (by have := LWA.size; omega) (fun q hq => (OWS.out.lt q hq).1))
          clear hown6 hgrow6 hat6 hl o5 LWA
          go_wp2
          go_roundw
          case rel => exact ⟨k + 1, by omega, by go_num, HN, HON, HKN, HWN⟩
          case measure => simp [intOf]; omega
        · rw [decide_eq_false hmk] at LDk
          have HTn := Lib.hid (show OwnTabR wx w.heap.size (.slice xa L xc) (hcL K o (k + 1 - (md + 1))) by rw [show k + 1 - (md + 1) = k - (md + 1) by omega, HX.out]; exact HTk.out)
          go_wp2_with fail
          refine LDk.out.mono ?_
          rintro e w' ⟨rfl, rfl⟩
          go_wp2
          go_roundw
          case rel => exact ⟨k + 1, by omega, by go_num, HTn, HOk, HKk, HWk⟩
          case measure => simp [intOf]; omega
      · have hkE2 : k = md + 1 + p := by omega
        have hLN2 : L = N := by have := HNO.out; have := HLE.out; omega
        subst hLN2
        have hLN : ¬ (L : Int) < (L : Int) := by omega
        have HFIN := Lib.hid (show ∃ g5 c5, Value.slice xa L xc = .slice (some ⟨g5, 0, none⟩) L c5 ∧ (g5 < wx.heap.size ∧ ∀ c, c < L → ∃ u, wx.cell? ⟨g5, c, none⟩ = some u ∧ IntRow wx u ((hcL K o p).getD c [])) from by
          obtain ⟨g5, c5, e5, h5, h6⟩ := HTk.out.open (by rw [HL.out]; omega)
          rw [HL.out] at e5 h6
          refine ⟨g5, c5, e5, h5, fun c hc => ?_⟩
          have hXp : X = hcL K o p := by rw [← HX.out, hkE2, show md + 1 + p - (md + 1) = p by omega]
          rw [← hXp]
          exact h6 c hc)
        obtain ⟨g5, c5, e5, h5⟩ := HFIN.out
        have H5 := Lib.hid h5
        cases e5
        clear HFIN h5 HTk HOk
        have CELL := Lib.hid (show ∀ c, c < L → ∃ gr ofr cr, wx.cell? ⟨g5, c, none⟩ = some (.slice (some ⟨gr, ofr, none⟩) K cr) ∧ gr < wx.heap.size ∧ ∀ i, i < K → wx.cell? ⟨gr, ofr + i, none⟩ = some (.int .i64 (cd c i)) from fun c hc => by
          obtain ⟨u, hu, a, cc, rfl, hr⟩ := H5.out.2 c hc
          rw [HROW.out c hc] at hu
          have hrow := HROW.out c hc
          rcases hr with hr | ⟨gr, ofr, rfl, hgr, hr⟩
          · rw [hr] at hrow; simp at hrow; omega
          · exact ⟨gr, ofr, cc, hu, hgr, fun i hi => by rw [hr i (by omega), HCODE.out c i hc hi]⟩)
        have T0 := Lib.hid (show OwnTabR (wx.alloc (.cells #[] 30)) wx.heap.size (.slice (some ⟨wx.heap.size, 0, none⟩) 0 0) (gridL 0 L (fun j c => cd c j)) from ⟨[], rfl, World.ownsRow_lit wx #[] 0 (Nat.le_refl _) (by decide) rfl, fun j hj => by simp [gridL] at hj⟩)
        have B0 := Lib.hid ((Below.refl wx.heap.size wx).alloc (Nat.le_refl _) (.cells #[] 30))
        by_cases hkM : (k : Int) < (M : Int)
        · go_wp2
          go_loopw [8, 9] (fun t i wr => ∃ k2 : Nat, k2 ≤ K ∧ i = .int .i64 k2 ∧ Hid (OwnTabR wr wx.heap.size t (gridL k2 L (fun j c => cd c j))) ∧ Hid (Below wx.heap.size wx wr)) (fun _ i _ => K - (intOf i).toNat)
          case atStart => exact ⟨0, Nat.zero_le _, rfl, T0, B0⟩
          case round =>
            obtain ⟨k2, hk2, rfl, HT2, HW2⟩ := hrel
            obtain ⟨wy, rfl⟩ : ∃ wy : World, wy = wr := ⟨_, rfl⟩
            clear T0 B0
            by_cases hlt2 : k2 < K
            · have hlt2' : (k2 : Int) < (K : Int) := by omega
              have RI0 := Lib.hid (show (wy.alloc (.cells #[] 3)).ownsRow wy.heap.size 3 1 (.slice (some ⟨wy.heap.size, 0, none⟩) 0 0) 0 (icells ((List.range 0).map (fun c => cd c k2))) from World.ownsRow_lit wy #[] 0 (Nat.le_refl _) (by decide) rfl)
              have BI0 := Lib.hid ((Below.refl wy.heap.size wy).alloc (Nat.le_refl _) (.cells #[] 3))
              go_wp2
              go_loopw [10, 11] (fun u i ws => ∃ m : Nat, m ≤ L ∧ i = .int .i64 m ∧ Hid (ws.ownsRow wy.heap.size 3 1 u m (icells ((List.range m).map (fun c => cd c k2)))) ∧ Hid (Below wy.heap.size wy ws)) (fun _ i _ => L - (intOf i).toNat)
              case atStart => exact ⟨0, Nat.zero_le _, rfl, RI0, BI0⟩
              case round =>
                obtain ⟨m, hm, rfl, HRo, HWo⟩ := hrel
                obtain ⟨wz, rfl⟩ : ∃ wz : World, wz = wr := ⟨_, rfl⟩
                clear RI0 BI0
                by_cases hml : m < L
                · have hml' : (m : Int) < (L : Int) := by omega
                  obtain ⟨gr, ofr, cr, hc1, hgr, hc2⟩ := CELL.out m hml
                  have LZ := HW2.out.trans (HWo.out.mono HW2.out.size)
                  have e1 : wz.cell? ⟨g5, m, none⟩ = some (.slice (some ⟨gr, ofr, none⟩) K cr) := by rw [LZ.cell (p := ⟨g5, m, none⟩) H5.out.1]; exact hc1
                  have e2 : wz.cell? ⟨gr, ofr + k2, none⟩ = some (.int .i64 (cd m k2)) := by rw [LZ.cell (p := ⟨gr, ofr + k2, none⟩) hgr]; exact hc2 k2 hlt2
                  have HSN := Lib.hid (show icells ((List.range (m + 1)).map (fun c => cd c k2)) = icells ((List.range m).map (fun c => cd c k2)) ++ [.int .i64 (cd m k2)] by rw [range_snoc]; unfold icells; rw [List.map_append]; rfl)
                  have HOW := Lib.hid HRo.out
                  have hwz := HWo.out.size
                  generalize cd m k2 = x at e2 HSN
                  clear hc1 hc2 LZ
                  go_wp2_with (at_builtin; refine wpList_append_own_at _ rfl _ _ 30 rfl wy.heap.size 3 i0 (.int .i64 0) 1 8 Try.underlying30 hi hz0 hz1 hz2 rfl (by decide) _ _ _ rfl (HOW.out.alloc _) ⟨wz.heap.size, 0, none⟩ 1 1 [.int .i64 x] rfl rfl (cell_one_new _ _ _) (fun x hx => by simp at hx; subst hx; rfl) (by unfold maxLen; omega) (by omega) (by simp; omega) ?_; intro v7 w7 hown7 hgrow7 hnil7 hloc7)
                  have HN := Lib.hid (show w7.ownsRow wy.heap.size 3 1 v7 (m + 1) (icells ((List.range (m + 1)).map (fun c => cd c k2))) by rw [HSN.out]; exact hown7)
                  have HB := Lib.hid (show Below wy.heap.size wy w7 from (HWo.out.alloc (by omega) _).grown hgrow7 (by simp; omega) (fun q hq => (HOW.out.lt q hq).1))
                  clear hown7 hgrow7 hnil7 hloc7
                  go_wp2
                  go_roundw
                  case rel => exact ⟨m + 1, by omega, by go_num, HN, HB⟩
                  case measure => simp [intOf]; omega
                · obtain rfl : m = L := by omega
                  have hge : ¬ (m : Int) < (m : Int) := by omega
                  have OI := Lib.hid (show OwnI wz wy.heap.size u10 ((List.range m).map (fun c => cd c k2)) by unfold OwnI; rw [List.length_map, List.length_range]; exact HRo.out)
                  obtain ⟨ya, yc, hyv⟩ := own_slice HRo.out
                  subst hyv
                  obtain ⟨us2, hul2, hown2, hrr2⟩ := HT2.out
                  rw [gridL_len] at hown2 hul2
                  have OW2 := Lib.hid (ownsRow_lo hown2 HWo.out)
                  have HRR2 := Lib.hid (show ∀ j, j < (gridL k2 m (fun j c => cd c j)).length → ∃ u, us2[j]? = some u ∧ InnerR wz u8.ownBlock u ((gridL k2 m (fun j c => cd c j)).getD j []) from fun j hj => by
                    obtain ⟨u, hu, hh⟩ := hrr2 j hj
                    exact ⟨u, hu, hh.lo HWo.out⟩)
                  have HUL2 := Lib.hid hul2
                  have HOB8 := Lib.hid (show ∀ g, u8.ownBlock = some g → wx.heap.size ≤ g ∧ g < wy.heap.size from fun g hg => hown2.lt g hg)
                  have hwz := HWo.out.size
                  have hwy := HW2.out.size
                  have HGL := Lib.hid (gridL_snoc k2 m (fun j c => cd c j))
                  have HGN := Lib.hid (gridL_len k2 m (fun j c => cd c j))
                  clear hown2 hrr2 hul2 HT2 HRo
                  go_wp2_with (at_builtin; refine wpList_append_own_at _ rfl _ _ 22 rfl wx.heap.size 30 i1 (.slice none 0 0) 1 24 Try.underlying22 ki kz0 kz1 kz2 rfl (by decide) u8 k2 us2 rfl (OW2.out.alloc _) ⟨wz.heap.size, 0, none⟩ 1 1 [.slice ya m yc] rfl rfl (cell_one_new _ _ _) (fun x hx => by simp at hx; subst hx; rfl) (by unfold maxLen; omega) (by omega) (by simp; omega) ?_; intro v9 w9 hown9 hgrow9 hnil9 hloc9)
                  have AL := (Below.refl wz.heap.size wz).alloc (Nat.le_refl _) (.cells #[.slice ya m yc] 30)
                  have HN := Lib.hid (show OwnTabR w9 wx.heap.size v9 (gridL (k2 + 1) m (fun j c => cd c j)) by
                    rw [HGL.out]
                    exact tabR_more (us := us2) (nu := [.slice ya m yc]) (v := u8) HGN.out (by rw [HUL2.out, HGN.out]) rfl (fun j hj => by
                      obtain ⟨u, hu, hh⟩ := HRR2.out j hj
                      exact ⟨u, hu, hh.lo AL⟩) (fun j hj => by
                      obtain rfl : j = 0 := by simpa using hj
                      exact ⟨_, rfl, (innerR_own OI.out (fun g hg => (HOB8.out g hg).2)).lo AL⟩) hown9 hgrow9 (fun g hg => by
                      rcases hloc9 with e | e
                      · exact .inl (by rw [← e]; exact hg)
                      · rw [e] at hg; cases hg; exact .inr (Nat.le_refl _)))
                  have HB := Lib.hid (show Below wx.heap.size wx w9 from ((HW2.out.trans (HWo.out.mono hwy)).alloc (by omega) _).grown hgrow9 (by simp; omega) (fun q hq => (HOB8.out q hq).1))
                  clear hown9 hgrow9 hnil9 hloc9 AL OW2 HRR2 HUL2 HOB8
                  go_wp2
                  go_roundw
                  case rel => exact ⟨k2 + 1, by omega, by go_num, HN, HB⟩
                  case measure => simp [intOf]; omega
            · obtain rfl : k2 = K := by omega
              have hge : ¬ (k2 : Int) < (k2 : Int) := by omega
              have HRES := Lib.hid (show TabRow wy u8 (gridL k2 L (fun j c => cd c j)) from by
                obtain ⟨g8, c8, e8, h8, h9⟩ := HT2.out.open (by rw [gridL_len]; omega)
                exact ⟨_, c8, e8, .inr ⟨g8, 0, rfl, h8, fun j hj => by rw [Nat.zero_add]; exact h9 j hj⟩⟩)
              have HBB := Lib.hid (HWk.out.trans (HW2.out.mono HWk.out.size))
              go_wp2
              go_ret2
              exact ⟨_, rfl, HRES.out, HBB.out⟩
        · go_wp2
          go_loopw [8, 9] (fun t i wr => ∃ k2 : Nat, k2 ≤ K ∧ i = .int .i64 k2 ∧ Hid (OwnTabR wr wx.heap.size t (gridL k2 L (fun j c => cd c j))) ∧ Hid (Below wx.heap.size wx wr)) (fun _ i _ => K - (intOf i).toNat)
          case atStart => exact ⟨0, Nat.zero_le _, rfl, T0, B0⟩
          case round =>
            obtain ⟨k2, hk2, rfl, HT2, HW2⟩ := hrel
            obtain ⟨wy, rfl⟩ : ∃ wy : World, wy = wr := ⟨_, rfl⟩
            clear T0 B0
            by_cases hlt2 : k2 < K
            · have hlt2' : (k2 : Int) < (K : Int) := by omega
              have RI0 := Lib.hid (show (wy.alloc (.cells #[] 3)).ownsRow wy.heap.size 3 1 (.slice (some ⟨wy.heap.size, 0, none⟩) 0 0) 0 (icells ((List.range 0).map (fun c => cd c k2))) from World.ownsRow_lit wy #[] 0 (Nat.le_refl _) (by decide) rfl)
              have BI0 := Lib.hid ((Below.refl wy.heap.size wy).alloc (Nat.le_refl _) (.cells #[] 3))
              go_wp2
              go_loopw [10, 11] (fun u i ws => ∃ m : Nat, m ≤ L ∧ i = .int .i64 m ∧ Hid (ws.ownsRow wy.heap.size 3 1 u m (icells ((List.range m).map (fun c => cd c k2)))) ∧ Hid (Below wy.heap.size wy ws)) (fun _ i _ => L - (intOf i).toNat)
              case atStart => exact ⟨0, Nat.zero_le _, rfl, RI0, BI0⟩
              case round =>
                obtain ⟨m, hm, rfl, HRo, HWo⟩ := hrel
                obtain ⟨wz, rfl⟩ : ∃ wz : World, wz = wr := ⟨_, rfl⟩
                clear RI0 BI0
                by_cases hml : m < L
                · have hml' : (m : Int) < (L : Int) := by omega
                  obtain ⟨gr, ofr, cr, hc1, hgr, hc2⟩ := CELL.out m hml
                  have LZ := HW2.out.trans (HWo.out.mono HW2.out.size)
                  have e1 : wz.cell? ⟨g5, m, none⟩ = some (.slice (some ⟨gr, ofr, none⟩) K cr) := by rw [LZ.cell (p := ⟨g5, m, none⟩) H5.out.1]; exact hc1
                  have e2 : wz.cell? ⟨gr, ofr + k2, none⟩ = some (.int .i64 (cd m k2)) := by rw [LZ.cell (p := ⟨gr, ofr + k2, none⟩) hgr]; exact hc2 k2 hlt2
                  have HSN := Lib.hid (show icells ((List.range (m + 1)).map (fun c => cd c k2)) = icells ((List.range m).map (fun c => cd c k2)) ++ [.int .i64 (cd m k2)] by rw [range_snoc]; unfold icells; rw [List.map_append]; rfl)
                  have HOW := Lib.hid HRo.out
                  have hwz := HWo.out.size
                  generalize cd m k2 = x at e2 HSN
                  clear hc1 hc2 LZ
                  go_wp2_with (at_builtin; refine wpList_append_own_at _ rfl _ _ 30 rfl wy.heap.size 3 i0 (.int .i64 0) 1 8 Try.underlying30 hi hz0 hz1 hz2 rfl (by decide) _ _ _ rfl (HOW.out.alloc _) ⟨wz.heap.size, 0, none⟩ 1 1 [.int .i64 x] rfl rfl (cell_one_new _ _ _) (fun x hx => by simp at hx; subst hx; rfl) (by unfold maxLen; omega) (by omega) (by simp; omega) ?_; intro v7 w7 hown7 hgrow7 hnil7 hloc7)
                  have HN := Lib.hid (show w7.ownsRow wy.heap.size 3 1 v7 (m + 1) (icells ((List.range (m + 1)).map (fun c => cd c k2))) by rw [HSN.out]; exact hown7)
                  have HB := Lib.hid (show Below wy.heap.size wy w7 from (HWo.out.alloc (by omega) _).grown hgrow7 (by simp; omega) (fun q hq => (HOW.out.lt q hq).1))
                  clear hown7 hgrow7 hnil7 hloc7
                  go_wp2
                  go_roundw
                  case rel => exact ⟨m + 1, by omega, by go_num, HN, HB⟩
                  case measure => simp [intOf]; omega
                · obtain rfl : m = L := by omega
                  have hge : ¬ (m : Int) < (m : Int) := by omega
                  have OI := Lib.hid (show OwnI wz wy.heap.size u10 ((List.range m).map (fun c => cd c k2)) by unfold OwnI; rw [List.length_map, List.length_range]; exact HRo.out)
                  obtain ⟨ya, yc, hyv⟩ := own_slice HRo.out
                  subst hyv
                  obtain ⟨us2, hul2, hown2, hrr2⟩ := HT2.out
                  rw [gridL_len] at hown2 hul2
                  have OW2 := Lib.hid (ownsRow_lo hown2 HWo.out)
                  have HRR2 := Lib.hid (show ∀ j, j < (gridL k2 m (fun j c => cd c j)).length → ∃ u, us2[j]? = some u ∧ InnerR wz u8.ownBlock u ((gridL k2 m (fun j c => cd c j)).getD j []) from fun j hj => by
                    obtain ⟨u, hu, hh⟩ := hrr2 j hj
                    exact ⟨u, hu, hh.lo HWo.out⟩)
                  have HUL2 := Lib.hid hul2
                  have HOB8 := Lib.hid (show ∀ g, u8.ownBlock = some g → wx.heap.size ≤ g ∧ g < wy.heap.size from fun g hg => hown2.lt g hg)
                  have hwz := HWo.out.size
                  have hwy := HW2.out.size
                  have HGL := Lib.hid (gridL_snoc k2 m (fun j c => cd c j))
                  have HGN := Lib.hid (gridL_len k2 m (fun j c => cd c j))
                  clear hown2 hrr2 hul2 HT2 HRo
                  go_wp2_with (at_builtin; refine wpList_append_own_at _ rfl _ _ 22 rfl wx.heap.size 30 i1 (.slice none 0 0) 1 24 Try.underlying22 ki kz0 kz1 kz2 rfl (by decide) u8 k2 us2 rfl (OW2.out.alloc _) ⟨wz.heap.size, 0, none⟩ 1 1 [.slice ya m yc] rfl rfl (cell_one_new _ _ _) (fun x hx => by simp at hx; subst hx; rfl) (by unfold maxLen; omega) (by omega) (by simp; omega) ?_; intro v9 w9 hown9 hgrow9 hnil9 hloc9)
                  have AL := (Below.refl wz.heap.size wz).alloc (Nat.le_refl _) (.cells #[.slice ya m yc] 30)
                  have HN := Lib.hid (show OwnTabR w9 wx.heap.size v9 (gridL (k2 + 1) m (fun j c => cd c j)) by
                    rw [HGL.out]
                    exact tabR_more (us := us2) (nu := [.slice ya m yc]) (v := u8) HGN.out (by rw [HUL2.out, HGN.out]) rfl (fun j hj => by
                      obtain ⟨u, hu, hh⟩ := HRR2.out j hj
                      exact ⟨u, hu, hh.lo AL⟩) (fun j hj => by
                      obtain rfl : j = 0 := by simpa using hj
                      exact ⟨_, rfl, (innerR_own OI.out (fun g hg => (HOB8.out g hg).2)).lo AL⟩) hown9 hgrow9 (fun g hg => by
                      rcases hloc9 with e | e
                      · exact .inl (by rw [← e]; exact hg)
                      · rw [e] at hg; cases hg; exact .inr (Nat.le_refl _)))
                  have HB := Lib.hid (show Below wx.heap.size wx w9 from ((HW2.out.trans (HWo.out.mono hwy)).alloc (by omega) _).grown hgrow9 (by simp; omega) (fun q hq => (HOB8.out q hq).1))
                  clear hown9 hgrow9 hnil9 hloc9 AL OW2 HRR2 HUL2 HOB8
                  go_wp2
                  go_roundw
                  case rel => exact ⟨k2 + 1, by omega, by go_num, HN, HB⟩
                  case measure => simp [intOf]; omega
            · obtain rfl : k2 = K := by omega
              have hge : ¬ (k2 : Int) < (k2 : Int) := by omega
              have HRES := Lib.hid (show TabRow wy u8 (gridL k2 L (fun j c => cd c j)) from by
                obtain ⟨g8, c8, e8, h8, h9⟩ := HT2.out.open (by rw [gridL_len]; omega)
                exact ⟨_, c8, e8, .inr ⟨g8, 0, rfl, h8, fun j hj => by rw [Nat.zero_add]; exact h9 j hj⟩⟩)
              have HBB := Lib.hid (HWk.out.trans (HW2.out.mono HWk.out.size))
              go_wp2
              go_ret2
              exact ⟨_, rfl, HRES.out, HBB.out⟩
set_option maxRecDepth 100000 in
theorem specHeavy_no (n : Int) (hn : coinsB n = false) (w : World) :
    Calls Try.prog 6 #[.int .i64 n] w fun e w' => ∃ u, e = .returned (.tuple #[u, .bool false]) ∧ TabRow w' u [] ∧ Below w.heap.size w w' := by
  have CO := Lib.hid (fun w => l3Coins_is n false hn w)
  have L0 := Lib.hid ((Below.refl w.heap.size w).alloc (Nat.le_refl _) (.cells #[] 30))
  clear hn
  go_enter Try.func6, Try.ntmps6
  go_wp2_with fail
  refine (CO.out _).mono ?_
  rintro e w' ⟨rfl, rfl⟩
  go_wp2
  go_ret2
  exact ⟨_, rfl, ⟨_, _, rfl, .inl rfl⟩, L0.out⟩
theorem heavyPlan_spec (n : Int) (w : World) :
    Calls Try.prog 6 #[.int .i64 n] w fun e w' => ∃ u, e = .returned (.tuple #[u, .bool (coinsB n)]) ∧ TabRow w' u (heavyL n) ∧ Below w.heap.size w w' := by
  unfold heavyL
  cases hc : coinsB n with
  | false => simpa using specHeavy_no n hc w
  | true =>
    obtain ⟨N, rfl⟩ : ∃ N : Nat, n = N := ⟨n.toNat, by unfold coinsB at hc; simp at hc; omega⟩
    rw [if_pos rfl, Int.toNat_natCast]
    exact specHeavy_yes N hc w
theorem cntT_rows (n : Nat) : ∀ l : List (List Int), (∀ x ∈ l, x.length = n) → cntT l = l.length * n := by
  intro l
  induction l with
  | nil => intro _; simp [cntT]
  | cons x l ih =>
    intro h
    rw [cntT, ih (fun y hy => h y (List.mem_cons_of_mem _ hy)), h x (List.mem_cons_self ..), List.length_cons, Nat.add_mul, Nat.one_mul, Nat.add_comm]
theorem heavyL_small (n : Int) : SmallT (heavyL n) := by
  unfold heavyL
  split
  · rename_i h
    have hN : n.toNat ≤ 40 := by unfold coinsB at h; simp at h; omega
    have hk := needed_short n
    have hc := cntT_rows n.toNat (gridL (needF n) n.toNat (fun j c => codeAt n.toNat (needF n) c j)) (fun x hx => by
      unfold gridL at hx
      obtain ⟨j, _, rfl⟩ := List.mem_map.1 hx
      simp)
    have hm : needF n * n.toNat ≤ 4 * 40 := Nat.mul_le_mul hk hN
    rw [gridL_len] at hc
    exact ⟨by rw [gridL_len]; omega, by rw [hc]; omega⟩
  · exact ⟨by simp, by simp [cntT]⟩
end Go.Proofs.Ytgdgiecajflmaab
