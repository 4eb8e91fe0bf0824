/- The model's list of all lists of signs, and where it lies. -/
import Derived.Test.YtgdgiecajflmaabAll
namespace Go.Proofs.Ytgdgiecajflmaab
open Go.RowKit
/-- A row of its own memory at or behind block L. -/
def RowB (L : Nat) (w : World) (u : Value) (xs : List Int) : Prop :=
  ∃ g off c, u = .slice (some ⟨g, off, none⟩) xs.length c ∧ (L ≤ g ∧ g < w.heap.size) ∧ ∀ j, j < xs.length → w.cell? ⟨g, off + j, none⟩ = some (.int .i64 (xs.getD j 0))
theorem RowB.s {L : Nat} {w : World} {u : Value} {xs : List Int} (h : RowB L w u xs) : RowS w u xs := by
  obtain ⟨g, off, c, e, h1, h2⟩ := h
  exact ⟨g, off, c, e, h1.2, h2⟩
/-- What lies in blocks A .. E - 1 is as it was. -/
structure Keeps (A E : Nat) (w w' : World) : Prop where
  size : w.heap.size ≤ w'.heap.size
  block : ∀ k, A ≤ k → k < E → w'.heap[k]? = w.heap[k]?
theorem Keeps.refl (A E : Nat) (w : World) : Keeps A E w w := ⟨Nat.le_refl _, fun _ _ _ => rfl⟩
theorem Keeps.trans {A E : Nat} {a b c : World} (h : Keeps A E a b) (k : Keeps A E b c) : Keeps A E a c := ⟨Nat.le_trans h.size k.size, fun q h1 h2 => (k.block q h1 h2).trans (h.block q h1 h2)⟩
theorem Keeps.of_lo {A E : Nat} {a b : World} (h : Below a.heap.size a b) (hE : E ≤ a.heap.size) : Keeps A E a b := ⟨h.size, fun q _ h2 => h.block q (by omega)⟩
theorem RowB.lo {L : Nat} {w w' : World} {u : Value} {xs : List Int} (h : RowB L w u xs) (l : Below w.heap.size w w') : RowB L w' u xs := by
  obtain ⟨g, off, c, e, h1, h2⟩ := h
  exact ⟨g, off, c, e, ⟨h1.1, Nat.lt_of_lt_of_le h1.2 l.size⟩, fun j hj => by rw [l.cell (p := ⟨g, off + j, none⟩) h1.2]; exact h2 j hj⟩
/-- A table of such rows. -/
def TabB (L : Nat) (w : World) (v : Value) (xss : List (List Int)) : Prop :=
  ∃ g off c, v = .slice (some ⟨g, off, none⟩) xss.length c ∧ (L ≤ g ∧ g < w.heap.size) ∧ ∀ j, j < xss.length → ∃ u, w.cell? ⟨g, off + j, none⟩ = some u ∧ RowB L w u (xss.getD j [])
theorem TabB.lo {L : Nat} {w w' : World} {v : Value} {xss : List (List Int)} (h : TabB L w v xss) (l : Below w.heap.size w w') : TabB L w' v xss := by
  obtain ⟨g, off, c, e, h1, h2⟩ := h
  exact ⟨g, off, c, e, ⟨h1.1, Nat.lt_of_lt_of_le h1.2 l.size⟩, fun j hj => by
    obtain ⟨u, hu, hr⟩ := h2 j hj
    exact ⟨u, by rw [l.cell (p := ⟨g, off + j, none⟩) h1.2]; exact hu, hr.lo l⟩⟩
/-- A row of a table reads so, and does not lie in the table's own block. -/
def InnerB (L : Nat) (w : World) (ob : Option Nat) (u : Value) (xs : List Int) : Prop :=
  ∃ g off c, u = .slice (some ⟨g, off, none⟩) xs.length c ∧ (L ≤ g ∧ g < w.heap.size) ∧ some g ≠ ob ∧ ∀ j, j < xs.length → w.cell? ⟨g, off + j, none⟩ = some (.int .i64 (xs.getD j 0))
theorem InnerB.row {L : Nat} {w : World} {ob : Option Nat} {u : Value} {xs : List Int} (h : InnerB L w ob u xs) : RowB L w u xs := by
  obtain ⟨g, off, c, e, h1, _, h2⟩ := h
  exact ⟨g, off, c, e, h1, h2⟩
/-- Behind an append to the table: its rows are as they were. -/
theorem InnerB.grown {L : Nat} {w w' : World} {ob ob' : Option Nat} {u : Value} {xs : List Int} (h : InnerB L w ob u xs) (hg : w.grownBy w' ob) (ho : ∀ g, ob' = some g → ob = some g ∨ w.heap.size ≤ g) : InnerB L w' ob' u xs := by
  obtain ⟨g, off, c, e, h2, h3, h4⟩ := h
  refine ⟨g, off, c, e, ⟨h2.1, Nat.lt_of_lt_of_le h2.2 hg.size⟩, fun hh => ?_, fun j hj => ?_⟩
  · rcases ho g hh.symm with e1 | e1
    · exact h3 e1.symm
    · have := h2.2; omega
  · rw [World.cell?_of_block (hg.block g h2.2 h3)]; exact h4 j hj
theorem InnerB.lo {L : Nat} {w w' : World} {ob : Option Nat} {u : Value} {xs : List Int} (h : InnerB L w ob u xs) (l : Below w.heap.size w w') : InnerB L w' ob u xs := by
  obtain ⟨g, off, c, e, h2, h3, h4⟩ := h
  exact ⟨g, off, c, e, ⟨h2.1, Nat.lt_of_lt_of_le h2.2 l.size⟩, h3, fun j hj => by rw [l.cell (p := ⟨g, off + j, none⟩) h2.2]; exact h4 j hj⟩
/-- A table of rows in memory of the call's own. -/
def OwnTabB (L : Nat) (w : World) (B : Nat) (v : Value) (xss : List (List Int)) : Prop :=
  ∃ us : List Value, us.length = xss.length ∧ w.ownsRow B 30 1 v xss.length us ∧ v ≠ .slice none 0 0 ∧ ∀ j, j < xss.length → ∃ u, us[j]? = some u ∧ InnerB L w v.ownBlock u (xss.getD j [])
theorem OwnTabB.tab {L : Nat} {w : World} {B : Nat} {v : Value} {xss : List (List Int)} (h : OwnTabB L w B v xss) (hL : L ≤ B) : TabB L w v xss := by
  obtain ⟨us, hl, hown, hnn, hr⟩ := h
  have hown' := hown
  rcases hown.2 with ⟨rfl, h0⟩ | ⟨g, cap, cur, rfl, hgB, hb, _⟩
  · exact absurd rfl hnn
  · refine ⟨g, 0, cap, rfl, ⟨Nat.le_trans hL hgB, (Array.getElem?_eq_some_iff.1 hb).1⟩, fun j hj => ?_⟩
    obtain ⟨u, hu, hi⟩ := hr j hj
    exact ⟨u, by rw [Nat.zero_add, hown'.cellAt j (by omega)]; exact hu, hi.row⟩
theorem OwnTabB.lo {L : Nat} {w w' : World} {B : Nat} {v : Value} {xss : List (List Int)} (h : OwnTabB L w B v xss) (l : Below w.heap.size w w') : OwnTabB L w' B v xss := by
  obtain ⟨us, hl, hown, hnn, hr⟩ := h
  refine ⟨us, hl, ⟨hown.1, ?_⟩, hnn, fun j hj => ?_⟩
  · rcases hown.2 with h | ⟨g, cap, cur, e, hb, hg, r⟩
    · exact .inl h
    · exact .inr ⟨g, cap, cur, e, hb, (l.block g (Array.getElem?_eq_some_iff.1 hg).1).trans hg, r⟩
  · obtain ⟨u, hu, hi⟩ := hr j hj
    exact ⟨u, hu, hi.lo l⟩
/-- One more row. -/
theorem ownTabB_snoc {L : Nat} {w w1 : World} {B k : Nat} {v v' u : Value} {xss : List (List Int)} {xs : List Int} {us : List Value} (hl : us.length = xss.length) (hk : xss.length = k) (hown : w1.ownsRow B 30 1 v' (k + 1) (us ++ [u]))
    (hg : w.grownBy w1 v.ownBlock) (hob : ∀ g, v'.ownBlock = some g → v.ownBlock = some g ∨ w.heap.size ≤ g) (hr : ∀ j, j < xss.length → ∃ u, us[j]? = some u ∧ InnerB L w v.ownBlock u (xss.getD j [])) (hu : InnerB L w v.ownBlock u xs) : OwnTabB L w1 B v' (xss ++ [xs]) := by
  have hnn : v' ≠ .slice none 0 0 := fun e => by
    subst e
    rcases hown.2 with ⟨_, h⟩ | ⟨g, cap, cur, h, _⟩
    · omega
    · cases h
  refine ⟨us ++ [u], by rw [List.length_append, List.length_append, hl]; rfl, by rw [List.length_append, hk]; exact hown, hnn, fun j hj => ?_⟩
  rw [List.length_append] at hj
  simp only [List.length_cons, List.length_nil] at hj
  by_cases e : j < xss.length
  · obtain ⟨y, hy, hi⟩ := hr j e
    refine ⟨y, by rw [List.getElem?_append_left (by omega)]; exact hy, ?_⟩
    have : (xss ++ [xs]).getD j [] = xss.getD j [] := by simp only [List.getD]; rw [List.getElem?_append_left e]
    rw [this]
    exact hi.grown hg hob
  · obtain rfl : j = xss.length := by omega
    refine ⟨u, by rw [List.getElem?_append_right (by omega), hl, Nat.sub_self]; rfl, ?_⟩
    have : (xss ++ [xs]).getD xss.length [] = xs := by simp only [List.getD]; rw [List.getElem?_append_right (Nat.le_refl _), Nat.sub_self]; rfl
    rw [this]
    exact hu.grown hg hob
theorem TabB.s {L : Nat} {w : World} {v : Value} {xss : List (List Int)} (h : TabB L w v xss) : TabS w v xss := by
  obtain ⟨g, off, c, e, h1, h2⟩ := h
  exact ⟨g, off, c, e, h1.2, fun j hj => by obtain ⟨u, hu, hr⟩ := h2 j hj; exact ⟨u, hu, hr.s⟩⟩
theorem TabB.keeps {L : Nat} {w w' : World} {v : Value} {xss : List (List Int)} (h : TabB L w v xss) (q : Keeps L w.heap.size w w') : TabB L w' v xss := by
  obtain ⟨g, off, c, e, h1, h2⟩ := h
  refine ⟨g, off, c, e, ⟨h1.1, Nat.lt_of_lt_of_le h1.2 q.size⟩, fun j hj => ?_⟩
  obtain ⟨u, hu, g', off', c', e', h1', h2'⟩ := h2 j hj
  exact ⟨u, by rw [World.cell?_of_block (a := ⟨g, off + j, none⟩) (q.block g h1.1 h1.2)]; exact hu, g', off', c', e', ⟨h1'.1, Nat.lt_of_lt_of_le h1'.2 q.size⟩, fun j hj => by rw [World.cell?_of_block (a := ⟨g', off' + j, none⟩) (q.block g' h1'.1 h1'.2)]; exact h2' j hj⟩
theorem ownI_innerB {L : Nat} {w : World} {B : Nat} {ob : Option Nat} {v : Value} {xs : List Int} (h : OwnI w B v xs) (hL : L ≤ B) (hx : 0 < xs.length) (hob : ∀ g, ob = some g → g < B) : InnerB L w ob v xs := by
  unfold OwnI at h
  have h' := h
  rcases h.2 with ⟨_, h0⟩ | ⟨g, cap, cur, rfl, hb, hg, _⟩
  · omega
  · refine ⟨g, 0, cap, rfl, ⟨Nat.le_trans hL hb, (Array.getElem?_eq_some_iff.1 hg).1⟩, fun e => ?_, fun j hj => ?_⟩
    · have := hob g e.symm; omega
    · rw [Nat.zero_add, h'.cellAt j (by omega)]; exact icells_at xs j hj
theorem first_tabB (w : World) : TabB w.heap.size ((w.alloc (.cells #[] 3)).alloc (.cells #[.slice (some ⟨w.heap.size, 0, none⟩) 0 0] 30)) (.slice (some ⟨w.heap.size + 1, 0, none⟩) 1 1) (someF 0 1) := by
  have hs : (w.alloc (.cells #[] 3)).heap.size = w.heap.size + 1 := by simp
  refine ⟨w.heap.size + 1, 0, 1, rfl, ⟨by omega, by simp⟩, fun j hj => ?_⟩
  have : j = 0 := by rw [someF_len] at hj; omega
  subst this
  refine ⟨.slice (some ⟨w.heap.size, 0, none⟩) 0 0, ?_, ⟨w.heap.size, 0, 0, rfl, ⟨Nat.le_refl _, by simp; omega⟩, fun j hj => ?_⟩⟩
  · rw [← hs, World.cell?_alloc_at _ _ _ _ rfl]; rfl
  · have : ((someF 0 1).getD 0 []).length = 0 := rfl
    omega
/-- Between the two appends of a round. -/
theorem all_midB {L : Nat} {wq wx w1 w2 : World} {u v1 v2 : Value} {xss : List (List Int)} {m : Nat} {xs : List Int} {sg : Int} {o : Obj} (hLx : L ≤ wx.heap.size) (HO : OwnTabB L wx wq.heap.size u xss) (L0 : Below wq.heap.size wq wx) (l1 : Below wx.heap.size wx w1) (hx : xs.length = m)
    (o1 : w1.ownsRow wx.heap.size 3 1 v1 m (icells xs)) (h2 : w2.ownsRow wx.heap.size 3 1 v2 (m + 1) (icells xs ++ [.int .i64 sg])) (hg : (w1.alloc o).grownBy w2 v1.ownBlock) (hob : ∀ g, u.ownBlock = some g → wq.heap.size ≤ g ∧ g < wx.heap.size) :
    InnerB L w2 u.ownBlock v2 (xs ++ [sg]) ∧ OwnTabB L w2 wq.heap.size u xss ∧ Below wq.heap.size wq w2 ∧ w1.heap.size + 1 ≤ w2.heap.size := by
  have L : Below wx.heap.size wx w2 := (l1.alloc l1.size o).grown hg (by have := l1.size; simp; omega) (fun j hj => (o1.lt j hj).1)
  refine ⟨ownI_innerB (ownI_snoc h2 hx) hLx (by simp) (fun g hg => (hob g hg).2), HO.lo L, L0.trans (L.mono L0.size), by have := hg.size; simpa using this⟩
set_option maxRecDepth 100000 in
set_option maxHeartbeats 6400000 in
theorem l3AllB_any (n : Nat) (hn : n ≤ 6) (w : World) :
    Calls Try.prog 56 #[.int .i64 (n : Int)] w fun e w' => ∃ u, e = .returned u ∧ TabB w.heap.size w' u (allF n) ∧ Below w.heap.size w w' := by
  obtain ⟨i0, hi, hz0, hz1, hz2⟩ := info_parts infoInt
  obtain ⟨i1, ki, kz0, kz1, kz2⟩ := info_parts infoIntS
  have F0 := Lib.hid (first_tabB w)
  go_enter Try.func56, Try.ntmps56
  go_wp2
  go_loopw [3, 4] (fun v i wr => ∃ m : Nat, m ≤ n ∧ i = .int .i64 m ∧ Hid (TabB w.heap.size wr v (someF m (3 ^ m))) ∧ Hid (Below w.heap.size w wr)) (fun _ i _ => n - (intOf i).toNat)
  case atStart => exact ⟨0, Nat.zero_le _, rfl, F0, Lib.hid (((Below.refl _ _).alloc (Nat.le_refl _) _).alloc (by simp) _)⟩
  case round =>
    obtain ⟨m, hm, rfl, HT, HW⟩ := hrel
    obtain ⟨wq, rfl⟩ : ∃ wq : World, wq = wr := ⟨_, rfl⟩
    clear F0
    by_cases hlt : m < n
    · have hlt' : (m : Int) < (n : Int) := by omega
      have hp := pow3_le m (by omega)
      have ht := HT.out
      obtain ⟨g, off, c, rfl, hg, hc⟩ := ht
      rw [someF_len] at hc ⊢
      have HC := Lib.hid hc
      obtain ⟨M, hM⟩ : ∃ M, 3 ^ m = M := ⟨_, rfl⟩
      rw [hM] at hp HC ⊢
      have HMM := Lib.hid hM
      have hrow0 : OwnTabB w.heap.size (wq.alloc (.cells #[] 30)) wq.heap.size (.slice (some ⟨wq.heap.size, 0, none⟩) 0 0) (someF (m + 1) 0) := ⟨[], rfl, World.ownsRow_lit wq #[] 0 (Nat.le_refl _) (by decide) rfl, by simp, fun j hj => by rw [someF_len] at hj; omega⟩
      have R0 := Lib.hid hrow0
      have L0 := Lib.hid ((Below.refl wq.heap.size wq).alloc (Nat.le_refl _) (.cells #[] 30))
      clear hc hM hrow0 HT
      go_wp2
      go_loopw [5, 6] (fun u i ws => ∃ k : Nat, k ≤ M ∧ i = .int .i64 k ∧ Hid (OwnTabB w.heap.size ws wq.heap.size u (someF (m + 1) (k * 3))) ∧ Hid (Below wq.heap.size wq ws)) (fun _ i _ => M - (intOf i).toNat)
      case atStart => exact ⟨0, Nat.zero_le _, rfl, R0, L0⟩
      case round =>
        obtain ⟨k, hk, rfl, HO, HL⟩ := hrel
        obtain ⟨wv, rfl⟩ : ∃ wv : World, wv = wr := ⟨_, rfl⟩
        clear R0 L0
        by_cases hkl : k < M
        · have hkl' : (k : Int) < (M : Int) := by omega
          have hcu : ∃ (gu ou cu : Nat), wq.cell? ⟨g, off + k, none⟩ = some (.slice (some ⟨gu, ou, none⟩) m cu) ∧ RowS wq (.slice (some ⟨gu, ou, none⟩) m cu) (sgF m k) := by
            obtain ⟨u, hu, hr⟩ := HC.out k hkl
            rw [someF_at _ _ _ hkl] at hr
            have hr := hr.s
            have hr0 := hr
            obtain ⟨gu, ou, cu, rfl, _⟩ := hr
            rw [sgF_len] at hu hr0
            exact ⟨gu, ou, cu, hu, hr0⟩
          obtain ⟨gu, ou, cu, hcu, hru⟩ := hcu
          have HRU := Lib.hid hru
          have HCU := Lib.hid hcu
          clear hru hcu
          go_wp2
          go_loopw [5, 7] (fun u i ws => ∃ s : Nat, s ≤ 3 ∧ i = .int .i64 ((s : Int) - 1) ∧ Hid (OwnTabB w.heap.size ws wq.heap.size u (someF (m + 1) (k * 3 + s))) ∧ Hid (Below wq.heap.size wq ws)) (fun _ i _ => (2 - intOf i).toNat)
          case atStart => exact ⟨0, by omega, rfl, HO, HL⟩
          case round =>
            obtain ⟨s, hs, rfl, HOs, HLs⟩ := hrel
            obtain ⟨wx, rfl⟩ : ∃ wx : World, wx = wr := ⟨_, rfl⟩
            by_cases hs3 : s < 3
            · have hle : (s : Int) - 1 ≤ 1 := by omega
              have h1 : wx.cell? ⟨g, off + k, none⟩ = some (.slice (some ⟨gu, ou, none⟩) m cu) := by rw [HLs.out.cell (p := ⟨g, off + k, none⟩) hg.2]; exact HCU.out
              have OW := Lib.hid (l1Own_any _ _ wx (HRU.out.lo HLs.out) (by rw [sgF_len]; omega))
              have HCH := Lib.hid (sgF_child m k s hs3)
              have HSN := Lib.hid (someF_snoc (m + 1) (k * 3 + s))
              have HSL := Lib.hid (someF_len (m + 1) (k * 3 + s))
              have HOB := Lib.hid (show ∀ g, u5.ownBlock = some g → wq.heap.size ≤ g ∧ g < wx.heap.size from fun g hg => by
                obtain ⟨us, _, hown, _, _⟩ := HOs.out
                exact hown.lt g hg)
              have hws := HLs.out.size
              obtain ⟨sg, hsg⟩ : ∃ z : Int, (s : Int) - 1 = z := ⟨_, rfl⟩
              have sg0 : -1 ≤ sg := by omega
              have sg1 : sg ≤ 1 := by omega
              rw [hsg]
              have HSG := Lib.hid hsg
              clear hsg hle
              go_wp2_with fail
              refine OW.out.mono ?_
              rintro e w1 ⟨v1, rfl, o1, l1⟩
              have LL1 := Lib.hid l1
              have L1 := Lib.hid (HLs.out.trans (l1.mono HLs.out.size))
              have hs1 := l1.size
              unfold OwnI at o1
              rw [sgF_len] at o1
              clear l1 OW
              have hs2 : wx.heap.size ≤ w1.heap.size := hs1
              go_wp2_with (first
                | (at_builtin; refine wpList_append_own_at _ rfl _ _ 30 rfl wx.heap.size 3 i0 (.int .i64 0) 1 8 Try.underlying30 hi hz0 hz1 hz2 rfl (by decide) _ _ _ rfl (o1.alloc _) ⟨w1.heap.size, 0, none⟩ 1 1 [.int .i64 sg] rfl rfl (cell_one_new _ _ _) (fun x hx => by simp at hx; subst hx; rfl) (by unfold maxLen; omega) (by omega) (by simp; omega) ?_; intro v2 w2 hown2 hgrow2 hnil2 hloc2; obtain ⟨g2, cap2, rfl⟩ := ownsRow_one hown2; obtain ⟨hInn, hTab, hL2, hsz2⟩ := all_midB (by have := HW.out.size; have := HLs.out.size; omega) HOs.out HLs.out LL1.out (sgF_len m k) o1 hown2 hgrow2 HOB.out; obtain ⟨us, hul, hown, hnn, hrr⟩ := hTab; rw [HSL.out] at hown; clear hown2 hgrow2 hnil2 hloc2)
                | (at_builtin; refine wpList_append_own_at _ rfl _ _ 22 rfl wq.heap.size 30 i1 (.slice none 0 0) 1 24 Try.underlying22 ki kz0 kz1 kz2 rfl (by decide) _ _ _ rfl (hown.alloc _) ⟨w2.heap.size, 0, none⟩ 1 1 [.slice (some ⟨g2, 0, none⟩) (m + 1) cap2] rfl rfl (cell_one_new _ _ _) (fun x hx => by simp at hx; subst hx; rfl) (by unfold maxLen; omega) (by omega) (by simp; omega) ?_; intro v3 w3 hown3 hgrow3 hnil3 hloc3))
              have hg3 : (w2.alloc (.cells #[.slice (some ⟨g2, 0, none⟩) (m + 1) cap2] 30)).grownBy w3 u5.ownBlock := hgrow3
              have hlc : v3.ownBlock = u5.ownBlock ∨ v3.ownBlock = some (w2.alloc (.cells #[.slice (some ⟨g2, 0, none⟩) (m + 1) cap2] 30)).heap.size := hloc3
              have AL := (Below.refl w2.heap.size w2).alloc (Nat.le_refl _) (.cells #[.slice (some ⟨g2, 0, none⟩) (m + 1) cap2] 30)
              have HNN := Lib.hid (show OwnTabB w.heap.size w3 wq.heap.size v3 (someF (m + 1) (k * 3 + (s + 1))) by
                rw [show k * 3 + (s + 1) = k * 3 + s + 1 by omega, HSN.out, HCH.out, HSG.out]
                exact ownTabB_snoc (w := w2.alloc (.cells #[.slice (some ⟨g2, 0, none⟩) (m + 1) cap2] 30)) (v := u5) (us := us) hul HSL.out hown3 hg3 (fun g hg => by
                  rcases hlc with e | e
                  · exact .inl (by rw [← e]; exact hg)
                  · rw [e] at hg; cases hg; exact .inr (Nat.le_refl _)) (fun j hj => by
                  obtain ⟨u, hu, hh⟩ := hrr j hj
                  exact ⟨u, hu, hh.lo AL⟩) (hInn.lo AL))
              have HLL := Lib.hid (show Below wq.heap.size wq w3 from (hL2.alloc hL2.size _).grown hg3 (by simp; have := hL2.size; omega) (fun j hj => (HOB.out j hj).1))
              refine ⟨⟨s + 1, by omega, by rw [show sg + 1 = ((s + 1 : Nat) : Int) - 1 by have := HSG.out; omega], HNN, HLL⟩, ?_⟩
              simp [intOf]
              omega
            · obtain rfl : s = 3 := by omega
              have hge : ¬ ((3 : Nat) : Int) - 1 ≤ 1 := by omega
              have HNN := Lib.hid (show OwnTabB w.heap.size wx wq.heap.size u5 (someF (m + 1) ((k + 1) * 3)) by rw [show (k + 1) * 3 = k * 3 + 3 by omega]; exact HOs.out)
              go_wp2
              go_roundw
              case rel => exact ⟨k + 1, by omega, by go_num, HNN, HLs⟩
              case measure => simp [intOf]; omega
        · obtain rfl : k = M := by omega
          have hge : ¬ (k : Int) < (k : Int) := by omega
          have HNN := Lib.hid (show TabB w.heap.size wv u5 (someF (m + 1) (3 ^ (m + 1))) by rw [Nat.pow_succ, HMM.out]; exact HO.out.tab HW.out.size)
          have HLL := Lib.hid (HW.out.trans (HL.out.mono HW.out.size))
          go_wp2
          go_roundw
          case rel => exact ⟨m + 1, by omega, by go_num, HNN, HLL⟩
          case measure => simp [intOf]; omega
    · obtain rfl : m = n := by omega
      have hge : ¬ (m : Int) < (m : Int) := by omega
      go_wp2
      go_ret
      exact ⟨_, rfl, HT.out, HW.out⟩
end Go.Proofs.Ytgdgiecajflmaab
