/- Lists of places in memory of a call's own, tables of them, and copies of one list. -/
import Derived.Test.YtcfbnadefdcjaaaTabLaw
import Derived.Test.YtcfbnadefdcjaaaAsc
import Derived.Lib.SliceRun
import Derived.Maps.AppendAt
import Derived.Deep.RegionHeld3
import Derived.Lib.LaidTab
import Derived.Lib.SmallJoins
namespace Go.Proofs.Ytcfbnadefdcjaaa
open Go.RowKit
theorem icells_len (xs : List Int) : (icells xs).length = xs.length := by simp [icells]
theorem icells_get (xs : List Int) (j : Nat) (u : Value) (h : (icells xs)[j]? = some u) : j < xs.length ∧ u = .int .i64 (xs.getD j 0) := by
  have hl : j < (icells xs).length := (List.getElem?_eq_some_iff.1 h).1
  rw [icells_len] at hl
  rw [icells_at xs j hl] at h
  exact ⟨hl, (Option.some.inj h).symm⟩
/-- A row reads so, and is not nil. -/
def RowS (w : World) (u : Value) (xs : List Int) : Prop :=
  ∃ g off c, u = .slice (some ⟨g, off, none⟩) xs.length c ∧ g < w.heap.size ∧ ∀ j, j < xs.length → w.cell? ⟨g, off + j, none⟩ = some (.int .i64 (xs.getD j 0))
theorem RowS.row {w : World} {u : Value} {xs : List Int} (h : RowS w u xs) : IntRow w u xs := by
  obtain ⟨g, off, c, e, h1, h2⟩ := h
  exact ⟨_, c, e, .inr ⟨g, off, rfl, h1, h2⟩⟩
theorem RowS.lo {w w' : World} {u : Value} {xs : List Int} (h : RowS w u xs) (l : Below w.heap.size w w') : RowS w' u xs := by
  obtain ⟨g, off, c, e, h1, h2⟩ := h
  exact ⟨g, off, c, e, Nat.lt_of_lt_of_le h1 l.size, fun j hj => by rw [l.cell (p := ⟨g, off + j, none⟩) h1]; exact h2 j hj⟩
/-- A table of such rows. -/
def TabS (w : World) (v : Value) (xss : List (List Int)) : Prop :=
  ∃ g off c, v = .slice (some ⟨g, off, none⟩) xss.length c ∧ g < w.heap.size ∧ ∀ j, j < xss.length → ∃ u, w.cell? ⟨g, off + j, none⟩ = some u ∧ RowS w u (xss.getD j [])
theorem TabS.row {w : World} {v : Value} {xss : List (List Int)} (h : TabS w v xss) : TabRow w v xss := by
  obtain ⟨g, off, c, e, h1, h2⟩ := h
  exact ⟨_, c, e, .inr ⟨g, off, rfl, h1, fun j hj => by obtain ⟨u, hu, hr⟩ := h2 j hj; exact ⟨u, hu, hr.row⟩⟩⟩
theorem TabS.lo {w w' : World} {v : Value} {xss : List (List Int)} (h : TabS w v xss) (l : Below w.heap.size w w') : TabS w' v xss := by
  obtain ⟨g, off, c, e, h1, h2⟩ := h
  exact ⟨g, off, c, e, Nat.lt_of_lt_of_le h1 l.size, fun j hj => by
    obtain ⟨u, hu, hr⟩ := h2 j hj
    exact ⟨u, by rw [l.cell (p := ⟨g, off + j, none⟩) h1]; exact hu, hr.lo l⟩⟩
/-- A row of a table reads so, and does not lie in the table's own block. -/
def InnerI (w : World) (ob : Option Nat) (u : Value) (xs : List Int) : Prop :=
  ∃ g off c, u = .slice (some ⟨g, off, none⟩) xs.length c ∧ g < w.heap.size ∧ some g ≠ ob ∧ ∀ j, j < xs.length → w.cell? ⟨g, off + j, none⟩ = some (.int .i64 (xs.getD j 0))
theorem InnerI.row {w : World} {ob : Option Nat} {u : Value} {xs : List Int} (h : InnerI w ob u xs) : RowS w u xs := by
  obtain ⟨g, off, c, e, h1, _, h2⟩ := h
  exact ⟨g, off, c, e, h1, h2⟩
/-- Behind an append to the table: its rows are as they were. -/
theorem InnerI.grown {w w' : World} {ob ob' : Option Nat} {u : Value} {xs : List Int} (h : InnerI w ob u xs) (hg : w.grownBy w' ob) (ho : ∀ g, ob' = some g → ob = some g ∨ w.heap.size ≤ g) : InnerI w' ob' u xs := by
  obtain ⟨g, off, c, e, h2, h3, h4⟩ := h
  refine ⟨g, off, c, e, Nat.lt_of_lt_of_le h2 hg.size, fun hh => ?_, fun j hj => ?_⟩
  · rcases ho g hh.symm with e1 | e1
    · exact h3 e1.symm
    · omega
  · rw [World.cell?_of_block (hg.block g h2 h3)]; exact h4 j hj
theorem InnerI.lo {w w' : World} {ob : Option Nat} {u : Value} {xs : List Int} (h : InnerI w ob u xs) (l : Below w.heap.size w w') : InnerI w' ob u xs := by
  obtain ⟨g, off, c, e, h2, h3, h4⟩ := h
  exact ⟨g, off, c, e, Nat.lt_of_lt_of_le h2 l.size, h3, fun j hj => by rw [l.cell (p := ⟨g, off + j, none⟩) h2]; exact h4 j hj⟩
/-- A table of rows in memory of the call's own. -/
def OwnTab (w : World) (B : Nat) (v : Value) (xss : List (List Int)) : Prop :=
  ∃ us : List Value, us.length = xss.length ∧ w.ownsRow B 29 1 v xss.length us ∧ v ≠ .slice none 0 0 ∧ ∀ j, j < xss.length → ∃ u, us[j]? = some u ∧ InnerI w v.ownBlock u (xss.getD j [])
theorem OwnTab.tab {w : World} {B : Nat} {v : Value} {xss : List (List Int)} (h : OwnTab w B v xss) : TabS w v xss := by
  obtain ⟨us, hl, hown, hnn, hr⟩ := h
  have hown' := hown
  rcases hown.2 with ⟨rfl, h0⟩ | ⟨g, cap, cur, rfl, _, hb, _⟩
  · exact absurd rfl hnn
  · refine ⟨g, 0, cap, rfl, (Array.getElem?_eq_some_iff.1 hb).1, fun j hj => ?_⟩
    obtain ⟨u, hu, hi⟩ := hr j hj
    exact ⟨u, by rw [Nat.zero_add, hown'.cellAt j (by omega)]; exact hu, hi.row⟩
theorem OwnTab.lo {w w' : World} {B : Nat} {v : Value} {xss : List (List Int)} (h : OwnTab w B v xss) (l : Below w.heap.size w w') : OwnTab w' B v xss := by
  obtain ⟨us, hl, hown, hnn, hr⟩ := h
  refine ⟨us, hl, ⟨hown.1, ?_⟩, hnn, fun j hj => ?_⟩
  · rcases hown.2 with h | ⟨g, cap, cur, e, hb, hg, r⟩
    · exact .inl h
    · exact .inr ⟨g, cap, cur, e, hb, (l.block g (Array.getElem?_eq_some_iff.1 hg).1).trans hg, r⟩
  · obtain ⟨u, hu, hi⟩ := hr j hj
    exact ⟨u, hu, hi.lo l⟩
/-- One more row. -/
theorem ownTab_snoc {w w1 : World} {B k : Nat} {v v' u : Value} {xss : List (List Int)} {xs : List Int} {us : List Value} (hl : us.length = xss.length) (hk : xss.length = k) (hown : w1.ownsRow B 29 1 v' (k + 1) (us ++ [u]))
    (hg : w.grownBy w1 v.ownBlock) (hob : ∀ g, v'.ownBlock = some g → v.ownBlock = some g ∨ w.heap.size ≤ g) (hr : ∀ j, j < xss.length → ∃ u, us[j]? = some u ∧ InnerI w v.ownBlock u (xss.getD j [])) (hu : InnerI w v.ownBlock u xs) : OwnTab w1 B v' (xss ++ [xs]) := by
  have hnn : v' ≠ .slice none 0 0 := fun e => by
    subst e
    rcases hown.2 with ⟨_, h⟩ | ⟨g, cap, cur, h, _⟩
    · omega
    · cases h
  refine ⟨us ++ [u], by rw [List.length_append, List.length_append, hl]; rfl, by rw [List.length_append, hk]; exact hown, hnn, fun j hj => ?_⟩
  rw [List.length_append] at hj
  simp only [List.length_cons, List.length_nil] at hj
  by_cases e : j < xss.length
  · obtain ⟨y, hy, hi⟩ := hr j e
    refine ⟨y, by rw [List.getElem?_append_left (by omega)]; exact hy, ?_⟩
    have : (xss ++ [xs]).getD j [] = xss.getD j [] := by simp only [List.getD]; rw [List.getElem?_append_left e]
    rw [this]
    exact hi.grown hg hob
  · obtain rfl : j = xss.length := by omega
    refine ⟨u, by rw [List.getElem?_append_right (by omega), hl, Nat.sub_self]; rfl, ?_⟩
    have : (xss ++ [xs]).getD xss.length [] = xs := by simp only [List.getD]; rw [List.getElem?_append_right (Nat.le_refl _), Nat.sub_self]; rfl
    rw [this]
    exact hu.grown hg hob
set_option maxRecDepth 100000 in
set_option maxHeartbeats 800000 in
theorem l1Own_any (u : Value) (xs : List Int) (w : World) (hr : RowS w u xs) (hn : xs.length ≤ 2000000) :
    Calls Try.prog 203 #[u] w fun e w' => ∃ v', e = .returned v' ∧ OwnI w' w.heap.size v' xs ∧ Below w.heap.size w w' := by
  obtain ⟨g, off, c, rfl, hg, hc⟩ := hr
  obtain ⟨i0, hi, hz0, hz1, hz2⟩ := info_parts infoInt
  have hrow0 := ownI_lit0 w w.heap.size (Nat.le_refl _)
  have HN := Lib.hid (show ∀ j u, (icells xs)[j]? = some u → (w.alloc (.cells #[] 3)).cell? ((⟨g, off, none⟩ : Addr).add j) = some u from fun j u hj => by
    obtain ⟨hl, rfl⟩ := icells_get xs j u hj
    rw [Go.WideShapes.add_plain, World.cell?_of_block (Below.heap_alloc _ _ _ hg)]
    exact hc j hl)
  unfold OwnI icells at hrow0
  clear hc
  go_enter Try.func203, Try.ntmps203
  go_wp2_with (at_builtin; refine wpList_append_own _ rfl _ _ 29 rfl w.heap.size 3 i0 (.int .i64 0) 1 8 Try.underlying29 hi hz0 hz1 hz2 rfl (by decide) _ _ _ rfl hrow0 ⟨g, off, none⟩ xs.length c (icells xs) rfl (by rw [icells_len, Nat.mul_one]) HN.out (icells_one xs) (by unfold maxLen; simp only [List.length_nil]; omega) (by simp only [List.length_nil]; omega) (by simp) ?_; intro v' w3 hown' hgrow3 hnil3)
  have HO := Lib.hid (show OwnI w3 w.heap.size v' xs by
    unfold OwnI
    simpa using hown')
  have HL := Lib.hid (show Below w.heap.size w w3 from ((Below.refl _ _).alloc (Nat.le_refl _) _).grown hgrow3 (by simp) (fun j hj => by cases hj; exact Nat.le_refl _))
  clear hown' hgrow3 hnil3 hrow0
  go_wp2
  go_ret
  exact ⟨v', rfl, HO.out, HL.out⟩
theorem own_below {w : World} {B : Nat} {e : TypeId} {s : Nat} {v : Value} {n : Nat} {xs : List Value} (h : w.ownsRow B e s v n xs) : ∀ g, v.ownBlock = some g → B ≤ g ∧ g < w.heap.size := fun g hg => h.lt g hg
theorem ownI_inner {w : World} {B : Nat} {ob : Option Nat} {v : Value} {xs : List Int} (h : OwnI w B v xs) (hx : 0 < xs.length) (hob : ∀ g, ob = some g → g < B) : InnerI w ob v xs := by
  unfold OwnI at h
  have h' := h
  rcases h.2 with ⟨_, h0⟩ | ⟨g, cap, cur, rfl, hb, hg, _⟩
  · omega
  · refine ⟨g, 0, cap, rfl, (Array.getElem?_eq_some_iff.1 hg).1, fun e => ?_, fun j hj => ?_⟩
    · have := hob g e.symm; omega
    · rw [Nat.zero_add, h'.cellAt j (by omega)]; exact icells_at xs j hj
theorem ownsRow_one {w : World} {B : Nat} {e : TypeId} {s : Nat} {v : Value} {n : Nat} {xs : List Value} (h : w.ownsRow B e s v (n + 1) xs) : ∃ g cap, v = .slice (some ⟨g, 0, none⟩) (n + 1) cap := by
  rcases h.2 with ⟨_, h⟩ | ⟨g, cap, cur, e, _⟩
  · omega
  · exact ⟨g, cap, e⟩
/-- Between the two appends of a round. -/
theorem all_mid {wq wx w1 w2 : World} {u v1 v2 : Value} {xss : List (List Int)} {m : Nat} {xs : List Int} {sg : Int} {o : Obj} (HO : OwnTab wx wq.heap.size u xss) (L0 : Below wq.heap.size wq wx) (l1 : Below wx.heap.size wx w1) (hx : xs.length = m)
    (o1 : w1.ownsRow wx.heap.size 3 1 v1 m (icells xs)) (h2 : w2.ownsRow wx.heap.size 3 1 v2 (m + 1) (icells xs ++ [.int .i64 sg])) (hg : (w1.alloc o).grownBy w2 v1.ownBlock) (hob : ∀ g, u.ownBlock = some g → wq.heap.size ≤ g ∧ g < wx.heap.size) :
    InnerI w2 u.ownBlock v2 (xs ++ [sg]) ∧ OwnTab w2 wq.heap.size u xss ∧ Below wq.heap.size wq w2 ∧ w1.heap.size + 1 ≤ w2.heap.size := by
  have L : Below wx.heap.size wx w2 := (l1.alloc l1.size o).grown hg (by have := l1.size; simp; omega) (fun j hj => (o1.lt j hj).1)
  refine ⟨ownI_inner (ownI_snoc h2 hx) (by simp) (fun g hg => (hob g hg).2), HO.lo L, L0.trans (L.mono L0.size), by have := hg.size; simpa using this⟩
end Go.Proofs.Ytcfbnadefdcjaaa
