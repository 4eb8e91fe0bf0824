/- The contracts on lists of signs: the program's list at an index, and the model's lists of all. -/
import Derived.Test.YtgdgiecajflmaabSgPlain
import Derived.Test.YtgdgiecajflmaabCoin3
import Derived.Test.YtgdgiecajflmaabTabLaw
namespace Go.Proofs.Ytgdgiecajflmaab
open Go.RowKit
set_option maxRecDepth 100000 in
set_option maxHeartbeats 1600000 in
theorem signsAt_any (i n : Nat) (hi : i ≤ 2000) (hn : n ≤ 6) (w : World) :
    Calls Try.prog 66 #[.int .i64 (i : Int), .int .i64 (n : Int)] w fun e w' => ∃ g, e = .returned (.slice (some ⟨g, 0, none⟩) n n) ∧ MineI w' w.heap.size w'.heap.size (.slice (some ⟨g, 0, none⟩) n n) (sgF n i) ∧ Below w.heap.size w w' := by
  have HM := make_ints n (by omega)
  go_enter Try.func66, Try.ntmps66
  go_wp2
  go_loopw [0, 6] (fun x z wr => ∃ (k : Nat) (q : Nat) (y : Int), k ≤ n ∧ z = .int .i64 y ∧ y = (k : Int) - 1 ∧ x = .int .i64 (q : Int) ∧ q ≤ 2000 ∧ Hid (q = i / 3 ^ (n - k)) ∧ Hid (∀ j, k ≤ j → j < n → wr.cell? ⟨w.heap.size, j, none⟩ = some (.int .i64 ((sgF n i).getD j 0))) ∧ Hid (∀ j, j < k → wr.cell? ⟨w.heap.size, j, none⟩ = some (.int .i64 0)) ∧ Hid (∀ j, wr.frozen? ⟨w.heap.size, j, none⟩ = false) ∧ Hid (Below w.heap.size w wr) ∧ w.heap.size + 1 ≤ wr.heap.size) (fun _ z _ => (intOf z + 1).toNat)
  case atStart => exact ⟨n, i, (n : Int) - 1, Nat.le_refl _, rfl, rfl, rfl, hi, Lib.hid (by rw [Nat.sub_self, Nat.pow_zero, Nat.div_one]), Lib.hid (fun j h1 h2 => by omega), Lib.hid (fun j h => by rw [World.cell?_alloc_at _ _ _ _ rfl]; exact made_int _ _ h), Lib.hid (fun j => World.frozen?_alloc_at _ _ _ _ rfl), Lib.hid ((Below.refl _ _).alloc (Nat.le_refl _) _), by simp⟩
  case round =>
    obtain ⟨k, q, y, hk, rfl, hy, rfl, hq, HQ, H1, H2, H3, HW, hs1⟩ := hrel
    clear HM
    by_cases h0 : k = 0
    · subst h0
      have hyn : ¬ (0 : Int) ≤ y := by omega
      clear hy
      go_wp2
      go_ret
      exact ⟨_, rfl, .inr ⟨w.heap.size, n, by rw [sgF_len], Nat.le_refl _, by omega, Nat.le_refl _, fun j hj => by rw [sgF_len] at hj; exact H1.out j (Nat.zero_le _) hj, H3.out⟩, HW.out⟩
    · obtain ⟨m, rfl⟩ : ∃ m, k = m + 1 := ⟨k - 1, by omega⟩
      obtain rfl : y = (m : Int) := by omega
      have hcw := H2.out m (by omega)
      have hfw := H3.out m
      have hlt' : (m : Int) < (n : Int) := by omega
      have TS := Lib.hid (fun u => one_set wr w.heap.size m u hcw)
      have HV := Lib.hid (show (sgF n i).getD m 0 = (q : Int) % 3 - 1 by
        rw [sgF_at n i m (by omega), show n - 1 - m = n - (m + 1) by omega, ← HQ.out]
        omega)
      have HQ2 := Lib.hid (show q / 3 = i / 3 ^ (n - m) by
        rw [HQ.out, Nat.div_div_eq_div_mul, ← Nat.pow_succ, show (n - (m + 1)).succ = n - m by omega])
      have hq3 : (q : Int) / 3 = ((q / 3 : Nat) : Int) := by omega
      have HQ3 := Lib.hid hq3
      clear hy h0 hq3
      go_wp2
      go_roundw
      case rel =>
        refine ⟨m, q / 3, (m : Int) - 1, by omega, by go_num, rfl, by rw [HQ3.out], by omega, HQ2, Lib.hid (fun j h1 h2 => ?_), Lib.hid (fun j h => ?_), Lib.hid (fun j => by rw [World.frozen?_setCell]; exact H3.out j), Lib.hid (HW.out.setCell (p := ⟨w.heap.size, m, none⟩) (Nat.le_refl _) _), by simp; omega⟩
        · by_cases e : j = m
          · subst e; rw [HV.out]; exact (TS.out _).1
          · rw [(TS.out _).2 _ e]; exact H1.out j (by omega) h2
        · rw [(TS.out _).2 _ (by omega)]; exact H2.out j (by omega)
      case measure => simp [intOf]
/-- A row reads so, and is not nil. -/
def RowS (w : World) (u : Value) (xs : List Int) : Prop :=
  ∃ g off c, u = .slice (some ⟨g, off, none⟩) xs.length c ∧ g < w.heap.size ∧ ∀ j, j < xs.length → w.cell? ⟨g, off + j, none⟩ = some (.int .i64 (xs.getD j 0))
theorem RowS.row {w : World} {u : Value} {xs : List Int} (h : RowS w u xs) : IntRow w u xs := by
  obtain ⟨g, off, c, e, h1, h2⟩ := h
  exact ⟨_, c, e, .inr ⟨g, off, rfl, h1, h2⟩⟩
theorem RowS.lo {w w' : World} {u : Value} {xs : List Int} (h : RowS w u xs) (l : Below w.heap.size w w') : RowS w' u xs := by
  obtain ⟨g, off, c, e, h1, h2⟩ := h
  exact ⟨g, off, c, e, Nat.lt_of_lt_of_le h1 l.size, fun j hj => by rw [l.cell (p := ⟨g, off + j, none⟩) h1]; exact h2 j hj⟩
/-- A table of such rows. -/
def TabS (w : World) (v : Value) (xss : List (List Int)) : Prop :=
  ∃ g off c, v = .slice (some ⟨g, off, none⟩) xss.length c ∧ g < w.heap.size ∧ ∀ j, j < xss.length → ∃ u, w.cell? ⟨g, off + j, none⟩ = some u ∧ RowS w u (xss.getD j [])
theorem TabS.row {w : World} {v : Value} {xss : List (List Int)} (h : TabS w v xss) : TabRow w v xss := by
  obtain ⟨g, off, c, e, h1, h2⟩ := h
  exact ⟨_, c, e, .inr ⟨g, off, rfl, h1, fun j hj => by obtain ⟨u, hu, hr⟩ := h2 j hj; exact ⟨u, hu, hr.row⟩⟩⟩
theorem TabS.lo {w w' : World} {v : Value} {xss : List (List Int)} (h : TabS w v xss) (l : Below w.heap.size w w') : TabS w' v xss := by
  obtain ⟨g, off, c, e, h1, h2⟩ := h
  exact ⟨g, off, c, e, Nat.lt_of_lt_of_le h1 l.size, fun j hj => by
    obtain ⟨u, hu, hr⟩ := h2 j hj
    exact ⟨u, by rw [l.cell (p := ⟨g, off + j, none⟩) h1]; exact hu, hr.lo l⟩⟩
/-- A row of a table reads so, and does not lie in the table's own block. -/
def InnerI (w : World) (ob : Option Nat) (u : Value) (xs : List Int) : Prop :=
  ∃ g off c, u = .slice (some ⟨g, off, none⟩) xs.length c ∧ g < w.heap.size ∧ some g ≠ ob ∧ ∀ j, j < xs.length → w.cell? ⟨g, off + j, none⟩ = some (.int .i64 (xs.getD j 0))
theorem InnerI.row {w : World} {ob : Option Nat} {u : Value} {xs : List Int} (h : InnerI w ob u xs) : RowS w u xs := by
  obtain ⟨g, off, c, e, h1, _, h2⟩ := h
  exact ⟨g, off, c, e, h1, h2⟩
/-- Behind an append to the table: its rows are as they were. -/
theorem InnerI.grown {w w' : World} {ob ob' : Option Nat} {u : Value} {xs : List Int} (h : InnerI w ob u xs) (hg : w.grownBy w' ob) (ho : ∀ g, ob' = some g → ob = some g ∨ w.heap.size ≤ g) : InnerI w' ob' u xs := by
  obtain ⟨g, off, c, e, h2, h3, h4⟩ := h
  refine ⟨g, off, c, e, Nat.lt_of_lt_of_le h2 hg.size, fun hh => ?_, fun j hj => ?_⟩
  · rcases ho g hh.symm with e1 | e1
    · exact h3 e1.symm
    · omega
  · rw [World.cell?_of_block (hg.block g h2 h3)]; exact h4 j hj
theorem InnerI.lo {w w' : World} {ob : Option Nat} {u : Value} {xs : List Int} (h : InnerI w ob u xs) (l : Below w.heap.size w w') : InnerI w' ob u xs := by
  obtain ⟨g, off, c, e, h2, h3, h4⟩ := h
  exact ⟨g, off, c, e, Nat.lt_of_lt_of_le h2 l.size, h3, fun j hj => by rw [l.cell (p := ⟨g, off + j, none⟩) h2]; exact h4 j hj⟩
/-- A table of rows in memory of the call's own. -/
def OwnTab (w : World) (B : Nat) (v : Value) (xss : List (List Int)) : Prop :=
  ∃ us : List Value, us.length = xss.length ∧ w.ownsRow B 30 1 v xss.length us ∧ v ≠ .slice none 0 0 ∧ ∀ j, j < xss.length → ∃ u, us[j]? = some u ∧ InnerI w v.ownBlock u (xss.getD j [])
theorem OwnTab.tab {w : World} {B : Nat} {v : Value} {xss : List (List Int)} (h : OwnTab w B v xss) : TabS w v xss := by
  obtain ⟨us, hl, hown, hnn, hr⟩ := h
  have hown' := hown
  rcases hown.2 with ⟨rfl, h0⟩ | ⟨g, cap, cur, rfl, _, hb, _⟩
  · exact absurd rfl hnn
  · refine ⟨g, 0, cap, rfl, (Array.getElem?_eq_some_iff.1 hb).1, fun j hj => ?_⟩
    obtain ⟨u, hu, hi⟩ := hr j hj
    exact ⟨u, by rw [Nat.zero_add, hown'.cellAt j (by omega)]; exact hu, hi.row⟩
theorem OwnTab.lo {w w' : World} {B : Nat} {v : Value} {xss : List (List Int)} (h : OwnTab w B v xss) (l : Below w.heap.size w w') : OwnTab w' B v xss := by
  obtain ⟨us, hl, hown, hnn, hr⟩ := h
  refine ⟨us, hl, ⟨hown.1, ?_⟩, hnn, fun j hj => ?_⟩
  · rcases hown.2 with h | ⟨g, cap, cur, e, hb, hg, r⟩
    · exact .inl h
    · exact .inr ⟨g, cap, cur, e, hb, (l.block g (Array.getElem?_eq_some_iff.1 hg).1).trans hg, r⟩
  · obtain ⟨u, hu, hi⟩ := hr j hj
    exact ⟨u, hu, hi.lo l⟩
/-- One more row. -/
theorem ownTab_snoc {w w1 : World} {B k : Nat} {v v' u : Value} {xss : List (List Int)} {xs : List Int} {us : List Value} (hl : us.length = xss.length) (hk : xss.length = k) (hown : w1.ownsRow B 30 1 v' (k + 1) (us ++ [u]))
    (hg : w.grownBy w1 v.ownBlock) (hob : ∀ g, v'.ownBlock = some g → v.ownBlock = some g ∨ w.heap.size ≤ g) (hr : ∀ j, j < xss.length → ∃ u, us[j]? = some u ∧ InnerI w v.ownBlock u (xss.getD j [])) (hu : InnerI w v.ownBlock u xs) : OwnTab w1 B v' (xss ++ [xs]) := by
  have hnn : v' ≠ .slice none 0 0 := fun e => by
    subst e
    rcases hown.2 with ⟨_, h⟩ | ⟨g, cap, cur, h, _⟩
    · omega
    · cases h
  refine ⟨us ++ [u], by rw [List.length_append, List.length_append, hl]; rfl, by rw [List.length_append, hk]; exact hown, hnn, fun j hj => ?_⟩
  rw [List.length_append] at hj
  simp only [List.length_cons, List.length_nil] at hj
  by_cases e : j < xss.length
  · obtain ⟨y, hy, hi⟩ := hr j e
    refine ⟨y, by rw [List.getElem?_append_left (by omega)]; exact hy, ?_⟩
    have : (xss ++ [xs]).getD j [] = xss.getD j [] := by simp only [List.getD]; rw [List.getElem?_append_left e]
    rw [this]
    exact hi.grown hg hob
  · obtain rfl : j = xss.length := by omega
    refine ⟨u, by rw [List.getElem?_append_right (by omega), hl, Nat.sub_self]; rfl, ?_⟩
    have : (xss ++ [xs]).getD xss.length [] = xs := by simp only [List.getD]; rw [List.getElem?_append_right (Nat.le_refl _), Nat.sub_self]; rfl
    rw [this]
    exact hu.grown hg hob
set_option maxRecDepth 100000 in
set_option maxHeartbeats 800000 in
theorem l1Own_any (u : Value) (xs : List Int) (w : World) (hr : RowS w u xs) (hn : xs.length ≤ 2000000) :
    Calls Try.prog 98 #[u] w fun e w' => ∃ v', e = .returned v' ∧ OwnI w' w.heap.size v' xs ∧ Below w.heap.size w w' := by
  obtain ⟨g, off, c, rfl, hg, hc⟩ := hr
  obtain ⟨i0, hi, hz0, hz1, hz2⟩ := info_parts infoInt
  have hrow0 := ownI_lit0 w w.heap.size (Nat.le_refl _)
  have HN := Lib.hid (show ∀ j u, (icells xs)[j]? = some u → (w.alloc (.cells #[] 3)).cell? ((⟨g, off, none⟩ : Addr).add j) = some u from fun j u hj => by
    obtain ⟨hl, rfl⟩ := icells_get xs j u hj
    rw [Go.WideShapes.add_plain, World.cell?_of_block (Below.heap_alloc _ _ _ hg)]
    exact hc j hl)
  unfold OwnI icells at hrow0
  clear hc
  go_enter Try.func98, Try.ntmps98
  go_wp2_with (at_builtin; refine wpList_append_own _ rfl _ _ 30 rfl w.heap.size 3 i0 (.int .i64 0) 1 8 Try.underlying30 hi hz0 hz1 hz2 rfl (by decide) _ _ _ rfl hrow0 ⟨g, off, none⟩ xs.length c (icells xs) rfl (by rw [icells_len, Nat.mul_one]) HN.out (icells_one xs) (by unfold maxLen; simp only [List.length_nil]; omega) (by simp only [List.length_nil]; omega) (by simp) ?_; intro v' w3 hown' hgrow3 hnil3)
  have HO := Lib.hid (show OwnI w3 w.heap.size v' xs by
    unfold OwnI
    simpa using hown')
  have HL := Lib.hid (show Below w.heap.size w w3 from ((Below.refl _ _).alloc (Nat.le_refl _) _).grown hgrow3 (by simp) (fun j hj => by cases hj; exact Nat.le_refl _))
  clear hown' hgrow3 hnil3 hrow0
  go_wp2
  go_ret
  exact ⟨v', rfl, HO.out, HL.out⟩
end Go.Proofs.Ytgdgiecajflmaab
