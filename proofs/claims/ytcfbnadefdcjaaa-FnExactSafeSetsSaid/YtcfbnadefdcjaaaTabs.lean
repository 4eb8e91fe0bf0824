/- Slices of slices of integers in memory, as the walks take them. No program stands here. -/
import Derived.Test.YtcfbnadefdcjaaaInts
import Derived.Deep.Matrix
import Derived.ChangeSlices
namespace Go.Proofs.Ytcfbnadefdcjaaa
open Go.RowKit Go.Deep
/-- The slice value v reads as the lists xss. -/
def TabRow (w : World) (v : Value) (xss : List (List Int)) : Prop :=
  ∃ a c, v = .slice a xss.length c ∧ (xss = [] ∨ ∃ g off, a = some ⟨g, off, none⟩ ∧ g < w.heap.size ∧ ∀ j, j < xss.length → ∃ u, w.cell? ⟨g, off + j, none⟩ = some u ∧ IntRow w u (xss.getD j []))
theorem TabRow.lo {w w' : World} {v : Value} {xss : List (List Int)} (h : TabRow w v xss) (l : Below w.heap.size w w') : TabRow w' v xss := by
  obtain ⟨a, c, rfl, h⟩ := h
  refine ⟨a, c, rfl, ?_⟩
  rcases h with h | ⟨g, off, e, hg, hc⟩
  · exact .inl h
  · exact .inr ⟨g, off, e, Nat.lt_of_lt_of_le hg l.size, fun j hj => by
      obtain ⟨u, hu, hr⟩ := hc j hj
      exact ⟨u, by rw [l.cell (p := ⟨g, off + j, none⟩) hg]; exact hu, hr.lo l⟩⟩
theorem tabRow_nil (w : World) (a : Option Addr) (c : Nat) : TabRow w (.slice a 0 c) [] := ⟨a, c, rfl, .inl rfl⟩
/-- How many numbers stand in the lists. -/
def cntT : List (List Int) → Nat
  | [] => 0
  | x :: l => x.length + cntT l
theorem cntT_snoc (l : List (List Int)) (x : List Int) : cntT (l ++ [x]) = cntT l + x.length := by
  induction l with
  | nil => simp [cntT]
  | cons y l ih => simp only [List.cons_append, cntT, ih]; omega
theorem take_snocT (xs : List (List Int)) (k : Nat) (h : k < xs.length) : xs.take (k + 1) = xs.take k ++ [xs.getD k []] := by
  rw [List.take_add_one, List.getElem?_eq_getElem h, List.getD, List.getElem?_eq_getElem h]; rfl
theorem cntT_take (l : List (List Int)) (k : Nat) (h : k < l.length) : cntT (l.take (k + 1)) = cntT (l.take k) + (l.getD k []).length := by rw [take_snocT l k h, cntT_snoc]
theorem cntT_app (l m : List (List Int)) : cntT (l ++ m) = cntT l + cntT m := by
  induction l with
  | nil => simp [cntT]
  | cons y l ih => simp only [List.cons_append, cntT, ih]; omega
theorem cntT_le (l : List (List Int)) (k : Nat) : cntT (l.take k) ≤ cntT l := by
  have : cntT l = cntT (l.take k) + cntT (l.drop k) := by rw [← cntT_app, List.take_append_drop]
  omega
theorem cntT_each (l : List (List Int)) (k : Nat) (h : k < l.length) : cntT (l.take k) + (l.getD k []).length ≤ cntT l := by
  rw [← cntT_take l k h]; exact cntT_le _ _
def SmallT (l : List (List Int)) : Prop := l.length ≤ 2000000 ∧ cntT l ≤ 2000000
/-- Lists in memory of a call's own: the outer row in a block of B .. E - 1, then row j in the blocks b j .. b (j + 1) - 1. -/
def MineT (w : World) (B E : Nat) (v : Value) (xss : List (List Int)) : Prop :=
  (xss = [] ∧ ∃ a c, v = .slice a 0 c) ∨ ∃ (g c : Nat) (u : Nat → Value) (b : Nat → Nat), v = .slice (some ⟨g, 0, none⟩) xss.length c ∧ B ≤ g ∧ g < b 0 ∧ b xss.length ≤ E ∧ E ≤ w.heap.size ∧
    ∀ j, j < xss.length → b j ≤ b (j + 1) ∧ w.cell? ⟨g, j, none⟩ = some (u j) ∧ MineI w (b j) (b (j + 1)) (u j) (xss.getD j [])
theorem mono_b {b : Nat → Nat} {n : Nat} (h : ∀ j, j < n → b j ≤ b (j + 1)) : ∀ i j, i ≤ j → j ≤ n → b i ≤ b j := by
  intro i j hij hj
  induction j with
  | zero => have : i = 0 := by omega
            subst this; exact Nat.le_refl _
  | succ j ih =>
    by_cases e : i = j + 1
    · subst e; exact Nat.le_refl _
    · exact Nat.le_trans (ih (by omega) (by omega)) (h j (by omega))
theorem MineT.row {w : World} {B E : Nat} {v : Value} {xss : List (List Int)} (h : MineT w B E v xss) : TabRow w v xss := by
  rcases h with ⟨rfl, a, c, rfl⟩ | ⟨g, c, u, b, rfl, _, h1, h2, h3, hr⟩
  · exact tabRow_nil w a c
  · have hm := mono_b (fun j hj => (hr j hj).1) 0 xss.length (Nat.zero_le _) (Nat.le_refl _)
    exact ⟨_, _, rfl, .inr ⟨g, 0, rfl, by omega, fun j hj => ⟨u j, by rw [Nat.zero_add]; exact (hr j hj).2.1, (hr j hj).2.2.row⟩⟩⟩
theorem MineT.part {w w' : World} {B E B' E' : Nat} {v : Value} {xss : List (List Int)} (h : MineT w B E v xss) (p : Part B' E' w w') (ho : E ≤ B' ∨ E' ≤ B) : MineT w' B E v xss := by
  rcases h with h | ⟨g, c, u, b, e, h0, h1, h2, h3, hr⟩
  · exact .inl h
  · have hm := mono_b (fun j hj => (hr j hj).1)
    refine .inr ⟨g, c, u, b, e, h0, h1, h2, Nat.le_trans h3 p.size, fun j hj => ?_⟩
    have m0 := hm 0 j (Nat.zero_le _) (by omega)
    have m1 := hm (j + 1) xss.length (by omega) (Nat.le_refl _)
    have m2 := (hr j hj).1
    exact ⟨m2, by rw [p.cell (p := ⟨g, j, none⟩) (by simp only; omega) (by simp only; omega)]; exact (hr j hj).2.1, (hr j hj).2.2.part p (by omega)⟩
theorem MineT.lo {w w' : World} {B E : Nat} {v : Value} {xss : List (List Int)} (h : MineT w B E v xss) (l : Below w.heap.size w w') : MineT w' B E v xss :=
  h.part (Part.of_lo (B := E) (E := E) l) (.inl (Nat.le_refl _))
/-- The marks stand in the rows. -/
def HeldT (w : World) (B E : Nat) (v : Value) (xss : List (List Int)) (m : Nat) : Prop :=
  (xss = [] ∧ ∃ a c, v = .slice a 0 c) ∨ ∃ (g c : Nat) (u : Nat → Value) (b : Nat → Nat), v = .slice (some ⟨g, 0, none⟩) xss.length c ∧ B ≤ g ∧ g < b 0 ∧ b xss.length ≤ E ∧ E ≤ w.heap.size ∧
    ∀ j, j < xss.length → b j ≤ b (j + 1) ∧ w.cell? ⟨g, j, none⟩ = some (u j) ∧ HeldI w (b j) (b (j + 1)) (u j) (xss.getD j []).length (m + cntT (xss.take j))
theorem HeldT.part {w w' : World} {B E B' E' m : Nat} {v : Value} {xss : List (List Int)} (h : HeldT w B E v xss m) (p : Part B' E' w w') (ho : E ≤ B' ∨ E' ≤ B) : HeldT w' B E v xss m := by
  rcases h with h | ⟨g, c, u, b, e, h0, h1, h2, h3, hr⟩
  · exact .inl h
  · have hm := mono_b (fun j hj => (hr j hj).1)
    refine .inr ⟨g, c, u, b, e, h0, h1, h2, Nat.le_trans h3 p.size, fun j hj => ?_⟩
    have m0 := hm 0 j (Nat.zero_le _) (by omega)
    have m1 := hm (j + 1) xss.length (by omega) (Nat.le_refl _)
    have m2 := (hr j hj).1
    exact ⟨m2, by rw [p.cell (p := ⟨g, j, none⟩) (by simp only; omega) (by simp only; omega)]; exact (hr j hj).2.1, (hr j hj).2.2.part p (by omega)⟩
theorem HeldT.lo {w w' : World} {B E m : Nat} {v : Value} {xss : List (List Int)} (h : HeldT w B E v xss m) (l : Below w.heap.size w w') : HeldT w' B E v xss m :=
  h.part (Part.of_lo (B := E) (E := E) l) (.inl (Nat.le_refl _))
section
open Go.ChangeShapes Go.WideShapes
variable {H : Type} {enc : TypeId × Value → H} {P : Program} {w : World} {base : Nat} {spare : Nat → Bool} {held : Bool}
/-- What the walk is told of a slice of slices of integers that came in. -/
def TabIn (w : World) (a : Option Addr) (len cap : Nat) (zss : List (List Int)) : Prop :=
  zss.length = len ∧ len ≤ maxLen ∧ TabRow w (.slice a len cap) zss ∧ ∀ r ∈ zss, r.length ≤ maxLen ∧ ∀ n ∈ r, (Lit.int .i64 n).wf = true
theorem open_tab {t e q : TypeId} {a : Option Addr} {len cap : Nat} {d : DataW H} {ps : List MemPlace} (ht : P.underlying t = some (.slice e)) (he : P.underlying e = some (.slice q)) (hq : P.underlying q = some (.int .i64))
    (ce : P.cellsOf e = 1) (cq : P.cellsOf q = 1) (h : DataW.Trod enc P w base (fun _ => true) held t (.slice a len cap) d ps) : ∃ zss, TabIn w a len cap zss := by
  obtain ⟨fuel, hf⟩ := h
  rcases open_int_rows ht he hq ce cq hf with ⟨hcs, _⟩ | ⟨x, l, c, A, L, C, Z, hcs, _, hl, hm, _, hel⟩
  · simp [Value.cells] at hcs
    obtain ⟨rfl, rfl, rfl⟩ := hcs
    exact ⟨[], rfl, Nat.zero_le _, tabRow_nil _ _ _, fun r h => by cases h⟩
  · simp [Value.cells] at hcs
    obtain ⟨rfl, rfl, rfl⟩ := hcs
    obtain ⟨zss, hzss⟩ : ∃ zss : List (List Int), zss = (List.range len).map fun r => (Z r).take (L r) := ⟨_, rfl⟩
    have hlen : zss.length = len := by rw [hzss]; simp
    have hat : ∀ j, j < len → zss.getD j [] = (Z j).take (L j) := fun j hj => by rw [hzss]; simp [List.getD, hj]
    refine ⟨zss, hlen, by omega, ⟨_, cap, by rw [hlen], ?_⟩, fun r hr => ?_⟩
    · by_cases h0 : len = 0
      · exact .inl (List.length_eq_zero_iff.1 (by omega))
      · obtain ⟨b, off, spot⟩ := x
        have hc0 := (hel 0 (by omega)).1
        have hs : spot = none := by simpa [Addr.add] using World.cell?_spot hc0
        subst hs
        rw [Go.WideShapes.add_plain] at hc0
        refine .inr ⟨b, off, rfl, cellI_lt hc0, fun j hj => ?_⟩
        obtain ⟨g1, g2, g3, g4, g5, g6, g7⟩ := hel j (by omega)
        rw [Go.WideShapes.add_plain] at g1
        refine ⟨_, g1, ?_⟩
        rw [hat j (by omega)]
        have hxl : ((Z j).take (L j)).length = L j := by rw [List.length_take]; omega
        refine ⟨A j, C j, by rw [hxl], ?_⟩
        by_cases hl0 : L j = 0
        · exact .inl (by rw [hl0]; simp)
        · cases hA : A j with
          | none => have := g6 hA; omega
          | some a' =>
            obtain ⟨_, gc⟩ := g7 a' hA
            obtain ⟨b', off', spot'⟩ := a'
            have hc1 := gc 0 (by omega)
            have hs' : spot' = none := by simpa [Addr.add] using World.cell?_spot hc1
            subst hs'
            rw [Go.WideShapes.add_plain] at hc1
            refine .inr ⟨b', off', rfl, cellI_lt hc1, fun i hi => ?_⟩
            have h1 := gc i (by omega)
            rw [Go.WideShapes.add_plain] at h1
            rw [h1]
            have : ((Z j).take (L j)).getD i 0 = (Z j).getD i 0 := by simp [List.getD, show i < L j by omega]
            rw [this]
    · rw [hzss] at hr
      simp only [List.mem_map, List.mem_range] at hr
      obtain ⟨j, hj, rfl⟩ := hr
      obtain ⟨g1, g2, g3, g4, g5, g6, g7⟩ := hel j (by omega)
      exact ⟨by rw [List.length_take]; omega, fun n hn => g5 n (List.mem_of_mem_take hn)⟩
end
end Go.Proofs.Ytcfbnadefdcjaaa
