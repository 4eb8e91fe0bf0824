/- Tables of lists of places whose every list is the call's own. -/
import Derived.Test.YtpklccpkgefniaaSr5
import Derived.Test.YtpklccpkgefniaaSr3
namespace Go.Proofs.Ytpklccpkgefniaa
open Go.RowKit
theorem eq_ratio (a b c d : Int) (w : World) : (Op.equalIn 10000 110 (.agg #[.int .i64 a, .int .i64 b]) (.agg #[.int .i64 c, .int .i64 d])).run Try.prog w = .ok ((a == c) && (b == d)) w := by
  obtain ⟨i0, hi, _⟩ := info_parts infoInt
  have hc : Try.prog.cellsOf 3 = 1 := by kernel_rfl
  have hk : Try.prog.plainKey 3 = true := by kernel_rfl
  have p0 : ∀ x y : Int, (part 3 #[.int .i64 x, .int .i64 y] (0 * 1)).run Try.prog w = .ok (.int .i64 x) w := fun x y => run_part_plain w hk rfl
  have p1 : ∀ x y : Int, (part 3 #[.int .i64 x, .int .i64 y] 1).run Try.prog w = .ok (.int .i64 y) w := fun x y => run_part_plain w hk rfl
  have q : ∀ x y : Int, (Op.equalIn 9999 3 (.int .i64 x) (.int .i64 y)).run Try.prog w = .ok (x == y) w := fun x y => run_equalIn_int w 9998 _ _ _ _ _ Try.underlying3
  rw [run_equalIn_array w 9999 _ _ Try.underlying110 hi, hc, show List.range 2 = [0, 1] from rfl]
  simp only [Op.eqItems, Sem.run_bind, p0, q, Result.andThen_ok]
  cases a == c with
  | false => simp
  | true =>
    simp only [Bool.not_true, Bool.false_eq_true, if_false, Sem.run_bind, p1, q, Result.andThen_ok]
    cases b == d <;> simp
/-- A fraction that is cut and that is an integer has the divisor 1. -/
def RedF (g : Int × Int) : Prop := ∀ n, g.1 = n * g.2 → g.2 = 1
theorem red_cut (a b : Int) (hb : 0 < b) : RedF (cutA a b, cutB a b) := by
  intro n h
  simp only at *
  have hm := cut_mul a b
  refine (cut_one a b hb).2 ⟨n, ?_⟩
  calc a = cutA a b * gcF a b := hm.1.symm
    _ = n * cutB a b * gcF a b := by rw [h]
    _ = n * (cutB a b * gcF a b) := Int.mul_assoc _ _ _
    _ = n * b := by rw [hm.2]
    _ = b * n := Int.mul_comm _ _
theorem red_ch {xs : List StageV} (h : allB xs = true) (h5 : xs.length ≤ 5) : RedF (chF xs) := by
  by_cases h0 : xs.length = 0
  · rw [List.length_eq_zero_iff.1 h0]
    intro n _
    rfl
  · obtain ⟨k, hk⟩ : ∃ k, xs.length = k + 1 := ⟨xs.length - 1, by omega⟩
    have st := ch_step h h5 (k := k) (by omega)
    have e := ch_take xs k (by omega)
    rw [← hk, List.take_length] at e
    rw [e]
    exact red_cut _ _ (by omega)
set_option maxHeartbeats 800000 in
theorem equals_any (g1 g2 n : Int) (w : World) (hred : RedF (g1, g2)) :
    Calls Try.prog 136 #[.agg #[.int .i64 g1, .int .i64 g2], .int .i64 n] w fun e w' => e = .returned (.bool (doesB true (g1, g2) n)) ∧ Below w.heap.size w w' := by
  have E : doesB true (g1, g2) n = ((g1 == n) && (g2 == 1)) := by
    unfold doesB
    simp only [Bool.not_true, Bool.false_and, Bool.or_false]
    by_cases h : g1 = n * g2
    · have h1 : g2 = 1 := hred n h
      subst h1
      rw [Int.mul_one] at h
      subst h
      simp
    · rw [decide_eq_false h]
      by_cases h2 : g2 = 1
      · subst h2
        rw [Int.mul_one] at h
        simp [h]
      · simp [h2]
  have Q := eq_ratio g1 g2 n 1
  rw [E]
  generalize ((g1 == n) && (g2 == 1)) = r at *
  clear E hred
  go_enter Try.func136, Try.ntmps136
  go_wp2
  go_ret
  exact ⟨rfl, below_one _ _⟩
/-- A list of a table reads so, is the call's own, and does not lie in the table's own block. -/
def InnerM (w : World) (B : Nat) (ob : Option Nat) (u : Value) (xs : List Int) : Prop :=
  ∃ g c, u = .slice (some ⟨g, 0, none⟩) xs.length c ∧ B ≤ g ∧ g < w.heap.size ∧ some g ≠ ob ∧ (∀ j, j < xs.length → w.cell? ⟨g, j, none⟩ = some (.int .i64 (xs.getD j 0))) ∧ ∀ j, w.frozen? ⟨g, j, none⟩ = false
theorem InnerM.row {w : World} {B : Nat} {ob : Option Nat} {u : Value} {xs : List Int} (h : InnerM w B ob u xs) : RowS w u xs := by
  obtain ⟨g, c, e, _, h1, _, h2, _⟩ := h
  exact ⟨g, 0, c, e, h1, fun j hj => by rw [Nat.zero_add]; exact h2 j hj⟩
theorem InnerM.mine {w : World} {B : Nat} {ob : Option Nat} {u : Value} {xs : List Int} (h : InnerM w B ob u xs) : MineI w B w.heap.size u xs := by
  obtain ⟨g, c, e, h0, h1, _, h2, h3⟩ := h
  exact .inr ⟨g, c, e, h0, h1, Nat.le_refl _, h2, h3⟩
theorem InnerM.grown {w w' : World} {B : Nat} {ob ob' : Option Nat} {u : Value} {xs : List Int} (h : InnerM w B ob u xs) (hg : w.grownBy w' ob) (ho : ∀ g, ob' = some g → ob = some g ∨ w.heap.size ≤ g) : InnerM w' B ob' u xs := by
  obtain ⟨g, c, e, h0, h2, h3, h4, h5⟩ := h
  refine ⟨g, c, e, h0, Nat.lt_of_lt_of_le h2 hg.size, fun hh => ?_, fun j hj => ?_, fun j => ?_⟩
  · rcases ho g hh.symm with e1 | e1
    · exact h3 e1.symm
    · omega
  · rw [World.cell?_of_block (hg.block g h2 h3)]; exact h4 j hj
  · rw [World.frozen?_of_block (hg.block g h2 h3)]; exact h5 j
theorem InnerM.lo {w w' : World} {B : Nat} {ob : Option Nat} {u : Value} {xs : List Int} (h : InnerM w B ob u xs) (l : Below w.heap.size w w') : InnerM w' B ob u xs := by
  obtain ⟨g, c, e, h0, h2, h3, h4, h5⟩ := h
  exact ⟨g, c, e, h0, Nat.lt_of_lt_of_le h2 l.size, h3, fun j hj => by rw [l.cell (p := ⟨g, j, none⟩) h2]; exact h4 j hj, fun j => by rw [l.frozen (p := ⟨g, j, none⟩) h2]; exact h5 j⟩
/-- A table of such lists, with its cells. -/
def OwnTabM (w : World) (B : Nat) (v : Value) (xss : List (List Int)) (us : List Value) : Prop :=
  us.length = xss.length ∧ w.ownsRow B 52 1 v xss.length us ∧ v ≠ .slice none 0 0 ∧ ∀ j, j < xss.length → ∃ u, us[j]? = some u ∧ InnerM w B v.ownBlock u (xss.getD j [])
theorem OwnTabM.lo {w w' : World} {B : Nat} {v : Value} {xss : List (List Int)} {us : List Value} (h : OwnTabM w B v xss us) (l : Below w.heap.size w w') : OwnTabM w' B v xss us := by
  obtain ⟨hl, hown, hnn, hr⟩ := h
  refine ⟨hl, ⟨hown.1, ?_⟩, hnn, fun j hj => ?_⟩
  · rcases hown.2 with h | ⟨g, cap, cur, e, hb, hg, r⟩
    · exact .inl h
    · exact .inr ⟨g, cap, cur, e, hb, (l.block g (Array.getElem?_eq_some_iff.1 hg).1).trans hg, r⟩
  · obtain ⟨u, hu, hi⟩ := hr j hj
    exact ⟨u, hu, hi.lo l⟩
theorem OwnTabM.open {w : World} {B : Nat} {v : Value} {xss : List (List Int)} {us : List Value} (h : OwnTabM w B v xss us) : ∃ g c, v = .slice (some ⟨g, 0, none⟩) xss.length c ∧ B ≤ g ∧ g < w.heap.size ∧ ∀ j, j < xss.length → ∃ u, us[j]? = some u ∧ w.cell? ⟨g, j, none⟩ = some u ∧ InnerM w B v.ownBlock u (xss.getD j []) := by
  obtain ⟨hl, hown, hnn, hr⟩ := h
  have hown' := hown
  rcases hown.2 with ⟨rfl, h0⟩ | ⟨g, cap, cur, rfl, hb0, hb, _⟩
  · exact absurd rfl hnn
  · refine ⟨g, cap, rfl, hb0, (Array.getElem?_eq_some_iff.1 hb).1, fun j hj => ?_⟩
    obtain ⟨u, hu, hi⟩ := hr j hj
    exact ⟨u, hu, by rw [hown'.cellAt j (by omega)]; exact hu, hi⟩
/-- One more list. -/
theorem ownTabM_snoc {w w1 : World} {B k : Nat} {v v' u : Value} {xss : List (List Int)} {xs : List Int} {us : List Value} (hl : us.length = xss.length) (hk : xss.length = k) (hown : w1.ownsRow B 52 1 v' (k + 1) (us ++ [u]))
    (hg : w.grownBy w1 v.ownBlock) (hob : ∀ g, v'.ownBlock = some g → v.ownBlock = some g ∨ w.heap.size ≤ g) (hr : ∀ j, j < xss.length → ∃ u, us[j]? = some u ∧ InnerM w B v.ownBlock u (xss.getD j [])) (hu : InnerM w B v.ownBlock u xs) : OwnTabM w1 B v' (xss ++ [xs]) (us ++ [u]) := by
  have hnn : v' ≠ .slice none 0 0 := fun e => by
    subst e
    rcases hown.2 with ⟨_, h⟩ | ⟨g, cap, cur, h, _⟩
    · omega
    · cases h
  refine ⟨by rw [List.length_append, List.length_append, hl]; rfl, by rw [List.length_append, hk]; exact hown, hnn, fun j hj => ?_⟩
  rw [List.length_append] at hj
  simp only [List.length_cons, List.length_nil] at hj
  by_cases e : j < xss.length
  · obtain ⟨y, hy, hi⟩ := hr j e
    refine ⟨y, by rw [List.getElem?_append_left (by omega)]; exact hy, ?_⟩
    have : (xss ++ [xs]).getD j [] = xss.getD j [] := by simp only [List.getD]; rw [List.getElem?_append_left e]
    rw [this]
    exact hi.grown hg hob
  · obtain rfl : j = xss.length := by omega
    refine ⟨u, by rw [List.getElem?_append_right (by omega), hl, Nat.sub_self]; rfl, ?_⟩
    have : (xss ++ [xs]).getD xss.length [] = xs := by simp only [List.getD]; rw [List.getElem?_append_right (Nat.le_refl _), Nat.sub_self]; rfl
    rw [this]
    exact hu.grown hg hob
theorem ownI_innerM {w : World} {B C : Nat} {ob : Option Nat} {v : Value} {xs : List Int} (h : OwnI w B v xs) (hx : 0 < xs.length) (hob : ∀ g, ob = some g → g < B) (hC : C ≤ B) : InnerM w C ob v xs := by
  unfold OwnI at h
  have h' := h
  rcases h.2 with ⟨_, h0⟩ | ⟨g, cap, cur, rfl, hb, hg, _⟩
  · omega
  · refine ⟨g, cap, rfl, by omega, (Array.getElem?_eq_some_iff.1 hg).1, fun e => ?_, fun j hj => ?_, fun j => h'.frozenAt j⟩
    · have := hob g e.symm; omega
    · rw [h'.cellAt j (by omega)]; exact icells_at xs j hj
/-- Between the two appends of a round. -/
theorem kid_mid {wq wx w1 w2 : World} {u v1 v2 : Value} {xss : List (List Int)} {us : List Value} {m : Nat} {xs : List Int} {sg : Int} {o : Obj} (HO : OwnTabM wx wq.heap.size u xss us) (L0 : Below wq.heap.size wq wx) (l1 : Below wx.heap.size wx w1) (hx : xs.length = m)
    (o1 : w1.ownsRow wx.heap.size 3 1 v1 m (icells xs)) (h2 : w2.ownsRow wx.heap.size 3 1 v2 (m + 1) (icells xs ++ [.int .i64 sg])) (hg : (w1.alloc o).grownBy w2 v1.ownBlock) (hob : ∀ g, u.ownBlock = some g → wq.heap.size ≤ g ∧ g < wx.heap.size) :
    InnerM w2 wq.heap.size u.ownBlock v2 (xs ++ [sg]) ∧ OwnTabM w2 wq.heap.size u xss us ∧ Below wq.heap.size wq w2 ∧ w1.heap.size + 1 ≤ w2.heap.size := by
  have L : Below wx.heap.size wx w2 := (l1.alloc l1.size o).grown hg (by have := l1.size; simp; omega) (fun j hj => (o1.lt j hj).1)
  refine ⟨ownI_innerM (ownI_snoc h2 hx) (by simp) (fun g hg => (hob g hg).2) L0.size, HO.lo L, L0.trans (L.mono L0.size), by have := hg.size; simpa using this⟩
theorem first_tabM (w : World) (B : Nat) (hB : B ≤ w.heap.size) : OwnTabM ((w.alloc (.cells #[] 3)).alloc (.cells #[.slice (some ⟨w.heap.size, 0, none⟩) 0 0] 52)) B (.slice (some ⟨w.heap.size + 1, 0, none⟩) 1 1) [[]] [.slice (some ⟨w.heap.size, 0, none⟩) 0 0] := by
  have hs : (w.alloc (.cells #[] 3)).heap.size = w.heap.size + 1 := by simp
  refine ⟨rfl, ?_, by simp, fun j hj => ?_⟩
  · have := World.ownsRow_lit (base := B) (e := 52) (size := 1) (w.alloc (.cells #[] 3)) #[.slice (some ⟨w.heap.size, 0, none⟩) 0 0] 1 (by rw [hs]; omega) (by decide) rfl
    rw [hs] at this
    exact this
  · have : j = 0 := by simpa using hj
    subst this
    refine ⟨.slice (some ⟨w.heap.size, 0, none⟩) 0 0, rfl, w.heap.size, 0, rfl, hB, by simp; omega, fun h => ?_, fun j hj => by simp at hj, fun j => ?_⟩
    · have : w.heap.size = w.heap.size + 1 := Option.some.inj h
      omega
    · rw [(below_one (w.alloc (.cells #[] 3)) _).frozen (p := ⟨w.heap.size, j, none⟩) (by simp)]
      exact World.frozen?_alloc_at _ _ _ _ rfl
end Go.Proofs.Ytpklccpkgefniaa
