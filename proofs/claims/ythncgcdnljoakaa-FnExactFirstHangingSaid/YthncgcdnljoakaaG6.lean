/- Impl5, Spec1, Rows1, LoadMark, LoadOwn, as one text. -/
import Derived.Test.YthncgcdnljoakaaG5
import Derived.Deep.AppendLies
import Derived.WalkSpells
import Derived.Test.YthncgcdnljoakaaG4
import Derived.Test.YthncgcdnljoakaaG1
namespace Go.Proofs.Ythncgcdnljoakaa
open Go.RowKit
/-- What two results' own cells hold behind calls. -/
theorem res_cells2 {w w1 : World} {T : TypeId} {x y z u : Value} (l : Below ((w.alloc (.cells #[x, y] T)).alloc (.cells #[z, u] T)).heap.size ((w.alloc (.cells #[x, y] T)).alloc (.cells #[z, u] T)) w1) :
    w1.cell? ⟨w.heap.size, 0, none⟩ = some x ∧ w1.cell? ⟨w.heap.size, 1, none⟩ = some y ∧ w1.frozen? ⟨w.heap.size, 0, none⟩ = false ∧ w1.frozen? ⟨w.heap.size, 1, none⟩ = false ∧
    w1.cell? ⟨w.heap.size + 1, 0, none⟩ = some z ∧ w1.cell? ⟨w.heap.size + 1, 1, none⟩ = some u ∧ w1.frozen? ⟨w.heap.size + 1, 0, none⟩ = false ∧ w1.frozen? ⟨w.heap.size + 1, 1, none⟩ = false ∧ Below w.heap.size w w1 := by
  have hs : (w.alloc (.cells #[x, y] T)).heap.size = w.heap.size + 1 := by simp
  have r := res_cells (w := w.alloc (.cells #[x, y] T)) l
  rw [hs] at r
  have l2 : Below (w.alloc (.cells #[x, y] T)).heap.size (w.alloc (.cells #[x, y] T)) w1 := ((Below.refl _ _).alloc (Nat.le_refl _) _).trans (l.mono (by simp))
  have r2 := res_cells l2
  exact ⟨r2.1, r2.2.1, r2.2.2.1, r2.2.2.2.1, r.1, r.2.1, r.2.2.1, r.2.2.2.1, r2.2.2.2.2⟩
theorem four_set (w : World) (b c : Nat) (hbc : b ≠ c) (u v y z : Value) {x0 x1 x2 x3 : Value} (h1 : w.cell? ⟨b, 0, none⟩ = some x0) (h2 : w.cell? ⟨b, 1, none⟩ = some x1) (h3 : w.cell? ⟨c, 0, none⟩ = some x2) (h4 : w.cell? ⟨c, 1, none⟩ = some x3) :
    ((((w.setCell ⟨b, 0, none⟩ u).setCell ⟨b, 1, none⟩ v).setCell ⟨c, 0, none⟩ y).setCell ⟨c, 1, none⟩ z).cell? ⟨b, 0, none⟩ = some u ∧
    ((((w.setCell ⟨b, 0, none⟩ u).setCell ⟨b, 1, none⟩ v).setCell ⟨c, 0, none⟩ y).setCell ⟨c, 1, none⟩ z).cell? ⟨b, 1, none⟩ = some v ∧
    ((((w.setCell ⟨b, 0, none⟩ u).setCell ⟨b, 1, none⟩ v).setCell ⟨c, 0, none⟩ y).setCell ⟨c, 1, none⟩ z).cell? ⟨c, 0, none⟩ = some y ∧
    ((((w.setCell ⟨b, 0, none⟩ u).setCell ⟨b, 1, none⟩ v).setCell ⟨c, 0, none⟩ y).setCell ⟨c, 1, none⟩ z).cell? ⟨c, 1, none⟩ = some z := by
  have t := two_set w b 0 u v h1 h2
  rw [Nat.zero_add] at t
  have h3' : ((w.setCell ⟨b, 0, none⟩ u).setCell ⟨b, 1, none⟩ v).cell? ⟨c, 0, none⟩ = some x2 := by
    rw [World.cell?_setCell_other _ _ _ _ (fun hh => hbc (congrArg Addr.block hh)), World.cell?_setCell_other _ _ _ _ (fun hh => hbc (congrArg Addr.block hh)), h3]
  have h4' : ((w.setCell ⟨b, 0, none⟩ u).setCell ⟨b, 1, none⟩ v).cell? ⟨c, 1, none⟩ = some x3 := by
    rw [World.cell?_setCell_other _ _ _ _ (fun hh => hbc (congrArg Addr.block hh)), World.cell?_setCell_other _ _ _ _ (fun hh => hbc (congrArg Addr.block hh)), h4]
  have t2 := two_set _ c 0 y z h3' h4'
  rw [Nat.zero_add] at t2
  refine ⟨?_, ?_, t2.1, t2.2.1⟩
  · rw [World.cell?_setCell_other _ _ _ _ (fun hh => hbc (congrArg Addr.block hh).symm), World.cell?_setCell_other _ _ _ _ (fun hh => hbc (congrArg Addr.block hh).symm)]
    exact t.1
  · rw [World.cell?_setCell_other _ _ _ _ (fun hh => hbc (congrArg Addr.block hh).symm), World.cell?_setCell_other _ _ _ _ (fun hh => hbc (congrArg Addr.block hh).symm)]
    exact t.2.1
theorem four_below {w w1 : World} {g : Nat} (h : Below g w w1) (x y z u : Value) : Below g w ((((w1.setCell ⟨g, 0, none⟩ x).setCell ⟨g, 1, none⟩ y).setCell ⟨g + 1, 0, none⟩ z).setCell ⟨g + 1, 1, none⟩ u) :=
  (((two_below h x y).setCell (p := ⟨g + 1, 0, none⟩) (Nat.le_succ _) _)).setCell (p := ⟨g + 1, 1, none⟩) (Nat.le_succ _) _
end Go.Proofs.Ythncgcdnljoakaa
namespace Go.Proofs.Ythncgcdnljoakaa
open Go.RowKit
theorem l2In_is (a : Int) (r : Bool) (h : (decide (0 ≤ a) && decide (a ≤ 60)) = r) (w : World) : Calls Try.prog 158 #[.int .i64 a] w fun e w' => e = .returned (.bool r) ∧ w = w' := by
  subst h
  exact l2In_any a w
theorem l2Row_is (v : Value) (xs : List (Int × Int)) (r : Bool) (h : rowB xs = r) (w : World) (hr : LoadRow w v xs) : Calls Try.prog 126 #[v] w fun e w' => e = .returned (.bool r) ∧ w = w' := by
  subst h
  exact l2Row_any v xs w hr
theorem l2Side_any (v : Value) (xs : List (Int × Int)) (a b : Int) (w : World) (hr : LoadRow w v xs) (hz : RowF xs) (a0 : 0 ≤ a) (a1 : a ≤ 60) (b0 : 0 ≤ b) (b1 : b ≤ 60) :
    Calls Try.prog 79 #[v, .int .i64 a, .int .i64 b] w fun e w' => e = .returned (.int .i64 (sideF a b xs)) ∧ Below w.heap.size w w' := by
  have M1 := Lib.hid (l2Moment_any v xs a w hr hz a0 a1)
  have M2 := Lib.hid (fun w1 (l : Below w.heap.size w w1) => l2Moment_any v xs b w1 (hr.lo l) hz b0 b1)
  clear hr hz a0 a1 b0 b1
  unfold sideF
  generalize momF a xs = m at *
  generalize momF b xs = n at *
  by_cases h1 : m < 0
  · rw [if_pos h1]
    go_enter Try.func79, Try.ntmps79
    go_wp2_with fail
    refine M1.out.mono ?_
    rintro e w1 ⟨rfl, l1⟩
    go_wp2
    go_ret
    exact ⟨rfl, l1⟩
  · rw [if_neg h1]
    by_cases h2 : 0 < n
    case' pos => rw [if_pos h2]
    case' neg => rw [if_neg h2]
    all_goals
      (go_enter Try.func79, Try.ntmps79
       go_wp2_with fail
       refine M1.out.mono ?_
       rintro e w1 ⟨rfl, l1⟩
       have M3 := Lib.hid (M2.out w1 l1)
       clear M1 M2
       go_wp2_with fail
       refine M3.out.mono ?_
       rintro e w2 ⟨rfl, l2⟩
       go_wp2
       go_ret
       exact ⟨rfl, lo_on l1 l2⟩)
end Go.Proofs.Ythncgcdnljoakaa
namespace Go.Proofs.Ythncgcdnljoakaa
open Go.RowKit
def cellsF : List (Int × Int) → List Value
  | [] => []
  | x :: l => .int .i64 x.1 :: .int .i64 x.2 :: cellsF l
theorem cellsF_len (xs : List (Int × Int)) : (cellsF xs).length = xs.length * 2 := by
  induction xs with
  | nil => rfl
  | cons x l ih => simp only [cellsF, List.length_cons, ih]; omega
theorem cellsF_app (xs ys : List (Int × Int)) : cellsF (xs ++ ys) = cellsF xs ++ cellsF ys := by
  induction xs with
  | nil => rfl
  | cons x l ih => simp only [List.cons_append, cellsF, ih]
theorem cellsF_at (xs : List (Int × Int)) : ∀ j, j < xs.length → (cellsF xs)[j * 2]? = some (.int .i64 (xs.getD j (0, 0)).1) ∧ (cellsF xs)[j * 2 + 1]? = some (.int .i64 (xs.getD j (0, 0)).2) := by
  induction xs with
  | nil => intro j h; simp at h
  | cons x l ih =>
    intro j h
    cases j with
    | zero => exact ⟨rfl, rfl⟩
    | succ j =>
      have := ih j (by simpa using h)
      rw [show (j + 1) * 2 = j * 2 + 1 + 1 by omega, show j * 2 + 1 + 1 + 1 = (j * 2 + 1) + 1 + 1 by omega]
      simpa [cellsF, List.getD] using this
theorem cellsF_one (xs : List (Int × Int)) : ∀ u ∈ cellsF xs, u.oneCell' = true := by
  induction xs with
  | nil => intro u h; cases h
  | cons x l ih =>
    intro u h
    simp only [cellsF, List.mem_cons] at h
    rcases h with rfl | rfl | h
    · rfl
    · rfl
    · exact ih u h
/-- The slice value v is a row of loads in memory of the call's own. -/
def OwnL (w : World) (B : Nat) (v : Value) (xs : List (Int × Int)) : Prop := w.ownsRow B 78 2 v xs.length (cellsF xs)
theorem loadRow_own {w : World} {B : Nat} {v : Value} {xs : List (Int × Int)} (h : OwnL w B v xs) : LoadRow w v xs := by
  have h' := h
  unfold OwnL at h'
  rcases h'.2 with ⟨rfl, h0⟩ | ⟨g, cap, cur, rfl, _, hb, _⟩
  · have : xs = [] := List.length_eq_zero_iff.1 h0
    subst this
    exact ⟨none, 0, rfl, .inl rfl⟩
  · refine ⟨_, cap, rfl, .inr ⟨g, 0, rfl, (Array.getElem?_eq_some_iff.1 hb).1, fun j hj => ?_⟩⟩
    have hc := cellsF_at xs j hj
    rw [Nat.zero_add, h'.cellAt (j * 2) (by omega), h'.cellAt (j * 2 + 1) (by omega)]
    exact hc
/-- The cells of a row that came in. -/
theorem loadRow_news {w : World} {g off : Nat} {xs : List (Int × Int)} (h : ∀ j, j < xs.length → w.cell? ⟨g, off + j * 2, none⟩ = some (.int .i64 (xs.getD j (0, 0)).1) ∧ w.cell? ⟨g, off + j * 2 + 1, none⟩ = some (.int .i64 (xs.getD j (0, 0)).2)) :
    ∀ j u, (cellsF xs)[j]? = some u → w.cell? ((⟨g, off, none⟩ : Addr).add j) = some u := by
  intro j u hj
  have hl : j < (cellsF xs).length := (List.getElem?_eq_some_iff.1 hj).1
  rw [cellsF_len] at hl
  rw [Go.WideShapes.add_plain]
  obtain ⟨k, rfl | rfl⟩ : ∃ k, j = k * 2 ∨ j = k * 2 + 1 := ⟨j / 2, by omega⟩
  · have := (cellsF_at xs k (by omega)).1
    rw [hj] at this
    rw [this]
    exact (h k (by omega)).1
  · have := (cellsF_at xs k (by omega)).2
    rw [hj] at this
    rw [this]
    exact (h k (by omega)).2
theorem two_new (w : World) (p q : Int) (t : TypeId) : ∀ j u, (cellsF [(p, q)])[j]? = some u → (w.alloc (.cells #[.int .i64 p, .int .i64 q] t)).cell? ((⟨w.heap.size, 0, none⟩ : Addr).add j) = some u := by
  intro j u hj
  rw [Go.WideShapes.add_plain, Nat.zero_add, World.cell?_alloc_at _ _ _ _ rfl]
  match j, hj with
  | 0, hj => simpa [cellsF] using hj
  | 1, hj => simpa [cellsF] using hj
  | j + 2, hj => simp [cellsF] at hj
theorem OwnL.drew {w : World} {B : Nat} {v : Value} {xs : List (Int × Int)} (h : OwnL w B v xs) : OwnL w.drew B v xs := h
theorem ownL_snoc {w : World} {B k : Nat} {v : Value} {ys : List (Int × Int)} {p q : Int} (h : w.ownsRow B 78 2 v (k + 1) (cellsF ys ++ [.int .i64 p, .int .i64 q])) (hk : ys.length = k) : OwnL w B v (ys ++ [(p, q)]) := by
  unfold OwnL
  rw [List.length_append, hk, cellsF_app]
  exact h
/-- The model keeps what is a row: a row that reads so, and whether it is one. -/
def KeptF (xs : List (Int × Int)) : List (Int × Int) := if rowB xs = true then xs else []
end Go.Proofs.Ythncgcdnljoakaa
namespace Go.Proofs.Ythncgcdnljoakaa
open Go.RowKit
/-- The marks that are written into n loads, from count m on. -/
def MarkedL (w : World) (g m n : Nat) : Prop := ∀ j, j < n → w.cell? ⟨g, j * 2, none⟩ = some (.int .i64 (m + j * 2 : Nat)) ∧ w.cell? ⟨g, j * 2 + 1, none⟩ = some (.int .i64 (m + j * 2 + 1 : Nat))
theorem markL_nil (a : Option Addr) (c m : Nat) (w : World) : Calls Try.prog 33 #[.slice a 0 c, .int .i64 m] w fun e w' => e = .returned (.int .i64 m) ∧ w = w' := by
  go_enter Try.func33, Try.ntmps33
  go_wp2
  refine wp_loop_rounds 1 ?_
  rw [rounds_succ]
  go_wp2
  go_ret
  exact ⟨rfl, rfl⟩
theorem heldL_nil (a : Option Addr) (c m : Nat) (w : World) : Calls Try.prog 50 #[.slice a 0 c, .int .i64 m] w fun e w' => e = .returned (.int .i64 m) ∧ w = w' := by
  go_enter Try.func50, Try.ntmps50
  go_wp2
  refine wp_loop_rounds 1 ?_
  rw [rounds_succ]
  go_wp2
  go_ret
  exact ⟨rfl, rfl⟩
set_option maxHeartbeats 800000 in
/-- Into a row of loads of its own the law writes its marks: nothing that was there turns but this row. -/
theorem markL_any (g n c m : Nat) (w : World) (hn : n ≤ 2000000) (hm : m ≤ 4000000)
    (hc : ∀ j, j < n * 2 → ∃ z, w.cell? ⟨g, j, none⟩ = some (.int .i64 z)) (hf : ∀ j, j < n * 2 → w.frozen? ⟨g, j, none⟩ = false) :
    Calls Try.prog 33 #[.slice (some ⟨g, 0, none⟩) n c, .int .i64 m] w fun e w' => e = .returned (.int .i64 (m + n * 2 : Nat)) ∧ Only g w w' ∧ MarkedL w' g m n := by
  go_enter Try.func33, Try.ntmps33
  go_wp2
  go_loopw [1, 5] (fun x i wr => ∃ k : Nat, k ≤ n ∧ x = .int .i64 (m + k * 2 : Nat) ∧ i = .int .i64 k ∧ Hid (MarkedL wr g m k) ∧ Hid (∀ j, k * 2 ≤ j → j < n * 2 → ∃ z, wr.cell? ⟨g, j, none⟩ = some (.int .i64 z)) ∧ Hid (∀ j, j < n * 2 → wr.frozen? ⟨g, j, none⟩ = false) ∧ Only g w wr) (fun _ i _ => n - (intOf i).toNat)
  case atStart => exact ⟨0, Nat.zero_le _, rfl, rfl, Lib.hid (fun j h => by omega), Lib.hid (fun j _ h => hc j h), Lib.hid hf, Only.refl _ _⟩
  case round =>
    obtain ⟨k, hk, rfl, rfl, H1, H2, H3, ho⟩ := hrel
    by_cases hlt : k < n
    · obtain ⟨t, c1⟩ := H2.out (k * 2) (Nat.le_refl _) (by omega)
      obtain ⟨u, c2⟩ := H2.out (k * 2 + 1) (by omega) (by omega)
      have f1 := H3.out (k * 2) (by omega)
      have f2 := H3.out (k * 2 + 1) (by omega)
      have hlt' : (k : Int) < (n : Int) := by omega
      have TS := Lib.hid (two_set wr g (k * 2) (.int .i64 ((m : Int) + (k : Int) * 2)) (.int .i64 ((m : Int) + (k : Int) * 2 + 1)) c1 c2)
      clear hc hf
      go_wp2_with fail
      go_roundw
      case rel =>
        obtain ⟨t1, t2, t3⟩ := TS.out
        refine ⟨k + 1, by omega, by go_num, by go_num, Lib.hid (fun j hj => ?_), Lib.hid (fun j hj hjn => ?_), Lib.hid (fun j hj => ?_), ho.trans ((only_set _ _ _ _).trans (only_set _ _ _ _))⟩
        · by_cases e : j = k
          · subst e
            rw [t1, t2, show ((m + j * 2 + 1 : Nat) : Int) = (m : Int) + (j : Int) * 2 + 1 by omega, show ((m + j * 2 : Nat) : Int) = (m : Int) + (j : Int) * 2 by omega]
            exact ⟨rfl, rfl⟩
          · rw [t3 _ (by omega) (by omega), t3 _ (by omega) (by omega)]
            exact H1.out j (by omega)
        · rw [t3 _ (by omega) (by omega)]
          exact H2.out j (by omega) hjn
        · rw [World.frozen?_setCell, World.frozen?_setCell]
          exact H3.out j hj
      case measure => simp [intOf]; omega
    · obtain rfl : k = n := by omega
      clear hc hf
      go_wp2
      go_ret
      exact ⟨rfl, ho, H1.out⟩
set_option maxHeartbeats 800000 in
/-- The marks are there again. -/
theorem heldL_any (g n c m : Nat) (w : World) (hn : n ≤ 2000000) (hm : m ≤ 4000000) (hc : MarkedL w g m n) :
    Calls Try.prog 50 #[.slice (some ⟨g, 0, none⟩) n c, .int .i64 m] w fun e w' => e = .returned (.int .i64 (m + n * 2 : Nat)) ∧ w = w' := by
  have HC := Lib.hid hc
  clear hc
  go_enter Try.func50, Try.ntmps50
  go_wp2
  go_loopw [1, 5] (fun x i wr => ∃ k : Nat, k ≤ n ∧ x = .int .i64 (m + k * 2 : Nat) ∧ i = .int .i64 k ∧ wr = w) (fun _ i _ => n - (intOf i).toNat)
  case atStart => exact ⟨0, Nat.zero_le _, rfl, rfl, rfl⟩
  case round =>
    obtain ⟨k, hk, rfl, rfl, rfl⟩ := hrel
    by_cases hlt : k < n
    · obtain ⟨c1, c2⟩ := HC.out k hlt
      have hlt' : (k : Int) < (n : Int) := by omega
      rw [show ((m + k * 2 : Nat) : Int) = (m : Int) + (k : Int) * 2 by omega] at c1
      rw [show ((m + k * 2 + 1 : Nat) : Int) = (m : Int) + (k : Int) * 2 + 1 by omega] at c2
      go_wp2
      go_roundw
      case rel => exact ⟨k + 1, by omega, by go_num, by go_num, trivial⟩
      case measure => simp [intOf]; omega
    · obtain rfl : k = n := by omega
      go_wp2
      go_ret
      exact ⟨rfl, rfl⟩
end Go.Proofs.Ythncgcdnljoakaa
namespace Go.Proofs.Ythncgcdnljoakaa
open Go.RowKit
def MineL (w : World) (B E : Nat) (v : Value) (xs : List (Int × Int)) : Prop :=
  (xs = [] ∧ ∃ a c, v = .slice a 0 c) ∨ ∃ g c, v = .slice (some ⟨g, 0, none⟩) xs.length c ∧ B ≤ g ∧ g < E ∧ E ≤ w.heap.size ∧ (∀ j, j < xs.length → w.cell? ⟨g, j * 2, none⟩ = some (.int .i64 (xs.getD j (0, 0)).1) ∧ w.cell? ⟨g, j * 2 + 1, none⟩ = some (.int .i64 (xs.getD j (0, 0)).2)) ∧ ∀ j, w.frozen? ⟨g, j, none⟩ = false
theorem MineL.row {w : World} {B E : Nat} {v : Value} {xs : List (Int × Int)} (h : MineL w B E v xs) : LoadRow w v xs := by
  rcases h with ⟨rfl, a, c, rfl⟩ | ⟨g, c, rfl, _, hg, hE, hc, _⟩
  · exact ⟨a, c, rfl, .inl rfl⟩
  · exact ⟨_, _, rfl, .inr ⟨g, 0, rfl, by omega, fun j hj => by rw [Nat.zero_add]; exact hc j hj⟩⟩
theorem MineL.part {w w' : World} {B E B' E' : Nat} {v : Value} {xs : List (Int × Int)} (h : MineL w B E v xs) (p : Part B' E' w w') (ho : E ≤ B' ∨ E' ≤ B) : MineL w' B E v xs := by
  rcases h with h | ⟨g, c, e, h1, h2, h3, hc, hf⟩
  · exact .inl h
  · have hb : g < B' ∨ E' ≤ g := by omega
    exact .inr ⟨g, c, e, h1, h2, Nat.le_trans h3 p.size, fun j hj => ⟨(p.cell (p := ⟨g, j * 2, none⟩) (by simp only; omega) hb).trans (hc j hj).1, (p.cell (p := ⟨g, j * 2 + 1, none⟩) (by simp only; omega) hb).trans (hc j hj).2⟩, fun j => (p.frozen (p := ⟨g, j, none⟩) (by simp only; omega) hb).trans (hf j)⟩
theorem MineL.lo {w w' : World} {B E : Nat} {v : Value} {xs : List (Int × Int)} (h : MineL w B E v xs) (l : Below w.heap.size w w') : MineL w' B E v xs :=
  h.part (Part.of_lo (B := E) (E := E) l) (.inl (Nat.le_refl _))
theorem mineL_nil (w : World) (B E : Nat) (a : Option Addr) (c : Nat) : MineL w B E (.slice a 0 c) [] := .inl ⟨rfl, a, c, rfl⟩
theorem mineL_own {w : World} {B : Nat} {v : Value} {xs : List (Int × Int)} (h : OwnL w B v xs) : MineL w B w.heap.size v xs := by
  unfold OwnL at h
  have h' := h
  rcases h.2 with ⟨rfl, h0⟩ | ⟨g, cap, cur, rfl, hb, hg, _⟩
  · exact .inl ⟨List.length_eq_zero_iff.1 h0, none, 0, rfl⟩
  · exact .inr ⟨g, cap, rfl, hb, (Array.getElem?_eq_some_iff.1 hg).1, Nat.le_refl _, fun j hj => by
      have hc := cellsF_at xs j hj
      rw [h'.cellAt (j * 2) (by omega), h'.cellAt (j * 2 + 1) (by omega)]
      exact hc, fun j => h'.frozenAt j⟩
def HeldL (w : World) (B E : Nat) (v : Value) (xs : List (Int × Int)) (m : Nat) : Prop := (xs = [] ∧ ∃ a c, v = .slice a 0 c) ∨ ∃ g c, v = .slice (some ⟨g, 0, none⟩) xs.length c ∧ B ≤ g ∧ g < E ∧ E ≤ w.heap.size ∧ MarkedL w g m xs.length
theorem HeldL.part {w w' : World} {v : Value} {xs : List (Int × Int)} {m B E B' E' : Nat} (h : HeldL w B E v xs m) (p : Part B' E' w w') (ho : E ≤ B' ∨ E' ≤ B) : HeldL w' B E v xs m := by
  rcases h with h | ⟨g, c, e, h1, h2, h3, hm⟩
  · exact .inl h
  · exact .inr ⟨g, c, e, h1, h2, Nat.le_trans h3 p.size, fun j hj => by
      rw [p.cell (p := ⟨g, j * 2, none⟩) (by simp only; omega) (by simp only; omega), p.cell (p := ⟨g, j * 2 + 1, none⟩) (by simp only; omega) (by simp only; omega)]
      exact hm j hj⟩
theorem HeldL.lo {w w' : World} {v : Value} {xs : List (Int × Int)} {m B E : Nat} (h : HeldL w B E v xs m) (l : Below w.heap.size w w') : HeldL w' B E v xs m :=
  h.part (Part.of_lo (B := E) (E := E) l) (.inl (Nat.le_refl _))
theorem markL_mine (B E : Nat) (v : Value) (xs : List (Int × Int)) (m : Nat) (w : World) (h : MineL w B E v xs) (hn : xs.length ≤ 2000000) (hm : m ≤ 4000000) :
    Calls Try.prog 33 #[v, .int .i64 m] w fun e w' => e = .returned (.int .i64 (m + xs.length * 2 : Nat)) ∧ Part B E w w' ∧ HeldL w' B E v xs m := by
  rcases h with ⟨rfl, a, c, rfl⟩ | ⟨g, c, rfl, hB, hE, hs, hc, hf⟩
  · refine (markL_nil a c m w).mono ?_
    rintro e w' ⟨rfl, rfl⟩
    exact ⟨rfl, Part.refl _ _ _, .inl ⟨rfl, a, c, rfl⟩⟩
  · refine (markL_any g xs.length c m w hn hm (fun j hj => ?_) (fun j _ => hf j)).mono ?_
    · obtain ⟨k, rfl | rfl⟩ : ∃ k, j = k * 2 ∨ j = k * 2 + 1 := ⟨j / 2, by omega⟩
      · exact ⟨_, (hc k (by omega)).1⟩
      · exact ⟨_, (hc k (by omega)).2⟩
    · rintro e w' ⟨rfl, ho, hh⟩
      exact ⟨rfl, ho.part hB hE, .inr ⟨g, c, rfl, hB, hE, Nat.le_trans hs ho.size, hh⟩⟩
theorem heldL_held (B E : Nat) (v : Value) (xs : List (Int × Int)) (m : Nat) (w : World) (h : HeldL w B E v xs m) (hn : xs.length ≤ 2000000) (hm : m ≤ 4000000) :
    Calls Try.prog 50 #[v, .int .i64 m] w fun e w' => e = .returned (.int .i64 (m + xs.length * 2 : Nat)) ∧ w = w' := by
  rcases h with ⟨rfl, a, c, rfl⟩ | ⟨g, c, rfl, _, _, _, hc⟩
  · exact heldL_nil a c m w
  · exact heldL_any g xs.length c m w hn hm hc
end Go.Proofs.Ythncgcdnljoakaa
