/- The contracts of the draws of rows, places and bases. -/
import Derived.Test.YtpklccpkgefniaaDrawKit
namespace Go.Proofs.Ytpklccpkgefniaa
open Go.RowKit
/-- The cursor is where it can draw from. -/
structure Dr (w : World) (C : Nat) (a : Option Addr) (len cap p : Nat) (seed : Int) : Prop where
  cur : CurAt w C (.slice a len cap) p seed
  code : CodeAt w C a len
theorem Dr.lo {w w' : World} {C : Nat} {a : Option Addr} {len cap p : Nat} {seed : Int} (h : Dr w C a len cap p seed) (l : Lo w w') : Dr w' C a len cap p seed :=
  ⟨h.cur.lo l, h.code.lo l (Nat.le_of_lt (curC h.cur))⟩
theorem Dr.on {w w' : World} {C : Nat} {a : Option Addr} {len cap p p' : Nat} {seed seed' : Int} (h : Dr w C a len cap p seed) (c : CurAt w' C (.slice a len cap) p' seed') (o : Only C w w') : Dr w' C a len cap p' seed' :=
  ⟨c, h.code.only o (Nat.le_of_lt (curC h.cur))⟩
/-- What a draw of a number ends in. -/
def NumEnd (C : Nat) (a : Option Addr) (len cap p k : Nat) (T : Int → Prop) (w : World) (e : Ending) (w' : World) : Prop :=
  ∃ (t seed' : Int) (p' : Nat), e = .returned (.int .i64 t) ∧ T t ∧ p' ≤ p + k ∧ Dr w' C a len cap p' seed' ∧ Only C w w'
theorem pick_num (C : Nat) (a : Option Addr) (len cap p : Nat) (seed n : Int) (w : World) (h : Dr w C a len cap p seed) (hp : p ≤ 900000) (hn : 1 ≤ n) (hn2 : n ≤ 1000000) :
    Calls Try.prog 141 #[.pointer (some ⟨C, 0, none⟩), .int .i64 n] w (NumEnd C a len cap p 2 (fun t => 0 ≤ t ∧ t < n) w) := by
  refine (pick_any C C a len cap p seed n w h.cur h.code (Nat.le_refl _) (Nat.le_of_lt (curC h.cur)) hp hn hn2).mono ?_
  rintro e w1 ⟨x, s1, p1, rfl, x0, x1, hp1, hc1, b1⟩
  exact ⟨x, s1, p1, rfl, ⟨x0, x1⟩, hp1, h.on hc1 b1, b1⟩
theorem among_new (C : Nat) (a : Option Addr) (len cap p n : Nat) (seed : Int) (w : World) (cs : Array Value) (t : TypeId) (T : Int → Prop) (h : Dr w C a len cap p seed) (hp : p ≤ 900000) (hn : 1 ≤ n) (hn2 : n ≤ 1000000) (hT : ∀ j, j < n → ∃ z, cs[j]? = some (.int .i64 z) ∧ T z) :
    Calls Try.prog 142 #[.pointer (some ⟨C, 0, none⟩), .slice (some ⟨w.heap.size, 0, none⟩) n n] (w.alloc (.cells cs t)) (NumEnd C a len cap p 2 T w) := by
  have hC := curC h.cur
  have h2 := h.lo (lo_alloc w (.cells cs t))
  refine (among_any C C w.heap.size a len cap p n n seed (w.alloc (.cells cs t)) T h2.cur h2.code (Nat.le_refl _) (by simp; omega) hp hn hn2 (by omega) (by simp) (fun j hj => ?_)).mono ?_
  · obtain ⟨z, hz, hTz⟩ := hT j hj
    exact ⟨z, by rw [lit_cells]; exact hz, hTz⟩
  · rintro e w1 ⟨x, s1, p1, rfl, hTx, hp1, hc1, b1⟩
    exact ⟨x, s1, p1, rfl, hTx, hp1, h2.on hc1 b1, (Only.of_lo (lo_alloc w _)).trans b1⟩
theorem one_num (C : Nat) (a : Option Addr) (len cap p : Nat) (seed n : Int) (w : World) (h : Dr w C a len cap p seed) (hp : p ≤ 900000) (hn : 1 ≤ n) (hn2 : n ≤ 1000000) :
    Calls Try.prog 140 #[.pointer (some ⟨C, 0, none⟩), .int .i64 n] w fun e w' => ∃ (x : Bool) (seed' : Int) (p' : Nat), e = .returned (.bool x) ∧ p' ≤ p + 2 ∧ Dr w' C a len cap p' seed' ∧ Only C w w' := by
  refine (one_any C C a len cap p seed n w h.cur h.code (Nat.le_refl _) (Nat.le_of_lt (curC h.cur)) hp hn hn2).mono ?_
  rintro e w1 ⟨x, s1, p1, rfl, hp1, hc1, b1⟩
  exact ⟨x, s1, p1, rfl, hp1, h.on hc1 b1, b1⟩
def Size (t : Int) : Prop := 1 ≤ t ∧ t ≤ 61
theorem sizes4 : ∀ j, j < 4 → ∃ z, (#[.int .i64 11, .int .i64 11, .int .i64 21, .int .i64 61] : Array Value)[j]? = some (.int .i64 z) ∧ Size z := by
  intro j hj
  have : j = 0 ∨ j = 1 ∨ j = 2 ∨ j = 3 := by omega
  rcases this with rfl | rfl | rfl | rfl <;> exact ⟨_, rfl, by unfold Size; omega⟩
theorem sizes3 : ∀ j, j < 3 → ∃ z, (#[.int .i64 3, .int .i64 9, .int .i64 30] : Array Value)[j]? = some (.int .i64 z) ∧ Size z := by
  intro j hj
  have : j = 0 ∨ j = 1 ∨ j = 2 := by omega
  rcases this with rfl | rfl | rfl <;> exact ⟨_, rfl, by unfold Size; omega⟩
def BaseEnd (C : Nat) (a : Option Addr) (len cap p : Nat) (w : World) (e : Ending) (w' : World) : Prop :=
  ∃ (x y seed' : Int) (p' : Nat), e = .returned (.tuple #[.int .i64 x, .int .i64 y]) ∧ p' ≤ p + 14 ∧ Dr w' C a len cap p' seed' ∧ Only C w w'
theorem l1Least_any (a b : Int) (w : World) : Calls Try.prog 178 #[.int .i64 a, .int .i64 b] w fun e w' => e = .returned (.int .i64 (if a < b then a else b)) ∧ w = w' := by
  by_cases h : a < b
  all_goals go_enter Try.func178, Try.ntmps178
  all_goals go_wp2
  all_goals go_ret
  all_goals exact ⟨rfl, rfl⟩
theorem any4 {x0 x1 x2 x3 : Int} : ∀ j, j < 4 → ∃ z, (#[.int .i64 x0, .int .i64 x1, .int .i64 x2, .int .i64 x3] : Array Value)[j]? = some (.int .i64 z) ∧ True := by
  intro j hj
  have : j = 0 ∨ j = 1 ∨ j = 2 ∨ j = 3 := by omega
  rcases this with rfl | rfl | rfl | rfl <;> exact ⟨_, rfl, trivial⟩
theorem Dr.set {w1 : World} {C : Nat} {a : Option Addr} {len cap p B : Nat} {seed : Int} (h : Dr w1 C a len cap p seed) (hC : C < B) {g : Nat} (hg : B ≤ g) (j : Nat) (x : Value) : Dr (w1.setCell ⟨g, j, none⟩ x) C a len cap p seed := by
  have l : Below (C + 1) w1 (w1.setCell ⟨g, j, none⟩ x) := (Below.refl _ _).setCell (p := ⟨g, j, none⟩) (by simp; omega) x
  have c := h.cur
  refine ⟨⟨?_, ?_, ?_, ?_, ?_⟩, h.code.on l (Nat.le_succ C)⟩
  · rw [l.cell (p := ⟨C, 0, none⟩) (Nat.lt_succ_self C)]; exact c.code
  · rw [l.cell (p := ⟨C, 1, none⟩) (Nat.lt_succ_self C)]; exact c.place
  · rw [l.cell (p := ⟨C, 2, none⟩) (Nat.lt_succ_self C)]; exact c.seed
  · rw [l.frozen (p := ⟨C, 1, none⟩) (Nat.lt_succ_self C)]; exact c.free1
  · rw [l.frozen (p := ⟨C, 2, none⟩) (Nat.lt_succ_self C)]; exact c.free2
theorem only_set_own {w w1 : World} {C g : Nat} (h : Only C w w1) (hg : w.heap.size ≤ g) (j : Nat) (x : Value) : Only C w (w1.setCell ⟨g, j, none⟩ x) := by
  have l : Below w.heap.size w1 (w1.setCell ⟨g, j, none⟩ x) := (Below.refl _ _).setCell (p := ⟨g, j, none⟩) hg x
  exact ⟨l.os.trans h.os, l.tape.trans h.tape, l.output.trans h.output, Nat.le_trans h.size l.size, fun k hk hlt => (l.block k hlt).trans (h.block k hk hlt)⟩
end Go.Proofs.Ytpklccpkgefniaa
