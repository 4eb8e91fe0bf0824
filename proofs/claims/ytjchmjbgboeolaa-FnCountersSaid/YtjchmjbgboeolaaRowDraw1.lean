/- The contracts of the draws of rows, places and bases. -/
import Derived.Test.YtjchmjbgboeolaaDrawKit
import Derived.Test.YtjchmjbgboeolaaMarks
namespace Go.Proofs.Ytjchmjbgboeolaa
open Go.RowKit
/-- The cursor is where it can draw from. -/
structure Dr (w : World) (C : Nat) (a : Option Addr) (len cap p : Nat) (seed : Int) : Prop where
  cur : CurAt w C (.slice a len cap) p seed
  code : CodeAt w C a len
theorem Dr.lo {w w' : World} {C : Nat} {a : Option Addr} {len cap p : Nat} {seed : Int} (h : Dr w C a len cap p seed) (l : Lo w w') : Dr w' C a len cap p seed :=
  ⟨h.cur.lo l, h.code.lo l (Nat.le_of_lt (curC h.cur))⟩
theorem Dr.on {w w' : World} {C : Nat} {a : Option Addr} {len cap p p' : Nat} {seed seed' : Int} (h : Dr w C a len cap p seed) (c : CurAt w' C (.slice a len cap) p' seed') (o : Only C w w') : Dr w' C a len cap p' seed' :=
  ⟨c, h.code.only o (Nat.le_of_lt (curC h.cur))⟩
/-- What a draw of a number ends in. -/
def NumEnd (C : Nat) (a : Option Addr) (len cap p k : Nat) (T : Int → Prop) (w : World) (e : Ending) (w' : World) : Prop :=
  ∃ (t seed' : Int) (p' : Nat), e = .returned (.int .i64 t) ∧ T t ∧ p' ≤ p + k ∧ Dr w' C a len cap p' seed' ∧ Only C w w'
theorem pick_num (C : Nat) (a : Option Addr) (len cap p : Nat) (seed n : Int) (w : World) (h : Dr w C a len cap p seed) (hp : p ≤ 900000) (hn : 1 ≤ n) (hn2 : n ≤ 1000000) :
    Calls Try.prog 62 #[.pointer (some ⟨C, 0, none⟩), .int .i64 n] w (NumEnd C a len cap p 2 (fun t => 0 ≤ t ∧ t < n) w) := by
  refine (pick_any C C a len cap p seed n w h.cur h.code (Nat.le_refl _) (Nat.le_of_lt (curC h.cur)) hp hn hn2).mono ?_
  rintro e w1 ⟨x, s1, p1, rfl, x0, x1, hp1, hc1, b1⟩
  exact ⟨x, s1, p1, rfl, ⟨x0, x1⟩, hp1, h.on hc1 b1, b1⟩
theorem among_new (C : Nat) (a : Option Addr) (len cap p n : Nat) (seed : Int) (w : World) (cs : Array Value) (t : TypeId) (T : Int → Prop) (h : Dr w C a len cap p seed) (hp : p ≤ 900000) (hn : 1 ≤ n) (hn2 : n ≤ 1000000) (hT : ∀ j, j < n → ∃ z, cs[j]? = some (.int .i64 z) ∧ T z) :
    Calls Try.prog 53 #[.pointer (some ⟨C, 0, none⟩), .slice (some ⟨w.heap.size, 0, none⟩) n n] (w.alloc (.cells cs t)) (NumEnd C a len cap p 2 T w) := by
  have hC := curC h.cur
  have h2 := h.lo (lo_alloc w (.cells cs t))
  refine (among_any C C w.heap.size a len cap p n n seed (w.alloc (.cells cs t)) T h2.cur h2.code (Nat.le_refl _) (by simp; omega) hp hn hn2 (by omega) (by simp) (fun j hj => ?_)).mono ?_
  · obtain ⟨z, hz, hTz⟩ := hT j hj
    exact ⟨z, by rw [lit_cells]; exact hz, hTz⟩
  · rintro e w1 ⟨x, s1, p1, rfl, hTx, hp1, hc1, b1⟩
    exact ⟨x, s1, p1, rfl, hTx, hp1, h2.on hc1 b1, (Only.of_lo (lo_alloc w _)).trans b1⟩
theorem one_num (C : Nat) (a : Option Addr) (len cap p : Nat) (seed n : Int) (w : World) (h : Dr w C a len cap p seed) (hp : p ≤ 900000) (hn : 1 ≤ n) (hn2 : n ≤ 1000000) :
    Calls Try.prog 61 #[.pointer (some ⟨C, 0, none⟩), .int .i64 n] w fun e w' => ∃ (x : Bool) (seed' : Int) (p' : Nat), e = .returned (.bool x) ∧ p' ≤ p + 2 ∧ Dr w' C a len cap p' seed' ∧ Only C w w' := by
  refine (one_any C C a len cap p seed n w h.cur h.code (Nat.le_refl _) (Nat.le_of_lt (curC h.cur)) hp hn hn2).mono ?_
  rintro e w1 ⟨x, s1, p1, rfl, hp1, hc1, b1⟩
  exact ⟨x, s1, p1, rfl, hp1, h.on hc1 b1, b1⟩
def Size (t : Int) : Prop := 1 ≤ t ∧ t ≤ 61
theorem sizes4 : ∀ j, j < 4 → ∃ z, (#[.int .i64 11, .int .i64 11, .int .i64 21, .int .i64 61] : Array Value)[j]? = some (.int .i64 z) ∧ Size z := by
  intro j hj
  have : j = 0 ∨ j = 1 ∨ j = 2 ∨ j = 3 := by omega
  rcases this with rfl | rfl | rfl | rfl <;> exact ⟨_, rfl, by unfold Size; omega⟩
theorem sizes3 : ∀ j, j < 3 → ∃ z, (#[.int .i64 3, .int .i64 9, .int .i64 30] : Array Value)[j]? = some (.int .i64 z) ∧ Size z := by
  intro j hj
  have : j = 0 ∨ j = 1 ∨ j = 2 := by omega
  rcases this with rfl | rfl | rfl <;> exact ⟨_, rfl, by unfold Size; omega⟩
set_option maxHeartbeats 800000 in
theorem placeIn_any (C : Nat) (a : Option Addr) (len cap p : Nat) (seed : Int) (w : World) (h : Dr w C a len cap p seed) (hp : p ≤ 800000) :
    Calls Try.prog 54 #[.pointer (some ⟨C, 0, none⟩)] w (NumEnd C a len cap p 6 (fun _ => True) w) := by
  have ON := Lib.hid (one_num C a len cap p seed 30 w h (by omega) (by omega) (by omega))
  clear h
  go_enter Try.func54, Try.ntmps54
  go_wp2_with fail
  refine ON.out.mono ?_
  rintro e w1 ⟨x, s1, p1, rfl, hp1, d1, b1⟩
  have D1 := Lib.hid d1
  have B1 := Lib.hid b1
  clear d1 b1 ON
  cases x
  · go_wp2_with fail
    refine (among_new C a len cap p1 4 s1 w1 _ _ Size D1.out (by omega) (by omega) (by omega) sizes4).mono ?_
    rintro e w2 ⟨t, s2, p2, rfl, ⟨t0, t1⟩, hp2, d2, b2⟩
    have PK := Lib.hid (pick_num C a len cap p2 s2 t w2 d2 (by omega) t0 (by omega))
    have B2 := Lib.hid (B1.out.trans b2)
    clear d2 b2
    go_wp2_with fail
    refine PK.out.mono ?_
    rintro e w3 ⟨u, s3, p3, rfl, _, hp3, d3, b3⟩
    have D3 := Lib.hid d3
    have B3 := Lib.hid (B2.out.trans b3)
    clear d3 b3
    go_wp2
    go_ret
    exact ⟨u, s3, p3, rfl, trivial, by omega, D3.out, B3.out⟩
  · go_wp2_with fail
    refine (among_new C a len cap p1 5 s1 w1 _ _ (fun _ => True) D1.out (by omega) (by omega) (by omega) ?_).mono ?_
    · intro j hj
      have : j = 0 ∨ j = 1 ∨ j = 2 ∨ j = 3 ∨ j = 4 := by omega
      rcases this with rfl | rfl | rfl | rfl | rfl <;> exact ⟨_, rfl, trivial⟩
    · rintro e w2 ⟨t, s2, p2, rfl, _, hp2, d2, b2⟩
      have D2 := Lib.hid d2
      have B2 := Lib.hid (B1.out.trans b2)
      clear d2 b2
      go_wp2
      go_ret
      exact ⟨t, s2, p2, rfl, trivial, by omega, D2.out, B2.out⟩
def BaseEnd (C : Nat) (a : Option Addr) (len cap p : Nat) (w : World) (e : Ending) (w' : World) : Prop :=
  ∃ (x y seed' : Int) (p' : Nat), e = .returned (.tuple #[.int .i64 x, .int .i64 y]) ∧ p' ≤ p + 14 ∧ Dr w' C a len cap p' seed' ∧ Only C w w'
set_option maxHeartbeats 800000 in
theorem base_any (C : Nat) (a : Option Addr) (len cap p : Nat) (seed : Int) (w : World) (h : Dr w C a len cap p seed) (hp : p ≤ 700000) :
    Calls Try.prog 52 #[.pointer (some ⟨C, 0, none⟩)] w (BaseEnd C a len cap p w) := by
  have P1 := Lib.hid (placeIn_any C a len cap p seed w h (by omega))
  clear h
  go_enter Try.func52, Try.ntmps52
  go_wp2_with fail
  refine P1.out.mono ?_
  rintro e w1 ⟨x, s1, p1, rfl, _, hp1, d1, b1⟩
  have B1 := Lib.hid b1
  have P2 := Lib.hid (placeIn_any C a len cap p1 s1 w1 d1 (by omega))
  clear d1 b1 P1
  go_wp2_with fail
  refine P2.out.mono ?_
  rintro e w2 ⟨y, s2, p2, rfl, _, hp2, d2, b2⟩
  have B2 := Lib.hid (B1.out.trans b2)
  have D2 := Lib.hid d2
  have ON := Lib.hid (one_num C a len cap p2 s2 16 w2 d2 (by omega) (by omega) (by omega))
  clear d2 b2 P2
  by_cases hxy : y < x
  · go_wp2_with fail
    refine ON.out.mono ?_
    rintro e w3 ⟨b, s3, p3, rfl, hp3, d3, b3⟩
    have B3 := Lib.hid (B2.out.trans b3)
    have D3 := Lib.hid d3
    clear d3 b3 ON
    cases b
    all_goals
      (go_wp2
       go_ret2
       exact ⟨_, _, s3, p3, rfl, by omega, D3.out, B3.out⟩)
  · clear ON
    go_wp2
    go_ret2
    exact ⟨_, _, s2, p2, rfl, by omega, D2.out, B2.out⟩
end Go.Proofs.Ytjchmjbgboeolaa
