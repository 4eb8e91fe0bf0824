/- The library's sort at cells. -/
import Derived.Test.YtmcjichpeijiaaaBp1
import Derived.Test.YtmcjichpeijiaaaShelf
import Derived.Test.YtmcjichpeijiaaaMergePlain
namespace Go.Proofs.Ytmcjichpeijiaaa
open Go.RowKit Go.Sort
def encC (x : Int × Int) : List Value := [.int .i64 x.1, .int .i64 x.2]
theorem ltC (x y : Int × Int) : ltOf cmpC x y = bfC x y := by
  unfold ltOf
  cases e : bfC x y with
  | true => rw [decide_eq_true_iff]; exact (cmpC_lt x y).2 e
  | false => rw [decide_eq_false_iff_not]; intro h; rw [(cmpC_lt x y).1 h] at e; cases e
theorem swoC : SWO (ltOf cmpC) := by
  refine ⟨fun x => ?_, fun x y z => ?_, fun x y z => ?_⟩
  · rw [ltC]; simp [bfC]
  · rw [ltC, ltC, ltC]; simp [bfC]; omega
  · rw [ltC, ltC, ltC]; simp [bfC]; omega
set_option maxHeartbeats 800000 in
theorem byCell_grow (x y : Int × Int) (w : World) : Calls Try.prog 81 #[.agg #[.int .i64 x.1, .int .i64 x.2], .agg #[.int .i64 y.1, .int .i64 y.2]] w fun e w' => e = .returned (.int .i64 (cmpC x y)) ∧ ∃ q os', w' = grow (w.drewN q) os' := by
  have C1 := Lib.hid (fun w => compare_any x.1 y.1 w)
  have C2 := Lib.hid (fun w => compare_any x.2 y.2 w)
  have O := Lib.hid (fun t W => or_new (cmpZ x.1 y.1) (cmpZ x.2 y.2) t W)
  obtain ⟨r, hr⟩ : ∃ r, (if cmpZ x.1 y.1 ≠ 0 then cmpZ x.1 y.1 else cmpZ x.2 y.2) = r := ⟨_, rfl⟩
  have HR := Lib.hid (show cmpC x y = r from hr)
  rw [hr] at O
  clear hr
  generalize cmpZ x.1 y.1 = u at C1 O
  generalize cmpZ x.2 y.2 = v at C2 O
  rw [HR.out]
  generalize x.1 = p at *
  generalize x.2 = q at *
  generalize y.1 = s at *
  generalize y.2 = t at *
  have B0 := Lib.hid (show (w.alloc (.cells #[.int .i64 p, .int .i64 q] 29)).alloc (.cells #[.int .i64 s, .int .i64 t] 29) = grow w #[.cells #[.int .i64 p, .int .i64 q] 29, .cells #[.int .i64 s, .int .i64 t] 29] by rw [alloc_eq_grow, alloc_eq_grow, grow_grow]; rfl)
  go_enter Try.func81, Try.ntmps81
  go_wp2_with fail
  have e0 := (box2_new w (.int .i64 p) (.int .i64 q) 29).lo ((Below.refl _ _).alloc (Nat.le_refl _) (.cells #[.int .i64 s, .int .i64 t] 29))
  have e1 := box2_new (w.alloc (.cells #[.int .i64 p, .int .i64 q] 29)) (.int .i64 s) (.int .i64 t) 29
  rw [World.size_alloc] at e1
  obtain ⟨e00, e01, e02⟩ := e0
  obtain ⟨e10, e11, e12⟩ := e1
  generalize (w.alloc (.cells #[.int .i64 p, .int .i64 q] 29)).alloc (.cells #[.int .i64 s, .int .i64 t] 29) = W at *
  go_region_held3 (fun w' => w'.cell? ⟨w.heap.size, 0, none⟩ = some (.int .i64 p) ∧ w'.cell? ⟨w.heap.size, 1, none⟩ = some (.int .i64 q) ∧ w'.cell? ⟨w.heap.size + 1, 0, none⟩ = some (.int .i64 s) ∧ w'.cell? ⟨w.heap.size + 1, 1, none⟩ = some (.int .i64 t))
    (first | exact ⟨e01, e02, e11, e12⟩ | go_keep)
    (first
      | (go_at_call 138; (first | with_reducible refine (C1.out _).mono ?_ | with_reducible refine (C2.out _).mono ?_); rintro e w1 ⟨rfl, rfl⟩)
      | (go_at_call 137; refine (O.out _ _).mono ?_; rintro e w1 ⟨rfl, rfl⟩))
  go_wp2
  go_ret
  exact ⟨rfl, 1, _, by rw [B0.out, alloc_eq_grow, grow_grow]; rfl⟩
theorem sorted_belowC (w : World) (gg m : Nat) (d : Array (Int × Int)) (os : Array Obj) (hgg : gg < w.heap.size) : Below gg w (sortWorldK encC 2 w gg 0 m d os) := by
  unfold sortWorldK
  refine ⟨rfl, rfl, rfl, ?_, fun k hk => ?_⟩
  · simp [putRowK, grow]
  · unfold grow putRowK putRow mapBlock
    rw [Array.getElem?_append, if_pos (by simp; omega), Array.getElem?_modify, if_neg (by omega)]
    rfl
theorem sorted_frozen (w : World) (gg m : Nat) (d : Array (Int × Int)) (os : Array Obj) (hgg : gg < w.heap.size) (j : Nat) : (sortWorldK encC 2 w gg 0 m d os).frozen? ⟨gg, j, none⟩ = w.frozen? ⟨gg, j, none⟩ := by
  unfold sortWorldK
  rw [frozen?_grow _ _ _ (by simp [putRowK]; exact hgg)]
  unfold putRowK
  rw [frozen?_putRow]
  rfl
theorem get_listC (d : Array (Int × Int)) (j : Nat) (h : j < d.size) : d[j]! = d.toList.getD j (0, 0) := by
  rw [getElem!_pos d j h, List.getD, List.getElem?_eq_getElem (by simpa using h)]
  simp
theorem row_holdsC {w : World} {B gg cap : Nat} {xs : List (Int × Int)} (h : OwnC w B (.slice (some ⟨gg, 0, none⟩) xs.length cap) xs) : HoldsK encC 2 w gg 0 xs.toArray := by
  unfold OwnC at h
  intro t ht
  have ht' : t < xs.length * 2 := by simpa using ht
  have hk := get_flatK encC 2 xs.toArray t (by simpa using ht')
  have hx : (xs.toArray)[t / 2]! = xs.getD (t / 2) (0, 0) := get_listC xs.toArray (t / 2) (by simp; omega)
  rw [hk, hx, Nat.zero_add, h.cellAt t ht']
  refine ⟨?_, h.frozenAt t⟩
  have hc := cellsF_at xs (t / 2) (by omega)
  rcases (show t % 2 = 0 ∨ t % 2 = 1 by omega) with e | e
  · have : t = t / 2 * 2 := by omega
    rw [e]
    conv => lhs; rw [this]
    exact hc.1
  · have : t = t / 2 * 2 + 1 := by omega
    rw [e]
    conv => lhs; rw [this]
    exact hc.2
set_option maxHeartbeats 800000 in
/-- The sort leaves the cells in order. -/
theorem sortC_any (gg cap B : Nat) (xs : List (Int × Int)) (w : World) (h : OwnC w B (.slice (some ⟨gg, 0, none⟩) xs.length cap) xs) (hg : gg < w.heap.size) (hn : xs.length ≤ 100000) :
    Calls Try.prog 88 #[.slice (some ⟨gg, 0, none⟩) xs.length cap, .func (.func 81) #[] #[]] w fun e w' => e = .returned (.tuple #[]) ∧ MineL w' gg (gg + 1) (.slice (some ⟨gg, 0, none⟩) xs.length cap) (sortL xs) ∧ Below gg w w' := by
  have eg : ∀ args w, (callFunc 81 args).run Try.prog w = .ok (.enter 81 args) w := enters_of Try.func81 (by kernel_rfl) rfl
  have hH := row_holdsC h
  have hcon := Try.slices_SortFunc 2 Try.isAgg29 Try.sizeOf29 encC (fun _ => rfl) (fun x v hv => by simp [encC] at hv; rcases hv with rfl | rfl <;> rfl) cmpC swoC 81 #[] gg 0 cap xs.toArray w eg
    (fun _ _ _ _ x y => byCell_grow x y _) hH hg (by simpa using (by omega : xs.length < 4611686018427387904))
  rw [show xs.toArray.size = xs.length from List.size_toArray] at hcon
  refine hcon.mono ?_
  rintro e w' ⟨rfl, d', n, os, hp, hs, rfl⟩
  have hsz : d'.size = xs.length := by have := hp.1; simpa using this
  have hperm : d'.toList.Perm xs := by
    have := perm_of_sort (d := xs.toArray) (d' := d') (by simpa using hp)
    simpa using this
  have hsort : SortW d'.toList := by
    rw [← sort_iff]
    intro j hj
    have hj' : j + 1 < d'.size := by simpa using hj
    have := hs j (j + 1) (Nat.zero_le _) (by omega) (by omega)
    rw [ltC, get_listC d' j (by omega), get_listC d' (j + 1) hj'] at this
    exact this
  have he := sortL_eq hsort hperm
  have hbel := sorted_belowC w gg n d' os hg
  refine ⟨rfl, ?_, hbel⟩
  have hh : HoldsK encC 2 (sortWorldK encC 2 w gg 0 n d' os) gg 0 d' := by
    unfold sortWorldK
    exact holdsK_grow encC 2 _ os gg 0 d' (by simp [putRowK]; exact hg) (holdsK_putRowK encC 2 _ gg 0 xs.toArray d' (holdsK_ahead encC 2 w n gg 0 _ hH) (by simpa using hsz))
  rw [← he]
  refine .inr ⟨gg, cap, by rw [show d'.toList.length = xs.length by simpa using hsz], Nat.le_refl _, Nat.lt_succ_self _, Nat.le_trans hg hbel.size, fun j hj => ?_, fun j => ?_⟩
  · have hj' : j < d'.size := by simpa using hj
    have c0 := (hh.cell hj' (show 0 < 2 by omega)).1
    have c1 := (hh.cell hj' (show 1 < 2 by omega)).1
    rw [get_listC d' j hj'] at c0 c1
    generalize d'.toList.getD j (0, 0) = x at c0 c1 ⊢
    exact ⟨by simpa [encC] using c0, by simpa [encC] using c1⟩
  · rw [sorted_frozen w gg n d' os hg j]
    unfold OwnC at h
    exact h.frozenAt j
end Go.Proofs.Ytmcjichpeijiaaa
