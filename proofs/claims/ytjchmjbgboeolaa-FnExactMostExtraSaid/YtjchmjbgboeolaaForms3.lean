/- The contract of the library's sort at loads by their places. -/
import Derived.Test.YtjchmjbgboeolaaForms1
namespace Go.Proofs.Ytjchmjbgboeolaa
open Go.RowKit Go.Sort
def encL (x : Int × Int) : List Value := [.int .i64 x.1, .int .i64 x.2]
def cmpL (x y : Int × Int) : Int := Lib.compareInt x.1 y.1
theorem ltL (x y : Int × Int) : ltOf cmpL x y = decide (x.1 < y.1) := by
  unfold ltOf cmpL Lib.compareInt
  by_cases h1 : x.1 < y.1
  · simp [h1]
  · by_cases h2 : y.1 < x.1
    · simp [h1, h2]
    · simp [h1, h2]
theorem swoL : SWO (ltOf cmpL) := by
  refine ⟨fun x => ?_, fun x y z => ?_, fun x y z => ?_⟩
  · rw [ltL]; simp
  · rw [ltL, ltL, ltL]; simp; omega
  · rw [ltL, ltL, ltL]; simp; omega
set_option maxHeartbeats 1000000 in
theorem cmp_any (x y : Int × Int) (W : World) : Calls Try.prog 74 #[.agg #[.int .i64 x.1, .int .i64 x.2], .agg #[.int .i64 y.1, .int .i64 y.2]] W fun e w' => e = .returned (.int .i64 (cmpL x y)) ∧ ∃ q os', w' = grow (W.drewN q) os' := by
  have hcon := fun W' => Try.cmp_Compare_int x.1 y.1 W'
  unfold cmpL
  generalize Lib.compareInt x.1 y.1 = r at hcon ⊢
  go_enter Try.func74, Try.ntmps74
  go_wp2_with (go_at_call 78; refine (hcon _).mono ?_; rintro e w' ⟨rfl, rfl⟩)
  go_ret
  exact ⟨rfl, 0, _, by rw [alloc_eq_grow, alloc_eq_grow, grow_grow]; rfl⟩
theorem len_any (n : Nat) (W : World) (h : n ≤ 12) : Calls Try.prog 77 #[.int .u64 n] W fun e w' => (∃ l : Int, e = .returned (.int .i64 l)) ∧ w' = W :=
  (Try.bits_Len n W (by omega) (by omega)).mono fun _ _ ⟨he, hw⟩ => ⟨⟨_, he⟩, hw⟩
theorem sorted_below (w : World) (gg m : Nat) (d : Array (Int × Int)) (os : Array Obj) (hgg : gg < w.heap.size) : Below gg w (sortWorldK encL 2 w gg 0 m d os) := by
  unfold sortWorldK
  refine ⟨rfl, rfl, rfl, ?_, fun k hk => ?_⟩
  · simp [putRowK, grow]
  · unfold grow putRowK putRow mapBlock
    rw [Array.getElem?_append, if_pos (by simp; omega), Array.getElem?_modify, if_neg (by omega)]
    rfl
theorem get_list (d : Array (Int × Int)) (j : Nat) (h : j < d.size) : d[j]! = d.toList.getD j (0, 0) := by
  rw [getElem!_pos d j h, List.getD, List.getElem?_eq_getElem (by simpa using h)]
  simp
theorem holds_row {w : World} {gg cap : Nat} {d : Array (Int × Int)} (h : HoldsK encL 2 w gg 0 d) (hg : gg < w.heap.size) : LoadRow w (.slice (some ⟨gg, 0, none⟩) d.toList.length cap) d.toList := by
  refine ⟨_, cap, rfl, .inr ⟨gg, 0, rfl, hg, fun j hj => ?_⟩⟩
  have hj' : j < d.size := by simpa using hj
  have c0 := (h.cell hj' (show 0 < 2 by omega)).1
  have c1 := (h.cell hj' (show 1 < 2 by omega)).1
  rw [get_list d j hj'] at c0 c1
  generalize d.toList.getD j (0, 0) = x at c0 c1 ⊢
  exact ⟨by simpa [encL] using c0, by simpa [encL] using c1⟩
theorem row_holds {w : World} {B gg cap : Nat} {xs : List (Int × Int)} (h : OwnL w B (.slice (some ⟨gg, 0, none⟩) xs.length cap) xs) : HoldsK encL 2 w gg 0 xs.toArray := by
  unfold OwnL at h
  intro t ht
  have ht' : t < xs.length * 2 := by simpa using ht
  have hk := get_flatK encL 2 xs.toArray t (by simpa using ht')
  have hx : (xs.toArray)[t / 2]! = xs.getD (t / 2) (0, 0) := get_list xs.toArray (t / 2) (by simp; omega)
  rw [hk, hx, Nat.zero_add, h.cellAt t ht']
  refine ⟨?_, h.frozenAt t⟩
  have hc := cellsF_at xs (t / 2) (by omega)
  rcases (show t % 2 = 0 ∨ t % 2 = 1 by omega) with e | e
  · have : t = t / 2 * 2 := by omega
    rw [e]
    conv => lhs; rw [this]
    exact hc.1
  · have : t = t / 2 * 2 + 1 := by omega
    rw [e]
    conv => lhs; rw [this]
    exact hc.2
set_option maxHeartbeats 800000 in
/-- The sort leaves the loads, in ascending order of their places. -/
theorem sort_any (gg cap B : Nat) (xs : List (Int × Int)) (w : World) (h : OwnL w B (.slice (some ⟨gg, 0, none⟩) xs.length cap) xs) (hg : gg < w.heap.size) (h12 : xs.length ≤ 12) :
    Calls Try.prog 73 #[.slice (some ⟨gg, 0, none⟩) xs.length cap, .func (.func 74) #[] #[]] w fun e w' => e = .returned (.tuple #[]) ∧ ∃ ys, ys.Perm xs ∧ (∀ i j, i < j → j < ys.length → (ys.getD i (0, 0)).1 ≤ (ys.getD j (0, 0)).1) ∧ LoadRow w' (.slice (some ⟨gg, 0, none⟩) xs.length cap) ys ∧ Below gg w w' := by
  have eg : ∀ args w, (callFunc 74 args).run Try.prog w = .ok (.enter 74 args) w := enters_of Try.func74 (by kernel_rfl) rfl
  have hH := row_holds h
  have hcon := AnyQ.slices_SortFunc_small_sorted Try.laysSort 2 Try.isAgg46 Try.sizeOf46 encL (fun _ => rfl) (fun x v hv => by simp [encL] at hv; rcases hv with rfl | rfl <;> rfl) cmpL 74 #[] swoL gg 0 cap xs.toArray w eg
    (fun _ _ _ _ x y => cmp_any x y _) hH hg (by simpa using h12) len_any
  change Calls Try.prog 73 _ _ _ at hcon
  rw [show xs.toArray.size = xs.length from List.size_toArray] at hcon
  refine hcon.mono ?_
  rintro e w' ⟨rfl, d', n, os, hp, hs, rfl⟩
  have hsz : d'.size = xs.length := by have := hp.1; simpa using this
  refine ⟨rfl, d'.toList, ?_, ?_, ?_, sorted_below w gg n d' os hg⟩
  · have := perm_of_sort (d := xs.toArray) (d' := d') (by simpa using hp)
    simpa using this
  · exact rise_of_sort (d := xs.toArray) ltL (by simpa using hs) (by simpa using hsz)
  · have hh : HoldsK encL 2 (sortWorldK encL 2 w gg 0 n d' os) gg 0 d' := by
      unfold sortWorldK
      exact holdsK_grow encL 2 _ os gg 0 d' (by simp [putRowK]; exact hg) (holdsK_putRowK encL 2 _ gg 0 xs.toArray d' (holdsK_ahead encL 2 w n gg 0 _ hH) (by simpa using hsz))
    have := holds_row (cap := cap) hh (by have := (sorted_below w gg n d' os hg).size; omega)
    rw [show d'.toList.length = xs.length by simpa using hsz] at this
    exact this
end Go.Proofs.Ytjchmjbgboeolaa
