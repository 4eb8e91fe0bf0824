/- The contracts of the program's forms of a row: shifted and mirrored. -/
import Derived.Test.YtjchmjbgboeolaaRows3
import Derived.Test.YtjchmjbgboeolaaShelf
import Derived.Laws.EntriesVeiled
namespace Go.Proofs.Ytjchmjbgboeolaa
open Go.RowKit
theorem rowForms_any (w : World) : Calls Try.prog 57 #[] w fun e w' => e = .returned (.agg #[.func (.func 66) #[] #[], .func (.func 67) #[] #[], .func (.func 68) #[] #[], .func (.func 69) #[] #[]]) ∧ Below w.heap.size w w' := by
  go_enter Try.func57, Try.ntmps57
  go_wp2
  exact bodyPost_ret (v := .agg #[.func (.func 66) #[] #[], .func (.func 67) #[] #[], .func (.func 68) #[] #[], .func (.func 69) #[] #[]]) (by simp [results, Try.results57, go_sem]) rfl ⟨rfl, (Below.refl _ _).alloc (Nat.le_refl _) _⟩
theorem clone_any (v : Value) (xs : List (Int × Int)) (w : World) (h : SRow w v xs) (hn : xs.length ≤ 12) :
    Calls Try.prog 72 #[v] w fun e w' => ∃ v', e = .returned v' ∧ OwnL w' w.heap.size v' xs ∧ v' ≠ .slice none 0 0 ∧ Below w.heap.size w w' := by
  obtain ⟨g, off, c, rfl, _, hc⟩ := h
  obtain ⟨i0, hi, hz0, hz1, hz2⟩ := info_parts infoLoad
  have hcon := AnyE.slices_Clone Try.laysClone i0 _ 2 16 hi hz0 hz1 hz2 rfl (by omega) Try.sizeOf46 g off xs.length c (cellsF xs) w (cellsF_len xs) (by unfold maxLen; omega) (by omega) (fun j u hj => by
    have := loadRow_news hc j u hj
    rw [Go.WideShapes.add_plain] at this
    exact this) (cellsF_one xs)
  change Calls Try.prog 72 _ _ _ at hcon
  exact hcon
/-- The first k loads are moved, the others as they were. -/
theorem upd_len (s m : Int) (xs : List (Int × Int)) (k : Nat) (hk : k ≤ xs.length) : (moved s m (xs.take k) ++ xs.drop k).length = xs.length := by
  unfold moved
  rw [List.length_append, List.length_map, List.length_take, List.length_drop]
  omega
theorem upd_at (s m : Int) (xs : List (Int × Int)) (k : Nat) (hk : k < xs.length) : (moved s m (xs.take k) ++ xs.drop k).getD k (0, 0) = xs.getD k (0, 0) := by
  have hl : (moved s m (xs.take k)).length = k := by unfold moved; rw [List.length_map, List.length_take]; omega
  simp only [List.getD]
  rw [List.getElem?_append_right (by omega), hl, Nat.sub_self, List.getElem?_drop]
  simp
theorem upd_step (s m : Int) (xs : List (Int × Int)) (k : Nat) (hk : k < xs.length) :
    (moved s m (xs.take k) ++ xs.drop k).set k (s * (xs.getD k (0, 0)).1 + m, (xs.getD k (0, 0)).2) = moved s m (xs.take (k + 1)) ++ xs.drop (k + 1) := by
  have hl : (moved s m (xs.take k)).length = k := by unfold moved; rw [List.length_map, List.length_take]; omega
  have hx : xs.getD k (0, 0) = xs[k] := by simp [List.getD, List.getElem?_eq_getElem hk]
  rw [List.set_append_right _ _ (by omega), hl, Nat.sub_self, List.drop_eq_getElem_cons hk, List.set_cons_zero, List.take_add_one, List.getElem?_eq_getElem hk, hx]
  unfold moved
  rw [List.map_append, List.append_assoc]
  rfl
theorem ownL_mono {w : World} {B B' : Nat} {v : Value} {xs : List (Int × Int)} (h : OwnL w B v xs) (hb : B' ≤ B) : OwnL w B' v xs := by
  unfold OwnL at *
  refine ⟨h.1, ?_⟩
  rcases h.2 with h | ⟨g, cap, cur, e, hg, r⟩
  · exact .inl h
  · exact .inr ⟨g, cap, cur, e, Nat.le_trans hb hg, r⟩
theorem cellsF_set1 (zs : List (Int × Int)) : ∀ (j : Nat) (y : Int), j < zs.length → (cellsF zs).set (j * 2) (.int .i64 y) = cellsF (zs.set j (y, (zs.getD j (0, 0)).2)) := by
  induction zs with
  | nil => intro j y h; simp at h
  | cons x l ih =>
    intro j y h
    cases j with
    | zero => rfl
    | succ j =>
      have := ih j y (by simpa using h)
      rw [show (j + 1) * 2 = j * 2 + 1 + 1 by omega]
      simp only [cellsF, List.set_cons_succ, List.getD_cons_succ, this]
theorem cellsF_set2 (zs : List (Int × Int)) : ∀ (j : Nat) (y : Int), j < zs.length → (cellsF zs).set (j * 2 + 1) (.int .i64 y) = cellsF (zs.set j ((zs.getD j (0, 0)).1, y)) := by
  induction zs with
  | nil => intro j y h; simp at h
  | cons x l ih =>
    intro j y h
    cases j with
    | zero => rfl
    | succ j =>
      have := ih j y (by simpa using h)
      rw [show (j + 1) * 2 + 1 = (j * 2 + 1) + 1 + 1 by omega]
      simp only [cellsF, List.set_cons_succ, List.getD_cons_succ, this]
set_option maxRecDepth 100000 in
set_option maxHeartbeats 1600000 in
theorem shifted_any (va vb : Value) (m : Int) (xs : List (Int × Int)) (w : World) (ha : SRow w va xs) (hz : RowF xs) (m0 : -60 ≤ m) (m1 : m ≤ 60) :
    Calls Try.prog 68 #[.agg #[va, vb, .int .i64 m]] w fun e w' => ∃ v', e = .returned v' ∧ OwnL w' w.heap.size v' (moved 1 m xs) ∧ Below w.heap.size w w' := by
  have hal : Below w.heap.size w (w.alloc (.cells #[va, vb, .int .i64 m] 53)) := (Below.refl _ _).alloc (Nat.le_refl _) _
  have CC := Lib.hid (clone_any va xs _ (ha.lo hal) hz.short)
  have hva : ∃ x n c, va = .slice x n c := by obtain ⟨g, off, c, rfl, _⟩ := ha; exact ⟨_, _, _, rfl⟩
  have HZ := Lib.hid hz
  have hlen := hz.short
  obtain ⟨x0, n0, c0, rfl⟩ := hva
  clear hz ha hal
  go_enter Try.func68, Try.ntmps68
  go_wp2_with fail
  refine CC.out.mono ?_
  rintro e w1 ⟨v1, rfl, o1, n1, l1⟩
  have o1' := o1
  unfold OwnL at o1'
  rcases o1'.2 with ⟨rfl, _⟩ | ⟨gg, cap, cur, rfl, hgg, _⟩
  · exact absurd rfl n1
  have L1 := Lib.hid (show Below w.heap.size w w1 from ((Below.refl _ _).alloc (Nat.le_refl _) _).trans (l1.mono (by simp)))
  have hgw : w.heap.size < gg := by simp at hgg; omega
  have HP := Lib.hid (show ∀ wr, Below (w.alloc (.cells #[.slice x0 n0 c0, vb, .int .i64 m] 53)).heap.size w1 wr → wr.cell? ⟨w.heap.size, 2, none⟩ = some (.int .i64 m) from fun wr l => by
    rw [l.cell (p := ⟨w.heap.size, 2, none⟩) (by simp), l1.cell (p := ⟨w.heap.size, 2, none⟩) (by simp), World.cell?_alloc_at _ _ _ _ rfl]; rfl)
  have O1 := Lib.hid o1
  have hs1 := l1.size
  have hgg2 := hgg
  clear o1 o1' n1 l1 CC
  go_wp2
  go_loopw [10] (fun i wr => ∃ k : Nat, k ≤ xs.length ∧ i = .int .i64 k ∧ Hid (OwnL wr (w.alloc (.cells #[.slice x0 n0 c0, vb, .int .i64 m] 53)).heap.size (.slice (some ⟨gg, 0, none⟩) xs.length cap) (moved 1 m (xs.take k) ++ xs.drop k)) ∧ Hid (Below (w.alloc (.cells #[.slice x0 n0 c0, vb, .int .i64 m] 53)).heap.size w1 wr)) (fun i _ => xs.length - (intOf i).toNat)
  case atStart => exact ⟨0, Nat.zero_le _, rfl, O1, Lib.hid (Below.refl _ _)⟩
  case round =>
    obtain ⟨k, hk, rfl, HO, HB⟩ := hrel
    by_cases hlt : k < xs.length
    · have hlt' : (k : Int) < (xs.length : Int) := by omega
      have he := HZ.out.each _ (show xs.getD k (0, 0) ∈ xs by simp only [List.getD, List.getElem?_eq_getElem hlt, Option.getD_some]; exact List.getElem_mem hlt)
      have hst := upd_step 1 m xs k hlt
      have hat := upd_at 1 m xs k hlt
      have hul := upd_len 1 m xs k hk
      have hown := HO.out
      unfold OwnL at hown
      rw [hul] at hown
      have hcc := cellsF_at (moved 1 m (xs.take k) ++ xs.drop k) k (by rw [hul]; exact hlt)
      rw [hat] at hcc
      have z1 := hown.cellAt (k * 2) (by omega)
      rw [hcc.1] at z1
      have f1 := hown.frozenAt (k * 2)
      generalize xs.getD k (0, 0) = x at z1 he hst hcc hat
      obtain ⟨p, q⟩ := x
      simp only at z1 he hst
      obtain ⟨⟨e0, e1⟩, e2, e3⟩ := he
      have b2 := HP.out wr HB.out
      have hwu : IntKind.i64.wrap (p + m) = p + m := by rw [IntKind.wrap_i64]; omega
      have hst' := (hown.stored (k * 2) (.int .i64 (p + m)))
      rw [cellsF_set1 _ k _ (by rw [hul]; exact hlt), hat] at hst'
      have HW := Lib.hid (show OwnL (wr.setCell ⟨gg, k * 2, none⟩ (.int .i64 (p + m))) (w.alloc (.cells #[.slice x0 n0 c0, vb, .int .i64 m] 53)).heap.size (.slice (some ⟨gg, 0, none⟩) xs.length cap) (moved 1 m (xs.take (k + 1)) ++ xs.drop (k + 1)) by
        unfold OwnL
        rw [upd_len 1 m xs (k + 1) (by omega), ← hst]
        rw [show 1 * p + m = p + m by omega]
        exact hst'.1)
      have BW := Lib.hid (HB.out.setCell (p := ⟨gg, k * 2, none⟩) hgg (.int .i64 (p + m)))
      clear hown hst hst' hat hul hcc
      go_wp2
      refine wp_region_still_tail 10 (by kernel_rfl) (by kernel_rfl) ?_
      simp only [List.take_succ_cons, List.take_zero, List.drop_succ_cons, List.drop_zero]
      change wpStill _ _ wr.drew _ _ _
      repeat still_step
      refine wpStill_nil ?_
      change wpList _ _ _ _ _ wr.drew
      go_wp2
      refine ⟨⟨k + 1, by omega, by go_num, Lib.hid HW.out.drew, Lib.hid BW.out.drew⟩, by simp [intOf]; omega⟩
    · obtain rfl : k = xs.length := by omega
      have hge : ¬ (xs.length : Int) < (xs.length : Int) := by omega
      go_wp2
      go_ret
      refine ⟨_, rfl, ?_, L1.out.trans (HB.out.mono (by simp))⟩
      have hf := HO.out
      rw [List.take_length, List.drop_length, List.append_nil] at hf
      exact ownL_mono hf (by simp)
set_option maxRecDepth 100000 in
set_option maxHeartbeats 1600000 in
theorem mirrored_any (va vb : Value) (m : Int) (xs : List (Int × Int)) (w : World) (ha : SRow w va xs) (hz : RowF xs)  :
    Calls Try.prog 69 #[.agg #[va, vb, .int .i64 m]] w fun e w' => ∃ v', e = .returned v' ∧ OwnL w' w.heap.size v' (moved (-1) 60 xs) ∧ Below w.heap.size w w' := by
  have hal : Below w.heap.size w (w.alloc (.cells #[va, vb, .int .i64 m] 53)) := (Below.refl _ _).alloc (Nat.le_refl _) _
  have CC := Lib.hid (clone_any va xs _ (ha.lo hal) hz.short)
  have hva : ∃ x n c, va = .slice x n c := by obtain ⟨g, off, c, rfl, _⟩ := ha; exact ⟨_, _, _, rfl⟩
  have HZ := Lib.hid hz
  have hlen := hz.short
  obtain ⟨x0, n0, c0, rfl⟩ := hva
  clear hz ha hal
  go_enter Try.func69, Try.ntmps69
  go_wp2_with fail
  refine CC.out.mono ?_
  rintro e w1 ⟨v1, rfl, o1, n1, l1⟩
  have o1' := o1
  unfold OwnL at o1'
  rcases o1'.2 with ⟨rfl, _⟩ | ⟨gg, cap, cur, rfl, hgg, _⟩
  · exact absurd rfl n1
  have L1 := Lib.hid (show Below w.heap.size w w1 from ((Below.refl _ _).alloc (Nat.le_refl _) _).trans (l1.mono (by simp)))
  have hgw : w.heap.size < gg := by simp at hgg; omega
  have HP := Lib.hid (show ∀ wr, Below (w.alloc (.cells #[.slice x0 n0 c0, vb, .int .i64 m] 53)).heap.size w1 wr → wr.cell? ⟨w.heap.size, 2, none⟩ = some (.int .i64 m) from fun wr l => by
    rw [l.cell (p := ⟨w.heap.size, 2, none⟩) (by simp), l1.cell (p := ⟨w.heap.size, 2, none⟩) (by simp), World.cell?_alloc_at _ _ _ _ rfl]; rfl)
  have O1 := Lib.hid o1
  have hs1 := l1.size
  have hgg2 := hgg
  clear o1 o1' n1 l1 CC
  go_wp2
  go_loopw [10] (fun i wr => ∃ k : Nat, k ≤ xs.length ∧ i = .int .i64 k ∧ Hid (OwnL wr (w.alloc (.cells #[.slice x0 n0 c0, vb, .int .i64 m] 53)).heap.size (.slice (some ⟨gg, 0, none⟩) xs.length cap) (moved (-1) 60 (xs.take k) ++ xs.drop k)) ∧ Hid (Below (w.alloc (.cells #[.slice x0 n0 c0, vb, .int .i64 m] 53)).heap.size w1 wr)) (fun i _ => xs.length - (intOf i).toNat)
  case atStart => exact ⟨0, Nat.zero_le _, rfl, O1, Lib.hid (Below.refl _ _)⟩
  case round =>
    obtain ⟨k, hk, rfl, HO, HB⟩ := hrel
    by_cases hlt : k < xs.length
    · have hlt' : (k : Int) < (xs.length : Int) := by omega
      have he := HZ.out.each _ (show xs.getD k (0, 0) ∈ xs by simp only [List.getD, List.getElem?_eq_getElem hlt, Option.getD_some]; exact List.getElem_mem hlt)
      have hst := upd_step (-1) 60 xs k hlt
      have hat := upd_at (-1) 60 xs k hlt
      have hul := upd_len (-1) 60 xs k hk
      have hown := HO.out
      unfold OwnL at hown
      rw [hul] at hown
      have hcc := cellsF_at (moved (-1) 60 (xs.take k) ++ xs.drop k) k (by rw [hul]; exact hlt)
      rw [hat] at hcc
      have z1 := hown.cellAt (k * 2) (by omega)
      rw [hcc.1] at z1
      have f1 := hown.frozenAt (k * 2)
      generalize xs.getD k (0, 0) = x at z1 he hst hcc hat
      obtain ⟨p, q⟩ := x
      simp only at z1 he hst
      obtain ⟨⟨e0, e1⟩, e2, e3⟩ := he
      have hst' := (hown.stored (k * 2) (.int .i64 (60 - p)))
      rw [cellsF_set1 _ k _ (by rw [hul]; exact hlt), hat] at hst'
      have HW := Lib.hid (show OwnL (wr.setCell ⟨gg, k * 2, none⟩ (.int .i64 (60 - p))) (w.alloc (.cells #[.slice x0 n0 c0, vb, .int .i64 m] 53)).heap.size (.slice (some ⟨gg, 0, none⟩) xs.length cap) (moved (-1) 60 (xs.take (k + 1)) ++ xs.drop (k + 1)) by
        unfold OwnL
        rw [upd_len (-1) 60 xs (k + 1) (by omega), ← hst]
        rw [show -1 * p + 60 = 60 - p by omega]
        exact hst'.1)
      have BW := Lib.hid (HB.out.setCell (p := ⟨gg, k * 2, none⟩) hgg (.int .i64 (60 - p)))
      have hwu : 0 ≤ 60 - p := by omega
      clear hown hst hst' hat hul hcc
      go_wp2
      refine ⟨⟨k + 1, by omega, by go_num, HW, BW⟩, by simp [intOf]; omega⟩
    · obtain rfl : k = xs.length := by omega
      have hge : ¬ (xs.length : Int) < (xs.length : Int) := by omega
      go_wp2
      go_ret
      refine ⟨_, rfl, ?_, L1.out.trans (HB.out.mono (by simp))⟩
      have hf := HO.out
      rw [List.take_length, List.drop_length, List.append_nil] at hf
      exact ownL_mono hf (by simp)
end Go.Proofs.Ytjchmjbgboeolaa
