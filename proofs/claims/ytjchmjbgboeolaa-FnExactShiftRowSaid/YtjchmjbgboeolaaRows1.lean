/- Rows of loads in memory of a call's own, and the model's rows: moved, joined, with one more load. -/
import Derived.Test.YtjchmjbgboeolaaSpec1
import Derived.Deep.AppendLies
import Derived.WalkSpells
namespace Go.Proofs.Ytjchmjbgboeolaa
open Go.RowKit
def cellsF : List (Int × Int) → List Value
  | [] => []
  | x :: l => .int .i64 x.1 :: .int .i64 x.2 :: cellsF l
theorem cellsF_len (xs : List (Int × Int)) : (cellsF xs).length = xs.length * 2 := by
  induction xs with
  | nil => rfl
  | cons x l ih => simp only [cellsF, List.length_cons, ih]; omega
theorem cellsF_app (xs ys : List (Int × Int)) : cellsF (xs ++ ys) = cellsF xs ++ cellsF ys := by
  induction xs with
  | nil => rfl
  | cons x l ih => simp only [List.cons_append, cellsF, ih]
theorem cellsF_at (xs : List (Int × Int)) : ∀ j, j < xs.length → (cellsF xs)[j * 2]? = some (.int .i64 (xs.getD j (0, 0)).1) ∧ (cellsF xs)[j * 2 + 1]? = some (.int .i64 (xs.getD j (0, 0)).2) := by
  induction xs with
  | nil => intro j h; simp at h
  | cons x l ih =>
    intro j h
    cases j with
    | zero => exact ⟨rfl, rfl⟩
    | succ j =>
      have := ih j (by simpa using h)
      rw [show (j + 1) * 2 = j * 2 + 1 + 1 by omega, show j * 2 + 1 + 1 + 1 = (j * 2 + 1) + 1 + 1 by omega]
      simpa [cellsF, List.getD] using this
theorem cellsF_one (xs : List (Int × Int)) : ∀ u ∈ cellsF xs, u.oneCell' = true := by
  induction xs with
  | nil => intro u h; cases h
  | cons x l ih =>
    intro u h
    simp only [cellsF, List.mem_cons] at h
    rcases h with rfl | rfl | h
    · rfl
    · rfl
    · exact ih u h
/-- The slice value v is a row of loads in memory of the call's own. -/
def OwnL (w : World) (B : Nat) (v : Value) (xs : List (Int × Int)) : Prop := w.ownsRow B 46 2 v xs.length (cellsF xs)
theorem loadRow_own {w : World} {B : Nat} {v : Value} {xs : List (Int × Int)} (h : OwnL w B v xs) : LoadRow w v xs := by
  have h' := h
  unfold OwnL at h'
  rcases h'.2 with ⟨rfl, h0⟩ | ⟨g, cap, cur, rfl, _, hb, _⟩
  · have : xs = [] := List.length_eq_zero_iff.1 h0
    subst this
    exact ⟨none, 0, rfl, .inl rfl⟩
  · refine ⟨_, cap, rfl, .inr ⟨g, 0, rfl, (Array.getElem?_eq_some_iff.1 hb).1, fun j hj => ?_⟩⟩
    have hc := cellsF_at xs j hj
    rw [Nat.zero_add, h'.cellAt (j * 2) (by omega), h'.cellAt (j * 2 + 1) (by omega)]
    exact hc
/-- The cells of a row that came in. -/
theorem loadRow_news {w : World} {g off : Nat} {xs : List (Int × Int)} (h : ∀ j, j < xs.length → w.cell? ⟨g, off + j * 2, none⟩ = some (.int .i64 (xs.getD j (0, 0)).1) ∧ w.cell? ⟨g, off + j * 2 + 1, none⟩ = some (.int .i64 (xs.getD j (0, 0)).2)) :
    ∀ j u, (cellsF xs)[j]? = some u → w.cell? ((⟨g, off, none⟩ : Addr).add j) = some u := by
  intro j u hj
  have hl : j < (cellsF xs).length := (List.getElem?_eq_some_iff.1 hj).1
  rw [cellsF_len] at hl
  rw [Go.WideShapes.add_plain]
  obtain ⟨k, rfl | rfl⟩ : ∃ k, j = k * 2 ∨ j = k * 2 + 1 := ⟨j / 2, by omega⟩
  · have := (cellsF_at xs k (by omega)).1
    rw [hj] at this
    rw [this]
    exact (h k (by omega)).1
  · have := (cellsF_at xs k (by omega)).2
    rw [hj] at this
    rw [this]
    exact (h k (by omega)).2
theorem two_new (w : World) (p q : Int) (t : TypeId) : ∀ j u, (cellsF [(p, q)])[j]? = some u → (w.alloc (.cells #[.int .i64 p, .int .i64 q] t)).cell? ((⟨w.heap.size, 0, none⟩ : Addr).add j) = some u := by
  intro j u hj
  rw [Go.WideShapes.add_plain, Nat.zero_add, World.cell?_alloc_at _ _ _ _ rfl]
  match j, hj with
  | 0, hj => simpa [cellsF] using hj
  | 1, hj => simpa [cellsF] using hj
  | j + 2, hj => simp [cellsF] at hj
theorem OwnL.drew {w : World} {B : Nat} {v : Value} {xs : List (Int × Int)} (h : OwnL w B v xs) : OwnL w.drew B v xs := h
theorem ownL_snoc {w : World} {B k : Nat} {v : Value} {ys : List (Int × Int)} {p q : Int} (h : w.ownsRow B 46 2 v (k + 1) (cellsF ys ++ [.int .i64 p, .int .i64 q])) (hk : ys.length = k) : OwnL w B v (ys ++ [(p, q)]) := by
  unfold OwnL
  rw [List.length_append, hk, cellsF_app]
  exact h
set_option maxRecDepth 100000 in
set_option maxHeartbeats 1600000 in
theorem l2Moved_any (v : Value) (xs : List (Int × Int)) (s m : Int) (w : World) (hr : LoadRow w v xs) (hz : RowF xs) (hs : s = 1 ∨ s = -1) (m0 : -60 ≤ m) (m1 : m ≤ 60) :
    Calls Try.prog 42 #[v, .int .i64 s, .int .i64 m] w fun e w' => ∃ v', e = .returned v' ∧ OwnL w' w.heap.size v' (moved s m xs) ∧ v' ≠ .slice none 0 0 ∧ Below w.heap.size w w' := by
  obtain ⟨i0, hi, hz0, hz1, hz2⟩ := info_parts infoLoad
  obtain ⟨a, c, rfl, hr⟩ := hr
  have HZ := Lib.hid hz
  have hlen := hz.short
  clear hz
  go_enter Try.func42, Try.ntmps42
  go_wp2
  have hrow0 : OwnL (w.alloc (.cells #[] 46)) w.heap.size (.slice (some ⟨w.heap.size, 0, none⟩) 0 0) (moved s m (xs.take 0)) := World.ownsRow_lit w #[] 0 (Nat.le_refl _) (by decide) rfl
  go_loopw [7, 8] (fun v x wr => ∃ k : Nat, k ≤ xs.length ∧ x = .int .i64 k ∧ OwnL wr w.heap.size v (moved s m (xs.take k)) ∧ v ≠ .slice none 0 0 ∧ Below w.heap.size w wr) (fun _ y _ => xs.length - (intOf y).toNat)
  case atStart => exact ⟨0, Nat.zero_le _, rfl, hrow0, by simp, (Below.refl _ _).alloc (Nat.le_refl _) _⟩
  case round =>
    obtain ⟨k, hk, rfl, hown, hnn, hbl⟩ := hrel
    clear hrow0
    by_cases hlt : k < xs.length
    · rcases hr with h | ⟨g, off, rfl, hg, hc⟩
      · subst h; simp at hlt
      have h1 := (hc k hlt).1
      have h2 := (hc k hlt).2
      rw [← hbl.cell (p := ⟨g, off + k * 2, none⟩) hg] at h1
      rw [← hbl.cell (p := ⟨g, off + k * 2 + 1, none⟩) hg] at h2
      have hlt' : (k : Int) < (xs.length : Int) := by omega
      have he := HZ.out.each _ (show xs.getD k (0, 0) ∈ xs by simp only [List.getD, List.getElem?_eq_getElem hlt, Option.getD_some]; exact List.getElem_mem hlt)
      have htk : xs.take (k + 1) = xs.take k ++ [xs.getD k (0, 0)] := by rw [List.take_add_one, List.getElem?_eq_getElem hlt, List.getD, List.getElem?_eq_getElem hlt]; rfl
      generalize xs.getD k (0, 0) = x at h1 h2 he htk
      obtain ⟨p, q⟩ := x
      simp only at h1 h2 he
      obtain ⟨⟨e0, e1⟩, e2, e3⟩ := he
      have HT := Lib.hid htk
      have hkl : (moved s m (xs.take k)).length = k := by unfold moved; rw [List.length_map, List.length_take]; omega
      have HK := Lib.hid hkl
      have t0 : -60 ≤ s * p := by rcases hs with rfl | rfl <;> omega
      have t1 : s * p ≤ 60 := by rcases hs with rfl | rfl <;> omega
      obtain ⟨t, ht⟩ : ∃ t, s * p = t := ⟨_, rfl⟩
      have hwt : IntKind.i64.wrap (s * p) = s * p := by rw [IntKind.wrap_i64]; omega
      have hwu : IntKind.i64.wrap (s * p + m) = s * p + m := by rw [IntKind.wrap_i64]; omega
      have HO := Lib.hid hown
      have HB := Lib.hid hbl
      have HN := Lib.hid hnn
      clear hc htk hkl ht hown hbl hnn
      have hkl := HK.out
      have hown := HO.out
      have hbl := HB.out
      have ho2 := hown
      unfold OwnL at ho2
      rw [hkl] at ho2
      have hgw : w.heap.size ≤ wr.heap.size := hbl.size
      have ag : u7.ownBlock ≠ some g := fun h => by have := (ho2.lt g h).1; omega
      clear hkl hown
      have HB := Lib.hid hbl
      clear hbl
      go_wp2
      go_region_held3 (fun w' => w'.cell? ⟨g, off + k * 2, none⟩ = some (.int .i64 p) ∧ w'.cell? ⟨g, off + k * 2 + 1, none⟩ = some (.int .i64 q))
        (first
          | go_keep
          | (go_split_ands
             refine ⟨?_, ?_⟩
             · (rw [hgrow.cell_far _ (by simp; omega) (Ne.symm ag)]; assumption)
             · (rw [hgrow.cell_far _ (by simp; omega) (Ne.symm ag)]; assumption)))
        ((refine step_append_lies _ (by rfl) _ _ _ (by rfl) w.heap.size 46 i0 _ 2 16 Try.underlying24 hi hz0 hz1 hz2 rfl (by omega) u7 k _ (by rfl) ((ho2.alloc _).drew)
            ⟨wr.heap.size, 0, none⟩ 1 1 [.int .i64 (s * p + m), .int .i64 q] (by rfl) (by rfl) (World.news_of_block (cs := #[.int .i64 (s * p + m), .int .i64 q]) (t := 46) (fr := (0, 0)) (heap_alloc_new wr _)) (by simp [Value.oneCell'])
            (by omega) (by unfold maxLen; omega) (by omega) (by simp; omega) (wr.heap.size + 1) (by simp) ?_; intro gg cap w1 hown1 hgrow hat hlt))
      have R := Lib.hid (show OwnL w1 w.heap.size (.slice (some ⟨gg, 0, none⟩) (k + 1) cap) (moved s m (xs.take (k + 1))) by
        rw [HT.out]
        unfold moved
        rw [List.map_append]
        exact ownL_snoc hown1 HK.out)
      have BB := Lib.hid (show Below w.heap.size w w1 from ((HB.out.alloc HB.out.size _).drew).grown hgrow (by have := HB.out.size; simp; omega) (fun q hq => (ho2.lt q hq).1))
      clear hown1 hgrow hat hlt ag ho2 h1 h2
      go_wp2
      go_roundw
      case rel => exact ⟨k + 1, by omega, by go_num, R.out, by simp, BB.out⟩
      case measure => simp [intOf]; omega
    · obtain rfl : k = xs.length := by omega
      have hge : ¬ (xs.length : Int) < (xs.length : Int) := by omega
      have HO := Lib.hid hown
      have HN := Lib.hid hnn
      have HB := Lib.hid hbl
      clear hown hnn hbl
      go_wp2
      go_ret
      exact ⟨_, rfl, by have := HO.out; rw [List.take_length] at this; exact this, HN.out, HB.out⟩
theorem l2Kept_yes (v : Value) (xs : List (Int × Int)) (w : World) (hr : LoadRow w v xs) (h : rowB xs = true) :
    Calls Try.prog 35 #[v] w fun e w' => e = .returned (.tuple #[v, .bool true]) ∧ w = w' := by
  have D := Lib.hid (l2Row_is v xs true h w hr)
  clear hr h
  go_enter Try.func35, Try.ntmps35
  go_wp2_with fail
  refine D.out.mono ?_
  rintro e w' ⟨rfl, rfl⟩
  go_wp2
  go_ret2
  exact ⟨rfl, rfl⟩
theorem l2Kept_no (v : Value) (xs : List (Int × Int)) (w : World) (hr : LoadRow w v xs) (h : rowB xs = false) :
    Calls Try.prog 35 #[v] w fun e w' => e = .returned (.tuple #[.slice (some ⟨w.heap.size, 0, none⟩) 0 0, .bool false]) ∧ Below w.heap.size w w' := by
  have D := Lib.hid (l2Row_is v xs false h w hr)
  clear hr h
  go_enter Try.func35, Try.ntmps35
  go_wp2_with fail
  refine D.out.mono ?_
  rintro e w' ⟨rfl, rfl⟩
  go_wp2
  go_ret2
  exact ⟨rfl, (Below.refl _ _).alloc (Nat.le_refl _) _⟩
/-- The model keeps what is a row: a row that reads so, and whether it is one. -/
def KeptF (xs : List (Int × Int)) : List (Int × Int) := if rowB xs = true then xs else []
theorem l2Kept_any (v : Value) (xs : List (Int × Int)) (w : World) (hr : LoadRow w v xs) :
    Calls Try.prog 35 #[v] w fun e w' => ∃ v', e = .returned (.tuple #[v', .bool (rowB xs)]) ∧ LoadRow w' v' (KeptF xs) ∧ Below w.heap.size w w' := by
  unfold KeptF
  cases h : rowB xs with
  | true =>
    refine (l2Kept_yes v xs w hr h).mono ?_
    rintro e w' ⟨rfl, rfl⟩
    exact ⟨v, rfl, by simpa using hr, Below.refl _ _⟩
  | false =>
    refine (l2Kept_no v xs w hr h).mono ?_
    rintro e w' ⟨rfl, hl⟩
    exact ⟨_, rfl, by rw [if_neg (by simp)]; exact ⟨_, _, rfl, .inl rfl⟩, hl⟩
end Go.Proofs.Ytjchmjbgboeolaa
