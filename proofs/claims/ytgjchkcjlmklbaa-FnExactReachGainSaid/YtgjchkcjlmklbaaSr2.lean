/- The model's stages at some places. -/
import Derived.Test.YtgjchkcjlmklbaaSr1
import Derived.Test.YtgjchkcjlmklbaaCh4
import Derived.Test.YtgjchkcjlmklbaaChQ
import Derived.Deep.AppendLies
import Derived.WalkSpells
namespace Go.Proofs.Ytgjchkcjlmklbaa
open Go.RowKit
def cellsS : List StageV → List Value
  | [] => []
  | x :: l => .int .i64 x.k :: .int .i64 x.a :: .int .i64 x.b :: cellsS l
theorem cellsS_len (xs : List StageV) : (cellsS xs).length = xs.length * 3 := by
  induction xs with
  | nil => rfl
  | cons x l ih => simp only [cellsS, List.length_cons, ih]; omega
theorem cellsS_app (xs ys : List StageV) : cellsS (xs ++ ys) = cellsS xs ++ cellsS ys := by
  induction xs with
  | nil => rfl
  | cons x l ih => simp only [List.cons_append, cellsS, ih]
theorem cellsS_at (xs : List StageV) : ∀ j, j < xs.length → (cellsS xs)[j * 3]? = some (.int .i64 (xs.getD j stZ).k) ∧ (cellsS xs)[j * 3 + 1]? = some (.int .i64 (xs.getD j stZ).a) ∧ (cellsS xs)[j * 3 + 2]? = some (.int .i64 (xs.getD j stZ).b) := by
  induction xs with
  | nil => intro j h; simp at h
  | cons x l ih =>
    intro j h
    cases j with
    | zero => exact ⟨rfl, rfl, rfl⟩
    | succ j =>
      have := ih j (by simpa using h)
      rw [show (j + 1) * 3 = j * 3 + 1 + 1 + 1 by omega, show j * 3 + 1 + 1 + 1 + 1 = (j * 3 + 1) + 1 + 1 + 1 by omega, show j * 3 + 1 + 1 + 1 + 2 = (j * 3 + 2) + 1 + 1 + 1 by omega]
      simpa [cellsS, List.getD] using this
/-- The slice value v is a row of stages in memory of the call's own. -/
def OwnS (w : World) (B : Nat) (v : Value) (xs : List StageV) : Prop := w.ownsRow B 103 3 v xs.length (cellsS xs)
theorem stgRow_own {w : World} {B : Nat} {v : Value} {xs : List StageV} (h : OwnS w B v xs) : StgRow w v xs := by
  have h' := h
  unfold OwnS at h'
  rcases h'.2 with ⟨rfl, h0⟩ | ⟨g, cap, cur, rfl, _, hb, hn, _⟩
  · have : xs = [] := List.length_eq_zero_iff.1 h0
    subst this
    exact ⟨none, 0, rfl, Nat.le_refl _, .inl rfl⟩
  · refine ⟨_, cap, rfl, hn, .inr ⟨g, 0, rfl, (Array.getElem?_eq_some_iff.1 hb).1, fun j hj => ?_⟩⟩
    have hc := cellsS_at xs j hj
    rw [Nat.zero_add, h'.cellAt (j * 3) (by omega), h'.cellAt (j * 3 + 1) (by omega), h'.cellAt (j * 3 + 2) (by omega)]
    exact hc
theorem ownS_snoc {w : World} {B k : Nat} {v : Value} {ys : List StageV} {p q r : Int} (h : w.ownsRow B 103 3 v (k + 1) (cellsS ys ++ [.int .i64 p, .int .i64 q, .int .i64 r])) (hk : ys.length = k) : OwnS w B v (ys ++ [⟨p, q, r⟩]) := by
  unfold OwnS
  rw [List.length_append, hk, cellsS_app]
  exact h
theorem pick_take (kit : List StageV) (xs : List Int) (k : Nat) (h : k < xs.length) : pickF kit (xs.take (k + 1)) = pickF kit (xs.take k) ++ [kit.getD (xs.getD k 0).toNat stZ] := by
  have e : xs.take (k + 1) = xs.take k ++ [xs.getD k 0] := by
    rw [List.take_add_one, List.getElem?_eq_getElem h]
    simp [List.getD, List.getElem?_eq_getElem h]
  rw [e]
  unfold pickF
  rw [List.map_append]
  rfl
set_option maxRecDepth 100000 in
set_option maxHeartbeats 1600000 in
theorem l7Picked_any (v u : Value) (kit : List StageV) (xs : List Int) (w : World) (hr : StgRow w v kit) (hu : IntRow w u xs) (hx : ∀ x ∈ xs, 0 ≤ x ∧ x < kit.length) (hn : kit.length ≤ 100) (h8 : xs.length ≤ 100) :
    Calls Try.prog 208 #[v, u] w fun e w' => ∃ v', e = .returned v' ∧ StgRow w' v' (pickF kit xs) ∧ Below w.heap.size w w' := by
  obtain ⟨i0, hi, hz0, hz1, hz2⟩ := info_parts infoStage
  obtain ⟨a, c, rfl, _, hr⟩ := hr
  obtain ⟨au, cu, rfl, hu⟩ := hu
  go_enter Try.func208, Try.ntmps208
  go_wp2
  have hrow0 : OwnS (w.alloc (.cells #[] 103)) w.heap.size (.slice (some ⟨w.heap.size, 0, none⟩) 0 0) (pickF kit (xs.take 0)) := World.ownsRow_lit w #[] 0 (Nat.le_refl _) (by decide) rfl
  go_loopw [5, 6] (fun v x wr => ∃ k : Nat, k ≤ xs.length ∧ x = .int .i64 k ∧ Hid (OwnS wr w.heap.size v (pickF kit (xs.take k))) ∧ Below w.heap.size w wr) (fun _ y _ => xs.length - (intOf y).toNat)
  case atStart => exact ⟨0, Nat.zero_le _, rfl, Lib.hid hrow0, (Below.refl _ _).alloc (Nat.le_refl _) _⟩
  case round =>
    obtain ⟨k, hk, rfl, HO, hbl⟩ := hrel
    clear hrow0
    by_cases hlt : k < xs.length
    · rcases hu with h | ⟨g, off, rfl, hg, hc⟩
      · subst h; simp at hlt
      have hxm := hx (xs.getD k 0) (by simp only [List.getD, List.getElem?_eq_getElem hlt, Option.getD_some]; exact List.getElem_mem hlt)
      have h1 := hc k hlt
      rw [← hbl.cell (p := ⟨g, off + k, none⟩) hg] at h1
      have hlt' : (k : Int) < (xs.length : Int) := by omega
      have PT := Lib.hid (pick_take kit xs k hlt)
      generalize xs.getD k 0 = x at h1 hxm PT
      obtain ⟨m, rfl⟩ : ∃ m : Nat, x = (m : Int) := ⟨x.toNat, by omega⟩
      rw [Int.toNat_natCast] at PT
      have hm : m < kit.length := by omega
      have hm' : (m : Int) < (kit.length : Int) := hxm.2
      rcases hr with h | ⟨g2, off2, rfl, hg2, hc2⟩
      · subst h; simp at hm
      obtain ⟨h2, h3, h4⟩ := hc2 m hm
      rw [← hbl.cell (p := ⟨g2, off2 + m * 3, none⟩) hg2] at h2
      rw [← hbl.cell (p := ⟨g2, off2 + m * 3 + 1, none⟩) hg2] at h3
      rw [← hbl.cell (p := ⟨g2, off2 + m * 3 + 2, none⟩) hg2] at h4
      generalize kit.getD m stZ = y at h2 h3 h4 PT
      obtain ⟨p, q, r⟩ := y
      simp only at h2 h3 h4
      have hkl : (pickF kit (xs.take k)).length = k := by rw [pick_len, List.length_take]; omega
      have HK := Lib.hid hkl
      have ho2 := HO.out
      unfold OwnS at ho2
      rw [hkl] at ho2
      have hgw : w.heap.size ≤ wr.heap.size := hbl.size
      have HB := Lib.hid hbl
      clear hc hc2 hkl hxm hbl
      have OB := Lib.hid (fun q hq => (ho2.lt q hq).1)
      go_wp2_with (at_builtin; refine wpList_append_own_at _ rfl _ _ 62 rfl w.heap.size 103 i0 (.agg #[.int .i64 0, .int .i64 0, .int .i64 0]) 3 24 Try.underlying62 hi hz0 hz1 hz2 rfl (by decide) _ _ _ rfl (ho2.alloc _) ⟨wr.heap.size, 0, none⟩ 1 1 [.int .i64 p, .int .i64 q, .int .i64 r] rfl rfl (World.news_of_block (cs := #[.int .i64 p, .int .i64 q, .int .i64 r]) (t := 103) (fr := (0, 0)) (heap_alloc_new wr _)) (by simp [Value.oneCell']) (by unfold maxLen; omega) (by omega) (by simp; omega) ?_; intro v4 w4 hown4 hgrow4 hnil4 hloc4)
      have R := Lib.hid (show OwnS w4 w.heap.size v4 (pickF kit (xs.take (k + 1))) by rw [PT.out]; exact ownS_snoc hown4 HK.out)
      have BB := Lib.hid (show Below w.heap.size w w4 from ((HB.out.alloc HB.out.size _)).grown hgrow4 (by simp; omega) OB.out)
      clear hown4 hgrow4 hnil4 hloc4 ho2 OB
      go_wp2
      go_roundw
      case rel => exact ⟨k + 1, by omega, by go_num, R, BB.out⟩
      case measure => simp [intOf]; omega
    · obtain rfl : k = xs.length := by omega
      have hge : ¬ (xs.length : Int) < (xs.length : Int) := by omega
      rw [List.take_length] at HO
      have HB := Lib.hid hbl
      clear hbl
      go_wp2
      go_ret
      exact ⟨_, rfl, stgRow_own HO.out, HB.out⟩
end Go.Proofs.Ytgjchkcjlmklbaa
