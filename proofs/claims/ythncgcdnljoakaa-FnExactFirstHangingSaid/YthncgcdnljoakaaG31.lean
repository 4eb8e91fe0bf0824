/- FhS, FhU, as one text. -/
import Derived.RangeFuncBox
import Derived.RangeFuncLeaves
import Derived.Shelf.Abstract
import Derived.WalkKit
import Derived.OwnWalkIn
import Derived.TacticsInMore
import Derived.LoopNIn
import Derived.LoopIn
import Derived.Maps.AppendAt
import Derived.Sort.QuietIn
import Derived.Test.YthncgcdnljoakaaG16
import Derived.Test.YthncgcdnljoakaaG1
import Derived.Test.YthncgcdnljoakaaG26
import Derived.Test.YthncgcdnljoakaaShelf
import Derived.Sort.OwnSortedInts
namespace Go.Proofs.Ythncgcdnljoakaa
open Go.RowKit Go.Shelf
attribute [local go_sem] Oper.semAt_some
/-- The cells of the row hold what they held. -/
def KeepS (g off n : Nat) (W W' : World) : Prop := ∀ j, j < n → W'.cell? ⟨g, off + j, none⟩ = W.cell? ⟨g, off + j, none⟩
theorem keepS_t {g off n : Nat} {A B C : World} (h : KeepS g off n A B) (k : KeepS g off n B C) : KeepS g off n A C := fun j hj => (k j hj).trans (h j hj)
theorem keepS_b {g off n : Nat} {w : World} (h1 : g < w.heap.size) (W : World) (l : Nat) (o o' : Obj) (hl : w.heap.size ≤ l) (_ : W.heap[l]? = some o) (_ : o.isCells = false) (_ : o.isWalk = false) : KeepS g off n W (W.putObj l o') :=
  fun j _ => World.cell?_of_block (World.putObj_heap_other (by show g ≠ l; omega))
set_option maxRecDepth 100000 in
set_option maxHeartbeats 1000000 in
theorem values1_in (F : Fence) (n : Nat) (h1f : F.fn 152) (hro : F.round = none) (hn : 1 ≤ n) (l Bv g off c : Nat) (xs : List Int) (hx : xs.length ≤ 2000000) (J Jx : List Int → World → Prop)
    (hY : ∀ pre x W, J pre W → pre.length < xs.length → YieldAt F (n - 1) Try.prog l #[.int .i64 x] W fun e W' =>
      (e = .returned (.bool true) ∧ J (pre ++ [x]) W' ∧ KeepS g off xs.length W W') ∨ (e = .returned (.bool false) ∧ Jx (pre ++ [x]) W'))
    (W : World) (hB : W.cell? ⟨Bv, 0, none⟩ = some (.slice (some ⟨g, off, none⟩) xs.length c)) (hc : ∀ j, j < xs.length → W.cell? ⟨g, off + j, none⟩ = some (.int .i64 (xs.getD j 0))) (h0 : J [] W) :
    CallsIn F n Try.prog 152 #[.func (.yield l) #[] #[], .pointer (some ⟨Bv, 0, none⟩)] W fun e W' => (∃ v, e = .returned v) ∧
      ((∃ ys, ys = xs ∧ J ys W') ∨ (∃ pre, pre <+: xs ∧ Jx pre W')) := by
  refine callsIn_of_wp Try.func152 rfl h1f ?_ hro
  simp only [Try.ntmps152, List.size_toArray, List.length_cons, List.length_nil, Nat.reduceAdd, Nat.reduceSub, Array.replicate_succ, Array.replicate_zero, List.push_toArray, List.append_toArray, List.nil_append, List.cons_append]
  have HC := Lib.hid hc
  clear hc
  gi_wp2

  gi_loopw [7] (fun y wr => ∃ k : Nat, y = .int .i64 k ∧ k ≤ xs.length ∧ J (xs.take k) wr ∧ Hid (∀ j, j < xs.length → wr.cell? ⟨g, off + j, none⟩ = some (.int .i64 (xs.getD j 0)))) (fun y _ => xs.length - (intOf y).toNat)
  case atStart => exact ⟨0, rfl, Nat.zero_le _, h0, HC⟩
  case round =>
    obtain ⟨k, rfl, hk, hJ, HCk⟩ := hrel
    clear h0 HC
    by_cases hlt : k < xs.length
    · have hlt' : (k : Int) < (xs.length : Int) := by omega
      have ck := HCk.out k hlt
      have TS := Lib.hid (lv_snoc xs k hlt)
      have HP := Lib.hid (List.take_prefix (k + 1) xs)
      obtain ⟨x, hxk⟩ : ∃ x, xs.getD k 0 = x := ⟨_, rfl⟩
      rw [hxk] at ck TS
      clear hxk
      obtain ⟨fn, tmps, assign, body, hy, hR⟩ := hY (xs.take k) x wr hJ (by rw [List.length_take]; omega)
      gi_wp2
      refine hR.mono ?_
      rintro e W3 (⟨rfl, hJ3, hk3⟩ | ⟨rfl, hJx3⟩)
      · have HC3 := Lib.hid (fun j (hj : j < xs.length) => (hk3 j hj).trans (HCk.out j hj))
        gi_wp2
        go_roundw
        case rel => exact ⟨k + 1, by go_num, by omega, by rw [TS.out]; exact hJ3, HC3⟩
        case measure => simp [intOf]; omega
      · gi_wp2
        refine bodyPost_ret (results_none rfl _ _ _) rfl ?_
        exact ⟨⟨_, rfl⟩, .inr ⟨_, HP.out, by rw [TS.out]; exact hJx3⟩⟩
    · obtain rfl : k = xs.length := by omega
      have hge : ¬ (xs.length : Int) < (xs.length : Int) := by omega
      rw [List.take_length] at hJ
      gi_wp2
      go_end0
      exact ⟨⟨_, rfl⟩, .inl (by first | exact hJ | exact ⟨_, rfl, hJ⟩)⟩
theorem values_stops (F : Fence) (n : Nat) (h1f : F.fn 152) (hro : F.round = none) (hn : 1 ≤ n) (Bv g off c : Nat) (xs : List Int) (hx : xs.length ≤ 2000000) (w : World) (k1 : Bv < w.heap.size) (k2 : g < w.heap.size)
    (hB : w.cell? ⟨Bv, 0, none⟩ = some (.slice (some ⟨g, off, none⟩) xs.length c)) (hc : ∀ j, j < xs.length → w.cell? ⟨g, off + j, none⟩ = some (.int .i64 (xs.getD j 0))) :
    SeqStopsK F n Try.prog 152 #[.pointer (some ⟨Bv, 0, none⟩)] (fun x : Int => #[Value.int .i64 x]) (KeepS g off xs.length) (fun ys => ys = xs) (fun pre => pre <+: xs) xs.length w := fun l J Jx W hW _ _ hY h0 =>
  values1_in F n h1f hro hn l Bv g off c xs hx J Jx hY W ((hW.cell (p := ⟨Bv, 0, none⟩) k1).trans hB) (fun j hj => (hW.cell (p := ⟨g, off + j, none⟩) k2).trans (hc j hj)) h0
theorem ownsRow_monoF {w : World} {B B' : Nat} {e : TypeId} {size : Nat} {v : Value} {n : Nat} {xs : List Value} (h : w.ownsRow B e size v n xs) (hB : B' ≤ B) : w.ownsRow B' e size v n xs := by
  refine ⟨h.1, ?_⟩
  rcases h.2 with h2 | ⟨g, cap, cur, hv, hg, r⟩
  · exact .inl h2
  · exact .inr ⟨g, cap, cur, hv, Nat.le_trans hB hg, r⟩
set_option maxRecDepth 100000 in
set_option maxHeartbeats 2000000 in
theorem appendSeq_in (F : Fence) (n : Nat) (hA : F.fn 170) (hV : F.fn 152) (hro : F.round = none) (hn : 3 ≤ n) (Bv g off c : Nat) (xs : List Int) (hx : xs.length ≤ 2000) (w : World) (k1 : Bv < w.heap.size) (k2 : g < w.heap.size)
    (hB : w.cell? ⟨Bv, 0, none⟩ = some (.slice (some ⟨g, off, none⟩) xs.length c)) (hc : ∀ j, j < xs.length → w.cell? ⟨g, off + j, none⟩ = some (.int .i64 (xs.getD j 0))) :
    CallsIn F n Try.prog 170 #[.slice none 0 0, .func (.func 152) #[] #[.pointer (some ⟨Bv, 0, none⟩)]] w fun e W' => ∃ v, e = .returned v ∧ W'.ownsRow w.heap.size 3 1 v xs.length (icells xs) ∧ Below w.heap.size w W' := by
  have h1 : 1 ≤ n := by omega
  obtain ⟨i0, hi, hz0, hz1, hz2⟩ := info_parts infoInt
  refine callsIn_of_wp_marks Try.func170 rfl hA ?_ hro
  simp only [Try.ntmps170, List.size_toArray, List.length_cons, List.length_nil, Nat.reduceAdd, Nat.reduceSub, Array.replicate_succ, Array.replicate_zero, List.push_toArray, List.append_toArray, List.nil_append, List.cons_append]
  gi_wp2
  have bO := Boxed.new w 38 (.slice none 0 0)
  have hB0 : Below w.heap.size w (w.alloc (.cells #[.slice none 0 0] 38)) := (Below.refl _ w).alloc (Nat.le_refl _) _
  refine wpIn_rangeFunc_ownG hro h1 (gf := 152) (lb := #[.pointer (some ⟨Bv, 0, none⟩)]) rfl hV (enters_of Try.func152 (by kernel_rfl) rfl)
    (values_stops F (n - 1) hV hro (by omega) Bv g off c xs (by omega) _ (by simp; omega) (by simp; omega) ((hB0.cell (p := ⟨Bv, 0, none⟩) k1).trans hB) (fun j hj => (hB0.cell (p := ⟨g, off + j, none⟩) k2).trans (hc j hj))) keepS_t (keepS_b (by simp; omega)) (Below.refl _ _) (fun _ => rfl)
    (fun pre W => (∃ v, Boxed W w.heap.size 38 v ∧ W.ownsRow (w.heap.size + 1) 3 1 v pre.length (icells pre) ∧ (v = .slice none 0 0 ↔ pre = [])) ∧ Below w.heap.size w W ∧ w.heap.size + 1 ≤ W.heap.size)
    (fun _ _ _ => False)
    ?own
    (fun _ _ _ _ _ hs _ _ => hs)
    ⟨⟨_, bO, World.ownsRow_nil _ _ _ _, by simp⟩, hB0, by simp⟩
    (fun x => { tmps := #[.slice none 0 0, .func (.func 152) #[] #[.pointer (some ⟨Bv, 0, none⟩)], .pointer (some ⟨w.heap.size, 0, none⟩), undef, .slice none 0 0, .int .i64 x, .func (.func 152) #[] #[.pointer (some ⟨Bv, 0, none⟩)], .int .i64 x, undef, undef, undef, undef, undef], defers := [] }) ?assign ?body ?done ?stop
  case own =>
    exact OwnFrom.and (Own.from (holdsRow_own (w.heap.size + 1) w.heap.size 38 3 1 (fun pre => pre.length) (fun pre => icells pre) (fun pre v => v = .slice none 0 0 ↔ pre = [])) _)
      (OwnFrom.and (ownFrom_below (Nat.le_refl _) (by simp)) (fun s A B row hs hg _ => Nat.le_trans hs hg.size))
  case assign =>
    intro l x W K hK
    gi_wp2
    exact hK
  case body =>
    rintro l pre x W ⟨⟨v, hv, hrow, hnil⟩, hB, hW3⟩ hlt
    have hc := hv.cell
    gi_wp2_with (gi_at_builtin; refine wpListIn_append_own _ rfl _ _ 38 rfl (w.heap.size + 1) 3 i0 (.int .i64 0) 1 8 Try.underlying38 hi hz0 hz1 hz2 rfl (by decide) _ _ _ rfl (hrow.alloc _) ⟨W.heap.size, 0, none⟩ 1 1 [.int .i64 x] rfl rfl (cell_one_new _ _ _) (by simp [Value.oneCell']) (by unfold maxLen; omega) (by omega) (by simp; omega) ?_; intro v' w1 hown' hgrow _; obtain ⟨g', cap', rfl⟩ := ownsRow_succ hown'; obtain ⟨hv1, hv2, hr2, hk2, hb2⟩ := hv.appended (by decide) (ownsRow_monoF hrow (by omega)) hB.size (Nat.le_refl _) (ownsRow_monoF hown' (by omega)) hgrow; have hc1 := hv1.cell; have hf1 := hv1.frozen)
    have hb3 : Below (w.heap.size + 1) W w1 := ((Below.refl (w.heap.size + 1) W).alloc hW3 _).grown hgrow (by simp; omega) (fun k ek => (hrow.lt k ek).1)
    refine ⟨hk2.from _, fun j hj => ?_, ⟨_, hv2, ?_, ?_⟩, hB.trans hb2, ?_⟩
    · rw [World.cell?_setCell_other (h := fun hh => by have := congrArg Addr.block hh; simp at this; omega)]
      exact hb3.cell (p := ⟨g, off + j, none⟩) (show g < w.heap.size + 1 by omega)
    · rw [List.length_append]
      have e : icells (pre ++ [x]) = icells pre ++ [.int .i64 x] := by unfold icells; rw [List.map_append]; rfl
      rw [e]
      exact hown'.kept (grownBy_setCell' _ _ _) (.inr (hv1.not_row (by decide) hown').symm)
    · simp
    · exact Nat.le_trans hW3 hb2.size
  case done =>
    rintro D ys W hD rfl ⟨⟨v, hv, hrow, hnil⟩, hB, _⟩ hK
    have hc := hv.cell
    gi_wp2
    refine ⟨by simp, .inl ⟨_, _, rfl, run_takeDeferred hK, ?_⟩⟩
    exact ⟨_, results_tmp rfl _ _ _, v, rfl, ownsRow_putObj (ownsRow_monoF hrow (by omega)) _ hK rfl, hB.trans (belowK_b (w := w) (Nat.le_refl _) W D _ _ (by simp at hD; omega) hK rfl rfl)⟩
  case stop =>
    rintro D c pre W _ _ h _
    exact h.elim
end Go.Proofs.Ythncgcdnljoakaa
namespace Go.Proofs.Ythncgcdnljoakaa
open Go.RowKit Go.Shelf Go.Sort
def sortI (xs : List Int) : List Int := xs.mergeSort (fun x y => decide (x ≤ y))
theorem sortI_len (xs : List Int) : (sortI xs).length = xs.length := by unfold sortI; exact List.length_mergeSort _
theorem sortI_iff (xs ys : List Int) : sortI xs = sortI ys ↔ xs.Perm ys := by
  constructor
  · intro h
    have h1 := List.mergeSort_perm xs (fun x y => decide (x ≤ y))
    have h2 := List.mergeSort_perm ys (fun x y => decide (x ≤ y))
    unfold sortI at h
    rw [h] at h1
    exact h1.symm.trans h2
  · intro h
    unfold sortI
    have tr : ∀ a b c : Int, decide (a ≤ b) = true → decide (b ≤ c) = true → decide (a ≤ c) = true := fun a b c h1 h2 => by
      simp only [decide_eq_true_eq] at *
      omega
    have to : ∀ a b : Int, (decide (a ≤ b) || decide (b ≤ a)) = true := fun a b => by
      simp only [Bool.or_eq_true, decide_eq_true_eq]
      omega
    refine List.Perm.eq_of_pairwise (le := fun a b => decide (a ≤ b) = true) ?_ (List.pairwise_mergeSort tr to xs) (List.pairwise_mergeSort tr to ys) (((List.mergeSort_perm xs _).trans h).trans (List.mergeSort_perm ys _).symm)
    intro a b _ _ h1 h2
    simp only [decide_eq_true_eq] at h1 h2
    omega
set_option maxRecDepth 100000 in
theorem collect_is (Bv g off c : Nat) (xs : List Int) (hx : xs.length ≤ 2000) (w : World) (k1 : Bv < w.heap.size) (k2 : g < w.heap.size)
    (hB : w.cell? ⟨Bv, 0, none⟩ = some (.slice (some ⟨g, off, none⟩) xs.length c)) (hc : ∀ j, j < xs.length → w.cell? ⟨g, off + j, none⟩ = some (.int .i64 (xs.getD j 0))) :
    Calls Try.prog 150 #[.func (.func 152) #[] #[.pointer (some ⟨Bv, 0, none⟩)]] w fun e w' => ∃ v, e = .returned v ∧ w'.ownsRow w.heap.size 3 1 v xs.length (icells xs) ∧ Below w.heap.size w w' := by
  have A := Lib.hid ((callsIn_wide (n := 6)).1 (appendSeq_in Fence.wide 6 trivial trivial rfl (by omega) Bv g off c xs hx w k1 k2 hB hc))
  clear k1 k2 hB hc
  go_enter Try.func150, Try.ntmps150
  go_wp2_with fail
  refine A.out.mono ?_
  rintro e w' ⟨v, rfl, ho, l⟩
  have HO := Lib.hid ho
  have HL := Lib.hid l
  clear ho l A
  go_wp2
  go_ret
  exact ⟨_, rfl, HO.out, HL.out⟩
set_option maxRecDepth 100000 in
theorem sorted_is (Bv g off c : Nat) (xs : List Int) (h0 : 0 < xs.length) (hx : xs.length ≤ 2000) (w : World) (k1 : Bv < w.heap.size) (k2 : g < w.heap.size)
    (hB : w.cell? ⟨Bv, 0, none⟩ = some (.slice (some ⟨g, off, none⟩) xs.length c)) (hc : ∀ j, j < xs.length → w.cell? ⟨g, off + j, none⟩ = some (.int .i64 (xs.getD j 0))) :
    Calls Try.prog 116 #[.func (.func 152) #[] #[.pointer (some ⟨Bv, 0, none⟩)]] w fun e w' => ∃ gs cap, e = .returned (.slice (some ⟨gs, 0, none⟩) xs.length cap) ∧ w'.ownsRow w.heap.size 3 1 (.slice (some ⟨gs, 0, none⟩) xs.length cap) xs.length (icells (sortI xs)) ∧ Below w.heap.size w w' := by
  have A := Lib.hid (collect_is Bv g off c xs hx w k1 k2 hB hc)
  have SL := Lib.hid (sortI_len xs)
  clear k1 k2 hB hc
  go_enter Try.func116, Try.ntmps116
  go_wp2_with fail
  refine A.out.mono ?_
  rintro e w1 ⟨v, rfl, ho, l⟩
  have HL := Lib.hid l
  clear A l
  rcases ho.2 with ⟨_, h⟩ | ⟨gs, cap, cur, rfl, hgB, hb, hnc, hcm, hcs, htk⟩
  · omega
  rw [Nat.mul_one] at htk
  have hgs : gs < w1.heap.size := (Array.getElem?_eq_some_iff.1 hb).1
  have S : Hid (Calls Try.prog 151 #[.slice (some ⟨gs, 0, none⟩) xs.length cap] w1 fun e w' => e = .returned (.tuple #[]) ∧ ∃ n os, w' = grow (putRow (Value.int .i64) (Sort.ahead w1 n) gs 0 (sortI xs).toArray) os) :=
    Lib.hid (Try.slices_Sort_int gs 0 cap xs w1 (holds_of_blockI hb htk) hgs (by omega))
  have HS := Lib.hid (fun n os => show (grow (putRow (Value.int .i64) (Sort.ahead w1 n) gs 0 (sortI xs).toArray) os).ownsRow w.heap.size 3 1 (.slice (some ⟨gs, 0, none⟩) xs.length cap) xs.length (icells (sortI xs)) from
    ownsRow_sortedI SL.out hgB hb hnc hcm hcs)
  have HG := Lib.hid (fun n os => show Below w.heap.size w (grow (putRow (Value.int .i64) (Sort.ahead w1 n) gs 0 (sortI xs).toArray) os) from
    HL.out.grown (grownBy_sortedI (sortI xs).toArray) HL.out.size (fun q hq => by cases hq; exact hgB))
  clear ho hb hcs htk hgB
  go_wp2_with fail
  refine S.out.mono ?_
  rintro e w2 ⟨rfl, n, os, rfl⟩
  have O2 := Lib.hid (HS.out n os)
  have L2 := Lib.hid (HG.out n os)
  clear S HS HG
  generalize (grow (putRow (Value.int .i64) (Sort.ahead w1 n) gs 0 (sortI xs).toArray) os) = w3 at *
  go_wp2
  go_ret
  exact ⟨gs, cap, rfl, O2.out, L2.out⟩
set_option maxRecDepth 100000 in
theorem sumOf_is (u : Value) (xs : List Int) (w : World) (hr : RowS w u xs) (hl : xs.length ≤ 2000) (hx : ∀ x, x ∈ xs → 0 ≤ x ∧ x ≤ 100000) :
    Calls Try.prog 114 #[u] w fun e w' => e = .returned (.int .i64 (sumI xs)) ∧ ∃ d, w' = w.drewN d := by
  obtain ⟨g, off, c, rfl, hg, hc⟩ := hr
  have HC := Lib.hid hc
  have HT := Lib.hid (show xs.take xs.length = xs from List.take_length)
  have HB := Lib.hid (fun k => sumI_bnd 0 100000 (xs.take k) (fun x h => hx x (List.mem_of_mem_take h)))
  have HS := Lib.hid (fun k (h : k < xs.length) => sumI_take xs k h)
  have HLT := Lib.hid (fun k => show (xs.take k).length ≤ 2000 by rw [List.length_take]; omega)
  generalize hN : xs.length = N at *
  clear hc hx
  go_enter Try.func114, Try.ntmps114
  go_wp2
  go_loopw [3, 8] (fun x y wr => ∃ k d : Nat, k ≤ N ∧ x = .int .i64 (sumI (xs.take k)) ∧ y = .int .i64 k ∧ wr = w.drewN d) (fun _ y _ => N - (intOf y).toNat)
  case atStart => exact ⟨0, 0, Nat.zero_le _, rfl, rfl, rfl⟩
  case round =>
    obtain ⟨k, d, hk, rfl, rfl, rfl⟩ := hrel
    by_cases hlt : k < N
    · have hlt' : (k : Int) < (N : Int) := by omega
      have ck : (w.drewN d).cell? ⟨g, off + k, none⟩ = some (.int .i64 (xs.getD k 0)) := HC.out k hlt
      have ck2 : w.cell? ⟨g, off + k, none⟩ = some (.int .i64 (xs.getD k 0)) := HC.out k hlt
      have hs := HS.out k hlt
      have hb1 := HB.out (k + 1)
      have hl1 := HLT.out (k + 1)
      obtain ⟨s, hs1⟩ : ∃ s, sumI (xs.take k) = s := ⟨_, rfl⟩
      obtain ⟨t, ht1⟩ : ∃ t, sumI (xs.take (k + 1)) = t := ⟨_, rfl⟩
      obtain ⟨y, hy1⟩ : ∃ y, xs.getD k 0 = y := ⟨_, rfl⟩
      have HTT := Lib.hid ht1
      rw [hs1, ht1, hy1] at hs
      rw [hs1]
      rw [ht1] at hb1
      rw [hy1] at ck ck2
      have hw : IntKind.i64.wrap (s + y) = t := by rw [← hs]; exact wrap_mid _ (by omega) (by omega)
      clear hs hs1 ht1 hy1
      go_wp2
      go_roundw
      case rel => exact ⟨k + 1, d, by omega, by rw [HTT.out], by go_num, rfl⟩
      case measure => simp [intOf]; omega
    · obtain rfl : N = k := by omega
      have hge : ¬ (N : Int) < (N : Int) := by omega
      rw [HT.out]
      go_wp2
      go_ret
      exact ⟨rfl, d, rfl⟩
end Go.Proofs.Ythncgcdnljoakaa
