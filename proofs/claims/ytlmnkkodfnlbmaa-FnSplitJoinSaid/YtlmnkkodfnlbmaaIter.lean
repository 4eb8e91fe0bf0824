/- The contract of the program's SplitString: it ranges over a function that gives out the parts. -/
import Derived.RangeFuncBox
import Derived.RangeFuncLeaves
import Derived.Shelf.Abstract
import Derived.WalkKit
import Derived.OwnWalkIn
import Derived.TacticsInMore
import Derived.LoopNIn
import Derived.LoopIn
import Derived.Maps.AppendAt
import Derived.Sort.QuietIn
import Derived.Test.YtlmnkkodfnlbmaaSplit
namespace Go.Proofs.Ytlmnkkodfnlbmaa
open Go.RowKit Go.Shelf
attribute [local go_sem] Oper.semAt_some
def baT (l : List UInt8) : ByteArray := ⟨l.toArray⟩
def spB (b : Int) (s : ByteArray) : List ByteArray := (sp b [] s.data.toList).map baT
theorem cut_ba (s : ByteArray) (f k : Nat) : s.extract f k = baT (cutT s f k) := by unfold baT cutT; rw [Lib.extract_eq]
/-- What the parts given out so far are to the whole. -/
def GaveAt (s : ByteArray) (b : Int) (pre : List ByteArray) (f k : Nat) : Prop := ∃ parts, pre = parts.map baT ∧ SplitAt s b parts f k
theorem gave_start (s : ByteArray) (b : Int) : GaveAt s b [] 0 0 := ⟨[], rfl, splitAt_start s b⟩
theorem gave_sep {s : ByteArray} {b : Int} {pre : List ByteArray} {f k : Nat} (h : GaveAt s b pre f k) (hk : k < s.size) (hb : (s[k].toNat : Int) = b) : GaveAt s b (pre ++ [s.extract f k]) (k + 1) (k + 1) := by
  obtain ⟨parts, rfl, hs⟩ := h
  exact ⟨parts ++ [cutT s f k], by rw [List.map_append, cut_ba]; rfl, splitAt_sep hs hk hb⟩
theorem gave_on {s : ByteArray} {b : Int} {pre : List ByteArray} {f k : Nat} (h : GaveAt s b pre f k) (hf : f ≤ k) (hk : k < s.size) (hb : ¬ (s[k].toNat : Int) = b) : GaveAt s b pre f (k + 1) := by
  obtain ⟨parts, rfl, hs⟩ := h
  exact ⟨parts, rfl, splitAt_on hs hf hk hb⟩
theorem gave_end {s : ByteArray} {b : Int} {pre : List ByteArray} {f : Nat} (h : GaveAt s b pre f s.size) : pre ++ [s.extract f s.size] = spB b s := by
  obtain ⟨parts, rfl, hs⟩ := h
  unfold spB
  rw [← splitAt_end hs, List.map_append, cut_ba]; rfl
theorem gave_prefix {s : ByteArray} {b : Int} {pre : List ByteArray} {f k : Nat} (h : GaveAt s b pre f k) (hk : k < s.size) (hb : (s[k].toNat : Int) = b) : pre ++ [s.extract f k] <+: spB b s := by
  obtain ⟨parts, hp, hs⟩ := gave_sep h hk hb
  refine ⟨(sp b (cutT s (k + 1) (k + 1)) (s.data.toList.drop (k + 1))).map baT, ?_⟩
  unfold spB
  rw [← hs, List.map_append, ← hp]
theorem gave_len {s : ByteArray} {b : Int} {pre : List ByteArray} {f k : Nat} (h : GaveAt s b pre f k) : pre.length < (spB b s).length := by
  obtain ⟨parts, rfl, hs⟩ := h
  have hne := List.length_pos_iff.2 (sp_ne b (s.data.toList.drop k) (cutT s f k))
  unfold spB
  rw [← hs]
  simp
  omega
/-- The two boxes that the iterator reads hold what they held. -/
def KeepC (B1 B2 : Nat) (W W' : World) : Prop := W'.cell? ⟨B1, 0, none⟩ = W.cell? ⟨B1, 0, none⟩ ∧ W'.cell? ⟨B2, 0, none⟩ = W.cell? ⟨B2, 0, none⟩
theorem keepC_t {B1 B2 : Nat} {A B C : World} (h : KeepC B1 B2 A B) (k : KeepC B1 B2 B C) : KeepC B1 B2 A C := ⟨k.1.trans h.1, k.2.trans h.2⟩
theorem keepC_b {B1 B2 : Nat} {w : World} (h1 : B1 < w.heap.size) (h2 : B2 < w.heap.size) (W : World) (l : Nat) (o o' : Obj) (hl : w.heap.size ≤ l) (_ : W.heap[l]? = some o) (_ : o.isCells = false) (_ : o.isWalk = false) : KeepC B1 B2 W (W.putObj l o') :=
  ⟨World.cell?_of_block (World.putObj_heap_other (by show B1 ≠ l; omega)), World.cell?_of_block (World.putObj_heap_other (by show B2 ≠ l; omega))⟩
theorem ownsRow_mono {w : World} {B B' : Nat} {e : TypeId} {size : Nat} {v : Value} {n : Nat} {xs : List Value} (h : w.ownsRow B e size v n xs) (hB : B' ≤ B) : w.ownsRow B' e size v n xs := by
  refine ⟨h.1, ?_⟩
  rcases h.2 with h2 | ⟨g, cap, cur, hv, hg, r⟩
  · exact .inl h2
  · exact .inr ⟨g, cap, cur, hv, Nat.le_trans hB hg, r⟩
theorem abides_drewN {α : Type} {B : Nat} {J : α → World → Prop} (h : AbidesFrom B J) {s : α} {w : World} (hs : J s w) (n : Nat) : J s (w.drewN n) :=
  h s w (w.drewN n) none hs ⟨rfl, rfl, rfl, Nat.le_refl _, fun _ _ _ => rfl⟩ (fun r e => by cases e)
set_option maxRecDepth 100000 in
set_option maxHeartbeats 1000000 in
theorem pieces1_in (F : Fence) (n : Nat) (h36 : F.fn 36) (hro : F.round = none) (hn : 1 ≤ n) (l Bs Bb : Nat) (s : ByteArray) (b : Int) (hs : s.size ≤ 4000) (J Jx : List ByteArray → World → Prop) (B : Nat) (hJA : AbidesFrom B J)
    (hY : ∀ pre x W, J pre W → pre.length < (spB b s).length → YieldAt F (n - 1) Try.prog l #[.string x] W fun e W' =>
      (e = .returned (.bool true) ∧ J (pre ++ [x]) W' ∧ KeepC Bs Bb W W') ∨ (e = .returned (.bool false) ∧ Jx (pre ++ [x]) W'))
    (W : World) (hBs : W.cell? ⟨Bs, 0, none⟩ = some (.string s)) (hBb : W.cell? ⟨Bb, 0, none⟩ = some (.int .u8 b)) (h0 : J [] W) :
    CallsIn F n Try.prog 36 #[.func (.yield l) #[] #[], .pointer (some ⟨Bs, 0, none⟩), .pointer (some ⟨Bb, 0, none⟩)] W fun e W' => (∃ v, e = .returned v) ∧
      ((∃ ys, ys = spB b s ∧ J ys W') ∨ (∃ pre, pre <+: spB b s ∧ Jx pre W')) := by
  refine callsIn_of_wp Try.func36 rfl h36 ?_ hro
  simp only [Try.ntmps36, List.size_toArray, List.length_cons, List.length_nil, Nat.reduceAdd, Nat.reduceSub, Array.replicate_succ, Array.replicate_zero, List.push_toArray, List.append_toArray, List.nil_append, List.cons_append]
  gi_wp2
  gi_loopw [4, 8] (fun x y wr => ∃ (pre : List ByteArray) (f k : Nat), x = .int .i64 f ∧ y = .int .i64 k ∧ k ≤ s.size ∧ f ≤ k ∧ GaveAt s b pre f k ∧ J pre wr ∧
    wr.cell? ⟨Bs, 0, none⟩ = some (.string s) ∧ wr.cell? ⟨Bb, 0, none⟩ = some (.int .u8 b)) (fun _ y _ => s.size - (intOf y).toNat)
  case atStart => exact ⟨[], 0, 0, rfl, rfl, Nat.zero_le _, Nat.le_refl _, gave_start s b, h0, hBs, hBb⟩
  case round =>
    obtain ⟨pre, f, k, rfl, rfl, hk, hf, hg, hJ, c1, c2⟩ := hrel
    clear hBs hBb h0
    by_cases hlt : k < s.size
    · have hlt' : (k : Int) < (s.size : Int) := by omega
      by_cases hc : (s[k].toNat : Int) = b
      · have HG := Lib.hid (gave_sep hg hlt hc)
        have HP := Lib.hid (gave_prefix hg hlt hc)
        have hcb : ((s[k].toNat : Int) == b) = true := by simp [hc]
        have GL := Lib.hid (gave_len hg)
        clear hc hg
        gi_wp2
        refine wpIn_region_quiet_lit hro (by kernel_rfl) (by kernel_rfl) ?_
        repeat (gi_big_quiet_step (fail))
        refine wpQuietIn_nil ?_
        intro _ hw'
        obtain ⟨nq, hw''⟩ := hw'
        subst hw''
        obtain ⟨fn, tmps, assign, body, hy, hR⟩ := hY pre (s.extract f k) (wr.drewN nq) (abides_drewN hJA hJ nq) GL.out
        gi_wp2
        refine hR.mono ?_
        rintro e W3 (⟨rfl, hJ3, hk3⟩ | ⟨rfl, hJx3⟩)
        · have d1 : W3.cell? ⟨Bs, 0, none⟩ = some (.string s) := hk3.1.trans c1
          have d2 : W3.cell? ⟨Bb, 0, none⟩ = some (.int .u8 b) := hk3.2.trans c2
          gi_wp2
          go_roundw
          case rel => exact ⟨pre ++ [s.extract f k], k + 1, k + 1, by go_num, by go_num, by omega, Nat.le_refl _, HG.out, hJ3, d1, d2⟩
          case measure => simp [intOf]; omega
        · gi_wp2
          refine bodyPost_ret (results_none rfl _ _ _) rfl ?_
          exact ⟨⟨_, rfl⟩, .inr ⟨_, HP.out, hJx3⟩⟩
      · have HG := Lib.hid (gave_on hg hf hlt hc)
        have hcb : ((s[k].toNat : Int) == b) = false := by simp [hc]
        clear hc hg hY
        gi_wp2
        refine wpIn_region_quiet_lit hro (by kernel_rfl) (by kernel_rfl) ?_
        repeat (gi_big_quiet_step (fail))
        refine wpQuietIn_nil ?_
        intro _ hw'
        obtain ⟨nq, hw''⟩ := hw'
        subst hw''
        gi_wp2
        go_roundw
        case rel => exact ⟨pre, f, k + 1, rfl, by go_num, by omega, by omega, HG.out, abides_drewN hJA hJ nq, c1, c2⟩
        case measure => simp [intOf]; omega
    · obtain rfl : k = s.size := by omega
      have HE := Lib.hid (gave_end hg)
      obtain ⟨fn, tmps, assign, body, hy, hR⟩ := hY pre (s.extract f s.size) wr hJ (gave_len hg)
      clear hg hY
      gi_wp2
      refine hR.mono ?_
      rintro e W3 (⟨rfl, hJ3, hk3⟩ | ⟨rfl, hJx3⟩)
      · gi_wp2
        go_end0
        exact ⟨⟨_, rfl⟩, .inl ⟨_, HE.out, hJ3⟩⟩
      · gi_wp2
        go_end0
        exact ⟨⟨_, rfl⟩, .inr ⟨_, by rw [HE.out]; exact List.prefix_refl _, hJx3⟩⟩
set_option maxHeartbeats 1000000 in
theorem pieces_in (F : Fence) (n : Nat) (h27 : F.fn 27) (hro : F.round = none) (s : ByteArray) (b : Int) (w : World) :
    CallsIn F n Try.prog 27 #[.string s, .int .u8 b] w fun e w' => e = .returned (.func (.func 36) #[] #[.pointer (some ⟨w.heap.size, 0, none⟩), .pointer (some ⟨w.heap.size + 1, 0, none⟩)]) ∧
      w' = (w.alloc (.cells #[.string s] 9)).alloc (.cells #[.int .u8 b] 5) := by
  refine callsIn_of_wp Try.func27 rfl h27 ?_ hro
  simp only [Try.ntmps27, List.size_toArray, List.length_cons, List.length_nil, Nat.reduceAdd, Nat.reduceSub, Array.replicate_succ, Array.replicate_zero, List.push_toArray, List.append_toArray, List.nil_append, List.cons_append]
  gi_wp2
  go_ret
  exact ⟨rfl, rfl⟩
theorem pieces_stops (F : Fence) (n : Nat) (h36 : F.fn 36) (hro : F.round = none) (hn : 1 ≤ n) (Bs Bb : Nat) (s : ByteArray) (b : Int) (hs : s.size ≤ 4000) (w : World) (k1 : Bs < w.heap.size) (k2 : Bb < w.heap.size)
    (hBs : w.cell? ⟨Bs, 0, none⟩ = some (.string s)) (hBb : w.cell? ⟨Bb, 0, none⟩ = some (.int .u8 b)) :
    SeqStopsK F n Try.prog 36 #[.pointer (some ⟨Bs, 0, none⟩), .pointer (some ⟨Bb, 0, none⟩)] (fun x : ByteArray => #[Value.string x]) (KeepC Bs Bb) (fun ys => ys = spB b s) (fun pre => pre <+: spB b s) (spB b s).length w := fun l J Jx W hW hJ _ hY h0 =>
  pieces1_in F n h36 hro hn l Bs Bb s b hs J Jx W.heap.size hJ hY W ((hW.cell (p := ⟨Bs, 0, none⟩) k1).trans hBs) ((hW.cell (p := ⟨Bb, 0, none⟩) k2).trans hBb) h0
theorem spB_len (b : Int) (s : ByteArray) (hs : s.size ≤ 4000) : (spB b s).length ≤ 4001 := by
  have := sp_len b s.data.toList []
  unfold spB
  rw [List.length_map]
  have e : s.data.toList.length = s.size := by simp
  omega
set_option maxRecDepth 100000 in
set_option maxHeartbeats 2000000 in
theorem implSplit_in (F : Fence) (n : Nat) (h10 : F.fn 10) (h27 : F.fn 27) (h36 : F.fn 36) (hro : F.round = none) (hn : 3 ≤ n)
    (s t : ByteArray) (hs : s.size ≤ 4000) (ht3 : 0 < t.size) (ht1 : t.size ≤ 1) (w : World) :
    CallsIn F n Try.prog 10 #[.string s, .string t] w fun e W' => ∃ v, e = .returned (.tuple #[v, .bool true]) ∧
      W'.ownsRow w.heap.size 9 1 v (spB (t[0].toNat : Int) s).length ((spB (t[0].toNat : Int) s).map Value.string) ∧ (v = .slice none 0 0 ↔ spB (t[0].toNat : Int) s = []) ∧ Below w.heap.size w W' := by
  have h1 : 1 ≤ n := by omega
  obtain ⟨i0, hi, hz0, hz1, hz2⟩ := info_parts infoStr
  have hxl := spB_len (t[0].toNat : Int) s hs
  have ht2 : ((t.size : Int) != 1) = false := by simp; omega
  have hs' : ¬ (4000 : Int) < (s.size : Int) := by omega
  refine callsIn_of_wp_marks Try.func10 rfl h10 ?_ hro
  simp only [Try.ntmps10, List.size_toArray, List.length_cons, List.length_nil, Nat.reduceAdd, Nat.reduceSub, Array.replicate_succ, Array.replicate_zero, List.push_toArray, List.append_toArray, List.nil_append, List.cons_append]
  gi_wp2_with (gi_at_call 27; refine (pieces_in F (n - 1) h27 hro _ _ _).mono ?_; rintro e w' ⟨rfl, rfl⟩)
  have bO := Boxed.new w 26 (.slice none 0 0)
  have bS := Boxed.new (w.alloc (.cells #[.slice none 0 0] 26)) 9 (.string s)
  have bB := Boxed.new ((w.alloc (.cells #[.slice none 0 0] 26)).alloc (.cells #[.string s] 9)) 5 (.int .u8 (t[0].toNat : Int))
  rw [World.size_alloc] at bS bB
  rw [World.size_alloc] at bB
  have hB0 : Below w.heap.size w (((w.alloc (.cells #[.slice none 0 0] 26)).alloc (.cells #[.string s] 9)).alloc (.cells #[.int .u8 (t[0].toNat : Int)] 5)) :=
    (((Below.refl _ w).alloc (Nat.le_refl _) _).alloc (by simp) _).alloc (by simp; omega) _
  refine wpIn_rangeFunc_ownG hro h1 (gf := 36) (lb := #[.pointer (some ⟨w.heap.size + 1, 0, none⟩), .pointer (some ⟨w.heap.size + 1 + 1, 0, none⟩)]) rfl h36 (enters_of Try.func36 (by kernel_rfl) rfl)
    (pieces_stops F (n - 1) h36 hro (by omega) (w.heap.size + 1) (w.heap.size + 1 + 1) s (t[0].toNat : Int) hs _ (by simp) (by simp) (bS.alloc _).cell bB.cell) keepC_t (keepC_b (by simp) (by simp)) (Below.refl _ _) (fun _ => rfl)
    (fun pre W => (∃ v, Boxed W w.heap.size 26 v ∧ W.ownsRow (w.heap.size + 3) 9 1 v pre.length (pre.map Value.string) ∧ (v = .slice none 0 0 ↔ pre = [])) ∧ Below w.heap.size w W ∧ w.heap.size + 3 ≤ W.heap.size)
    (fun _ _ _ => False)
    ?own
    (fun _ _ _ _ _ hs _ _ => hs)
    ⟨⟨_, (bO.alloc _).alloc _, World.ownsRow_nil _ _ _ _, by simp⟩, hB0, by simp⟩
    (fun x => { tmps := #[.string s, .string t, undef, undef, .slice none 0 0, .bool false, .pointer (some ⟨w.heap.size, 0, none⟩), .string x, .string s, .int .i64 (s.size : Int), .bool false, .bool false, .string t, .int .i64 (t.size : Int), .bool false, .bool false, .string s, .string t, .int .u8 (t[0].toNat : Int), .func (.func 36) #[] #[.pointer (some ⟨w.heap.size + 1, 0, none⟩), .pointer (some ⟨w.heap.size + 1 + 1, 0, none⟩)], .string x, undef, undef, undef, undef, undef], defers := [] }) ?assign ?body ?done ?stop
  case own =>
    exact OwnFrom.and (Own.from (holdsRow_own (w.heap.size + 3) w.heap.size 26 9 1 (fun pre => pre.length) (fun pre => pre.map Value.string) (fun pre v => v = .slice none 0 0 ↔ pre = [])) _)
      (OwnFrom.and (ownFrom_below (Nat.le_refl _) (by simp; omega)) (fun s A B row hs hg _ => Nat.le_trans hs hg.size))
  case assign =>
    intro l x W K hK
    gi_wp2
    exact hK
  case body =>
    rintro l pre x W ⟨⟨v, hv, hrow, hnil⟩, hB, hW3⟩ hlt
    have hc := hv.cell
    gi_wp2_with (gi_at_builtin; refine wpListIn_append_own _ rfl _ _ 26 rfl (w.heap.size + 3) 9 i0 (.string ByteArray.empty) 1 16 Try.underlying26 hi hz0 hz1 hz2 rfl (by decide) _ _ _ rfl (hrow.alloc _) ⟨W.heap.size, 0, none⟩ 1 1 [.string x] rfl rfl (cell_one_new _ _ _) (by simp [Value.oneCell']) (by unfold maxLen; omega) (by omega) (by simp; omega) ?_; intro v' w1 hown' hgrow _; obtain ⟨g', cap', rfl⟩ := ownsRow_succ hown'; obtain ⟨hv1, hv2, hr2, hk2, hb2⟩ := hv.appended (by decide) (ownsRow_mono hrow (by omega)) hB.size (Nat.le_refl _) (ownsRow_mono hown' (by omega)) hgrow; have hc1 := hv1.cell; have hf1 := hv1.frozen)
    have hb3 : Below (w.heap.size + 3) W w1 := ((Below.refl (w.heap.size + 3) W).alloc hW3 _).grown hgrow (by simp; omega) (fun k ek => (hrow.lt k ek).1)
    refine ⟨hk2.from _, ⟨?_, ?_⟩, ⟨_, hv2, ?_, ?_⟩, hB.trans hb2, ?_⟩
    · rw [World.cell?_setCell_other (h := fun hh => by have := congrArg Addr.block hh; simp at this)]
      exact hb3.cell (p := ⟨w.heap.size + 1, 0, none⟩) (show w.heap.size + 1 < w.heap.size + 3 by omega)
    · rw [World.cell?_setCell_other (h := fun hh => by have := congrArg Addr.block hh; simp at this; omega)]
      exact hb3.cell (p := ⟨w.heap.size + 1 + 1, 0, none⟩) (show w.heap.size + 1 + 1 < w.heap.size + 3 by omega)
    · rw [List.length_append, List.map_append]
      exact hown'.kept (grownBy_setCell' _ _ _) (.inr (hv1.not_row (by decide) hown').symm)
    · simp
    · exact Nat.le_trans hW3 hb2.size
  case done =>
    rintro D ys W hD rfl ⟨⟨v, hv, hrow, hnil⟩, hB, _⟩ hK
    have hc := hv.cell
    gi_wp2
    refine ⟨by simp, .inl ⟨_, _, rfl, run_takeDeferred hK, ?_⟩⟩
    exact ⟨_, results_tmp2 rfl _ _ _, v, rfl, ownsRow_putObj (ownsRow_mono hrow (by omega)) _ hK rfl, hnil, hB.trans (belowK_b (w := w) (Nat.le_refl _) W D _ _ (by simp at hD; omega) hK rfl rfl)⟩
  case stop =>
    rintro D c pre W _ _ h _
    exact h.elim
end Go.Proofs.Ytlmnkkodfnlbmaa
