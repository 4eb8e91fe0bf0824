/- The contract of the program's MirrorMobile. -/
import Derived.Test.YtnadchgekfljkaaMobO
import Derived.Test.YtnadchgekfljkaaOnly
import Derived.Test.YtnadchgekfljkaaShelf
import Derived.Shelf.SlicesE.Reverse
import Derived.Test.YtnadchgekfljkaaRod2
namespace Go.Proofs.Ytnadchgekfljkaa
section
open Go.RowKit Go.Sort
/-- Two cells have been exchanged; nothing else has turned. -/
structure Rev2 (w w' : World) (g o : Nat) (x y : Value) : Prop where
  c0 : w'.cell? ⟨g, o, none⟩ = some y
  c1 : w'.cell? ⟨g, o + 1, none⟩ = some x
  other : ∀ j, j ≠ o → j ≠ o + 1 → w'.cell? ⟨g, j, none⟩ = w.cell? ⟨g, j, none⟩
  fz : ∀ j, w'.frozen? ⟨g, j, none⟩ = w.frozen? ⟨g, j, none⟩
  only : Only g w w'
theorem holds_two {α : Type} [Inhabited α] (enc : α → Value) (w : World) (g o : Nat) (x y : α) (h0 : w.cell? ⟨g, o, none⟩ = some (enc x)) (h1 : w.cell? ⟨g, o + 1, none⟩ = some (enc y)) (hf : ∀ j, w.frozen? ⟨g, j, none⟩ = false) : Holds enc w g o #[x, y] := fun j hj => by
  refine ⟨?_, hf _⟩
  rcases (show j = 0 ∨ j = 1 by simp at hj; omega) with rfl | rfl
  · exact h0
  · exact h1
theorem rev2_put {α : Type} [Inhabited α] (enc : α → Value) (w : World) (g o q : Nat) (x y : α) (h : Holds enc w g o #[x, y]) : Rev2 w (putRow enc (Sort.ahead w q) g o #[x, y].reverse) g o (enc x) (enc y) := by
  have e : #[x, y].reverse = #[y, x] := by simp
  rw [e]
  have hh := holds_putRow enc (Sort.ahead w q) g o #[x, y] #[y, x] h rfl
  refine ⟨(hh 0 (by simp)).1, (hh 1 (by simp)).1, fun j h1 h2 => ?_, fun j => ?_, ?_⟩
  · exact cell?_putRow_other enc (Sort.ahead w q) g o #[y, x] ⟨g, j, none⟩ (.inr (by simp; omega))
  · rw [frozen?_putRow]; rfl
  · refine ⟨rfl, rfl, rfl, ?_, fun k hk hl => ?_⟩
    · rw [size_putRow]; exact Nat.le_refl _
    · show (w.heap.modify g _)[k]? = w.heap[k]?
      rw [Array.getElem?_modify, if_neg (fun e => hk e.symm)]
theorem revI_any (g o : Nat) (x y : Int) (w : World) (h0 : w.cell? ⟨g, o, none⟩ = some (.int .i64 x)) (h1 : w.cell? ⟨g, o + 1, none⟩ = some (.int .i64 y)) (hf : ∀ j, w.frozen? ⟨g, j, none⟩ = false) :
    Calls Try.prog 112 #[.slice (some ⟨g, o, none⟩) 2 2] w fun e w' => e = .returned (.tuple #[]) ∧ Rev2 w w' g o (.int .i64 x) (.int .i64 y) := by
  have hH := holds_two (Value.int .i64) w g o x y h0 h1 hf
  have := Try.slices_Reverse_arr (Value.int .i64) (fun _ => rfl) g o 2 #[x, y] w hH (by simp)
  refine this.mono ?_
  rintro e w' ⟨rfl, q, rfl⟩
  exact ⟨rfl, rev2_put _ _ _ _ _ _ _ hH⟩
theorem revP_any (b : Nat → Nat) (g o : Nat) (x y : Nat) (w : World) (h0 : w.cell? ⟨g, o, none⟩ = some (ptrR b x)) (h1 : w.cell? ⟨g, o + 1, none⟩ = some (ptrR b y)) (hf : ∀ j, w.frozen? ⟨g, j, none⟩ = false) :
    Calls Try.prog 113 #[.slice (some ⟨g, o, none⟩) 2 2] w fun e w' => e = .returned (.tuple #[]) ∧ Rev2 w w' g o (ptrR b x) (ptrR b y) := by
  have hH := holds_two (ptrR b) w g o x y h0 h1 hf
  have := AnyE.slices_Reverse_arr Try.laysRevP (ptrR b) (fun _ => rfl) g o 2 #[x, y] w hH (by simp)
  change Calls Try.prog 113 _ _ _ at this
  refine this.mono ?_
  rintro e w' ⟨rfl, q, rfl⟩
  exact ⟨rfl, rev2_put _ _ _ _ _ _ _ hH⟩
theorem RodAt.rev_arm {w w' : World} {b : Nat → Nat} {g : Nat} {nu : Int} {a l : Nat → Int} {r : Nat → Nat} (h : RodAt w b g nu a l r) (q : Rev2 w w' g 1 (.int .i64 (a 0)) (.int .i64 (a 1))) : RodAt w' b g nu (fun e => a (1 - e)) l r where
  num := (q.other 0 (by omega) (by omega)).trans h.num
  arm := fun e he => by
    rcases (show e = 0 ∨ e = 1 by omega) with rfl | rfl
    · exact q.c0
    · exact q.c1
  leaf := fun e he => (q.other (3 + e) (by omega) (by omega)).trans (h.leaf e he)
  below := fun e he => (q.other (5 + e) (by omega) (by omega)).trans (h.below e he)
  fz := fun j => (q.fz j).trans (h.fz j)
  lt := Nat.lt_of_lt_of_le h.lt q.only.size
theorem RodAt.rev_leaf {w w' : World} {b : Nat → Nat} {g : Nat} {nu : Int} {a l : Nat → Int} {r : Nat → Nat} (h : RodAt w b g nu a l r) (q : Rev2 w w' g 3 (.int .i64 (l 0)) (.int .i64 (l 1))) : RodAt w' b g nu a (fun e => l (1 - e)) r where
  num := (q.other 0 (by omega) (by omega)).trans h.num
  arm := fun e he => (q.other (1 + e) (by omega) (by omega)).trans (h.arm e he)
  leaf := fun e he => by
    rcases (show e = 0 ∨ e = 1 by omega) with rfl | rfl
    · exact q.c0
    · exact q.c1
  below := fun e he => (q.other (5 + e) (by omega) (by omega)).trans (h.below e he)
  fz := fun j => (q.fz j).trans (h.fz j)
  lt := Nat.lt_of_lt_of_le h.lt q.only.size
theorem RodAt.rev_below {w w' : World} {b : Nat → Nat} {g : Nat} {nu : Int} {a l : Nat → Int} {r : Nat → Nat} (h : RodAt w b g nu a l r) (q : Rev2 w w' g 5 (ptrR b (r 0)) (ptrR b (r 1))) : RodAt w' b g nu a l (fun e => r (1 - e)) where
  num := (q.other 0 (by omega) (by omega)).trans h.num
  arm := fun e he => (q.other (1 + e) (by omega) (by omega)).trans (h.arm e he)
  leaf := fun e he => (q.other (3 + e) (by omega) (by omega)).trans (h.leaf e he)
  below := fun e he => by
    rcases (show e = 0 ∨ e = 1 by omega) with rfl | rfl
    · exact q.c0
    · exact q.c1
  fz := fun j => (q.fz j).trans (h.fz j)
  lt := Nat.lt_of_lt_of_le h.lt q.only.size
/-- Rods of which one has turned alone. -/
theorem RodsIn.one {w w' : World} {B n q : Nat} {b : Nat → Nat} {nu : Nat → Int} {S S' : RodF} (h : RodsIn w B 0 n b nu S) (hq : q < n) (ho : Only (b q) w w')
    (hr : RodAt w' b (b q) (nu q) (fun e => S'.ar (2 * q + e)) (fun e => S'.le (2 * q + e)) (fun e => S'.be (2 * q + e)))
    (hs : ∀ i e, i < n → e < 2 → i ≠ q → S.ar (2 * i + e) = S'.ar (2 * i + e) ∧ S.le (2 * i + e) = S'.le (2 * i + e) ∧ S.be (2 * i + e) = S'.be (2 * i + e)) : RodsIn w' B 0 n b nu S' where
  rod := fun i h1 h2 => by
    by_cases e : i = q
    · subst e; exact hr
    · refine (((h.rod i h1 h2).keep ho.size (ho.block _ (fun e2 => e (h.apart i q h1 h2 (by omega) hq e2)) (h.rod i h1 h2).lt))).congr (fun e2 he => (hs i e2 h2 he e).1) (fun e2 he => (hs i e2 h2 he e).2.1) (fun e2 he => by rw [(hs i e2 h2 he e).2.2])
  far := h.far
  apart := h.apart
theorem RodsIn.turn {w w1 w2 w3 : World} {B n k : Nat} {b : Nat → Nat} {nu : Nat → Int} {S : RodF} (h : RodsIn w B 0 n b nu (mirR S k)) (hk : k < n)
    (q1 : Rev2 w w1 (b k) 1 (.int .i64 (S.ar (2 * k))) (.int .i64 (S.ar (2 * k + 1)))) (q2 : Rev2 w1 w2 (b k) 3 (.int .i64 (S.le (2 * k))) (.int .i64 (S.le (2 * k + 1)))) (q3 : Rev2 w2 w3 (b k) 5 (ptrR b (S.be (2 * k))) (ptrR b (S.be (2 * k + 1)))) : RodsIn w3 B 0 n b nu (mirR S (k + 1)) := by
  have hr := h.rod k (by omega) hk
  have hr' : RodAt w b (b k) (nu k) (fun e => S.ar (2 * k + e)) (fun e => S.le (2 * k + e)) (fun e => S.be (2 * k + e)) := hr.congr (fun e he => by rw [(mirR_at S k k e he).1, if_neg (by omega)]) (fun e he => by rw [(mirR_at S k k e he).2.1, if_neg (by omega)]) (fun e he => by rw [(mirR_at S k k e he).2.2, if_neg (by omega)])
  have ht := ((hr'.rev_arm q1).rev_leaf q2).rev_below q3
  refine h.one hk ((q1.only.trans q2.only).trans q3.only) (ht.congr (fun e he => ?_) (fun e he => ?_) (fun e he => ?_)) (fun i e hi he hne => ?_)
  · rw [(mirR_at S (k + 1) k e he).1, if_pos (by omega)]
  · rw [(mirR_at S (k + 1) k e he).2.1, if_pos (by omega)]
  · rw [(mirR_at S (k + 1) k e he).2.2, if_pos (by omega)]
  · obtain ⟨a1, a2, a3⟩ := mirR_at S k i e he
    obtain ⟨c1, c2, c3⟩ := mirR_at S (k + 1) i e he
    rw [a1, a2, a3, c1, c2, c3]
    by_cases hlt : i < k
    · rw [if_pos hlt, if_pos hlt, if_pos hlt, if_pos (by omega), if_pos (by omega), if_pos (by omega)]; exact ⟨rfl, rfl, rfl⟩
    · rw [if_neg hlt, if_neg hlt, if_neg hlt, if_neg (by omega), if_neg (by omega), if_neg (by omega)]; exact ⟨rfl, rfl, rfl⟩
end
section
open Go.RowKit
theorem RodSt.turn {w0 w w1 w2 w3 : World} {B g n k : Nat} {b : Nat → Nat} {S : RodF} (h : RodSt w0 w B g n b (mirR S k)) (hk : k < n)
    (q1 : Rev2 w w1 (b k) 1 (.int .i64 (S.ar (2 * k))) (.int .i64 (S.ar (2 * k + 1)))) (q2 : Rev2 w1 w2 (b k) 3 (.int .i64 (S.le (2 * k))) (.int .i64 (S.le (2 * k + 1)))) (q3 : Rev2 w2 w3 (b k) 5 (ptrR b (S.be (2 * k))) (ptrR b (S.be (2 * k + 1)))) : RodSt w0 w3 B g n b (mirR S (k + 1)) := by
  have ho := (q1.only.trans q2.only).trans q3.only
  refine ⟨h.rods.turn hk q1 q2 q3, fun j hj => (ho.cell (p := ⟨g, j, none⟩) (fun e => h.ap k hk e.symm) h.gl).trans (h.row j hj), Nat.lt_of_lt_of_le h.gl ho.size, h.ap, h.lo.trans ?_⟩
  have hb := h.rods.far k (by omega) hk
  have hr := (h.rods.rod k (by omega) hk).lt
  exact (ho.below (by omega)).mono hb
set_option maxRecDepth 100000 in
set_option maxHeartbeats 6400000 in
theorem mirror_yes (v : Value) (m : MobV) (w : World) (hv : MobRow w v m) (hb : BndM m) (hf : MobF m) :
    Calls Try.prog 47 #[v] w fun e w' => ∃ u, e = .returned (.tuple #[u, .bool true]) ∧ MineMb w' w.heap.size w'.heap.size u (swapM m) ∧ Below w.heap.size w w' := by
  have h1 := hf.one
  have h6 := hf.short
  have RO := Lib.hid (fun w1 (l : Below w.heap.size w w1) => rodsOf_yes v m w1 (hv.lo l) hb hf)
  obtain ⟨n, hn⟩ : ∃ n, m.am.length = n := ⟨_, rfl⟩
  have MO := Lib.hid (fun (B : Nat) (b : Nat → Nat) (w1 : World) (H : RodsIn w1 B 0 n b (fun i => (i : Int)) (mirR (rodF m) n)) (hB : B ≤ w1.heap.size) => (by
    subst hn
    have hq := mobF_swap hf
    have hl : (swapM m).am.length = m.am.length := swap_len _
    have := mobileOf_any m.am.length B b (rodF (swapM m)) w1 h1 h6 (hl ▸ treeR_rodF hq) (hl ▸ bndR_good hq) H.turned hB
    rw [show madeR m.am.length (rodF (swapM m)) = swapM m from by
      have := madeR_rodF (q := swapM m) hq (fun _ => rfl) rfl hq.same (fun t ht => by have := (hq.ends t ht).2; omega)
      rwa [hl] at this, show keptM (swapM m) = swapM m from by unfold keptM; rw [if_pos ((goodB_iff _).2 hq)], (goodB_iff _).2 hq] at this
    exact this : Calls Try.prog 94 #[.pointer (some ⟨b 0, 0, none⟩)] w1 fun e w' => ∃ u, e = .returned (.tuple #[u, .bool true]) ∧ MineMb w' w1.heap.size w'.heap.size u (swapM m) ∧ Below B w1 w'))
  obtain ⟨a, c, a', c', rfl⟩ := hv.form
  obtain ⟨lb, hlb⟩ : ∃ lb, m.hu.length = lb := ⟨_, rfl⟩
  rw [hn, hlb] at RO ⊢
  rw [hn] at h1 h6
  obtain ⟨W, hW⟩ : ∃ W, (w.alloc (.cells #[.slice a n a', .slice c lb c'] 27)).alloc (.cells #[.slice none 0 0, .slice none 0 0] 27) = W := ⟨_, rfl⟩
  have LW := Lib.hid (show Below w.heap.size w W by rw [← hW]; exact ((Below.refl _ _).alloc (Nat.le_refl _) _).alloc (by simp) _)
  have BX := Lib.hid (show Box2 W w.heap.size (.slice a n a') (.slice c lb c') by rw [← hW]; exact (box2_new _ _ _ _).lo ((Below.refl _ _).alloc (Nat.le_refl _) _))
  have BY := Lib.hid (show Box2 W (w.heap.size + 1) (.slice none 0 0) (.slice none 0 0) by rw [← hW]; have := box2_new (w.alloc (.cells #[.slice a n a', .slice c lb c'] 27)) (.slice none 0 0) (.slice none 0 0) 27; simpa using this)
  have FY := Lib.hid (show ∀ j, W.frozen? ⟨w.heap.size + 1, j, none⟩ = false by rw [← hW]; exact fun j => World.frozen?_alloc_at _ _ _ _ (by simp))
  have R1 := Lib.hid (RO.out W LW.out)
  clear RO hv hb hf hlb hn
  obtain ⟨_, u0, u1⟩ := BX.out
  go_enter Try.func47, Try.ntmps47
  go_wp2_with fail
  clear hW u0 u1
  refine R1.out.mono ?_
  rintro e w1 ⟨g, b, rfl, hr, hg, l1⟩
  have S0 := Lib.hid (RodSt.of hr l1)
  clear hr l1 R1
  have M0 := Lib.hid (show RodSt W w1 W.heap.size g n b (mirR (rodF m) 0) from ⟨S0.out.rods.same (fun t _ => by simp [mirR]) (fun t _ => by simp [mirR]) (fun t _ => by simp [mirR]), S0.out.row, S0.out.gl, S0.out.ap, S0.out.lo⟩)
  clear S0
  go_wp2
  go_loopw [18] (fun x wr => ∃ k : Nat, k ≤ n ∧ x = .int .i64 k ∧ Hid (RodSt W wr W.heap.size g n b (mirR (rodF m) k))) (fun x _ => n - (intOf x).toNat)
  case atStart => exact ⟨0, Nat.zero_le _, rfl, M0⟩
  case round =>
    obtain ⟨k, hk, rfl, HS⟩ := hrel
    obtain ⟨wq, rfl⟩ : ∃ wq : World, wq = wr := ⟨_, rfl⟩
    clear M0
    by_cases hlt : k < n
    · have hlt' : (k : Int) < (n : Int) := by omega
      have cr := HS.out.row k hlt
      have hgl := HS.out.gl
      have hr := HS.out.rods.rod k (by omega) hlt
      have hr' : RodAt wq b (b k) (k : Int) (fun e => (rodF m).ar (2 * k + e)) (fun e => (rodF m).le (2 * k + e)) (fun e => (rodF m).be (2 * k + e)) := hr.congr (fun e he => by rw [(mirR_at _ k k e he).1, if_neg (by omega)]) (fun e he => by rw [(mirR_at _ k k e he).2.1, if_neg (by omega)]) (fun e he => by rw [(mirR_at _ k k e he).2.2, if_neg (by omega)])
      have HR := Lib.hid hr'
      clear hr hr'
      go_wp2_with fail
      refine (revI_any (b k) 1 _ _ wq (HR.out.arm 0 (by omega)) (HR.out.arm 1 (by omega)) HR.out.fz).mono ?_
      rintro e w2 ⟨rfl, q1⟩
      have Q1 := Lib.hid q1
      have HR1 := Lib.hid (HR.out.rev_arm q1)
      clear cr hgl q1
      go_wp2_with fail
      refine (revI_any (b k) 3 _ _ w2 (HR1.out.leaf 0 (by omega)) (HR1.out.leaf 1 (by omega)) HR1.out.fz).mono ?_
      rintro e w3 ⟨rfl, q2⟩
      have Q2 := Lib.hid q2
      have HR2 := Lib.hid (HR1.out.rev_leaf q2)
      clear q2
      go_wp2_with fail
      refine (revP_any b (b k) 5 _ _ w3 (HR2.out.below 0 (by omega)) (HR2.out.below 1 (by omega)) HR2.out.fz).mono ?_
      rintro e w4 ⟨rfl, q3⟩
      have HN := Lib.hid (HS.out.turn hlt Q1.out Q2.out q3)
      clear q3
      go_wp2
      go_roundw
      case rel => exact ⟨k + 1, by omega, by go_num, HN⟩
      case measure => simp [intOf]; omega
    · obtain rfl : k = n := by omega
      have hge : ¬ (k : Int) < (k : Int) := by omega
      have cr := HS.out.row 0 (by omega)
      have hk1 : (1 : Int) ≤ (k : Int) := by omega
      have hk0 : (0 : Int) < (k : Int) := by omega
      have hk0' : 0 < k := by omega
      have hgl := HS.out.gl
      go_wp2_with fail
      refine (MO.out W.heap.size b wq HS.out.rods HS.out.lo.size).mono ?_
      rintro e w2 ⟨u, rfl, hm, l2⟩
      have L2 := Lib.hid (HS.out.lo.trans l2)
      have hwW : w.heap.size + 1 < W.heap.size := BY.out.1
      obtain ⟨by0, y0, y1⟩ := BY.out.lo L2.out
      have fy : ∀ j, w2.frozen? ⟨w.heap.size + 1, j, none⟩ = false := fun j => (L2.out.frozen (p := ⟨w.heap.size + 1, j, none⟩) BY.out.1).trans (FY.out j)
      have fy0 := fy 0
      have fy1 := fy 1
      have hrow := hm.row
      obtain ⟨xa, xb, xc, xd, rfl⟩ := hrow.form
      generalize (swapM m).am.length = na at *
      generalize (swapM m).hu.length = nb at *
      have TS := Lib.hid (two_set w2 (w.heap.size + 1) 0 (.slice xa na xc) (.slice xb nb xd) y0 y1)
      have LF := Lib.hid ((lo_on LW.out L2.out).setCell (p := ⟨w.heap.size + 1, 0, none⟩) (Nat.le_succ _) (.slice xa na xc) |>.setCell (p := ⟨w.heap.size + 1, 1, none⟩) (Nat.le_succ _) (.slice xb nb xd))
      have hwq : w.heap.size + 1 < wq.heap.size := by have := HS.out.lo.size; omega
      have MF := Lib.hid ((((hm.part (part_set _ _ 0 (.slice xa na xc)) (.inr (by omega))).part (part_set _ (w.heap.size + 1) 1 (.slice xb nb xd)) (.inr (by omega))).mono (show w.heap.size ≤ wq.heap.size by omega) (Nat.le_refl _) : MineMb ((w2.setCell ⟨w.heap.size + 1, 0, none⟩ (.slice xa na xc)).setCell ⟨w.heap.size + 1, 1, none⟩ (.slice xb nb xd)) w.heap.size w2.heap.size _ _))
      clear cr hgl fy hm hrow l2
      go_wp2
      obtain ⟨q0, q1, _⟩ := TS.out
      exact bodyPost_ret (v := .tuple #[.agg #[.slice xa na xc, .slice xb nb xd], .bool true]) (by simp [results, Try.results47, go_sem, q0, q1]) rfl ⟨_, rfl, by simpa using MF.out, LF.out⟩
end
section
open Go.RowKit
set_option maxRecDepth 100000 in
set_option maxHeartbeats 1600000 in
theorem mirror_no (v : Value) (m : MobV) (w : World) (hv : MobRow w v m) (hs : SmallM m) (hb : BndM m) (hr : goodB m = false) :
    Calls Try.prog 47 #[v] w fun e w' => ∃ u, e = .returned (.tuple #[u, .bool false]) ∧ MineMb w' w.heap.size w'.heap.size u nilM ∧ Below w.heap.size w w' := by
  have D := Lib.hid (fun w1 (l : Below w.heap.size w w1) => rodsOf_no v m w1 (hv.lo l) hs hb hr)
  obtain ⟨a, b, c, d, rfl⟩ := hv.form
  obtain ⟨W, hW⟩ : ∃ W, (w.alloc (.cells #[.slice a m.am.length c, .slice b m.hu.length d] 27)).alloc (.cells #[.slice none 0 0, .slice none 0 0] 27) = W := ⟨_, rfl⟩
  have LW := Lib.hid (show Below w.heap.size w W by rw [← hW]; exact ((Below.refl _ _).alloc (Nat.le_refl _) _).alloc (by simp) _)
  have BX := Lib.hid (show Box2 W w.heap.size (.slice a m.am.length c) (.slice b m.hu.length d) by rw [← hW]; exact (box2_new _ _ _ _).lo ((Below.refl _ _).alloc (Nat.le_refl _) _))
  have BY := Lib.hid (show Box2 W (w.heap.size + 1) (.slice none 0 0) (.slice none 0 0) by rw [← hW]; have := box2_new (w.alloc (.cells #[.slice a m.am.length c, .slice b m.hu.length d] 27)) (.slice none 0 0) (.slice none 0 0) 27; simpa using this)
  have FY := Lib.hid (show ∀ j, W.frozen? ⟨w.heap.size + 1, j, none⟩ = false by rw [← hW]; exact fun j => World.frozen?_alloc_at _ _ _ _ (by simp))
  have D1 := Lib.hid (D.out W LW.out)
  generalize m.am.length = n at *
  generalize m.hu.length = n2 at *
  clear hv hs hb D hr
  obtain ⟨_, u0, u1⟩ := BX.out
  go_enter Try.func47, Try.ntmps47
  go_wp2_with fail
  clear hW u0 u1
  refine D1.out.mono ?_
  rintro e' w1 ⟨rfl, l1⟩
  have L1 := Lib.hid (lo_on LW.out l1)
  obtain ⟨by0, y0, y1⟩ := BY.out.lo l1
  have fy : ∀ j, w1.frozen? ⟨w.heap.size + 1, j, none⟩ = false := fun j => (l1.frozen (p := ⟨w.heap.size + 1, j, none⟩) BY.out.1).trans (FY.out j)
  have fy0 := fy 0
  have fy1 := fy 1
  have TS := Lib.hid (two_set w1 (w.heap.size + 1) 0 (.slice none 0 0) (.slice none 0 0) y0 y1)
  have LF := Lib.hid (L1.out.setCell (p := ⟨w.heap.size + 1, 0, none⟩) (Nat.le_succ _) (.slice none 0 0) |>.setCell (p := ⟨w.heap.size + 1, 1, none⟩) (Nat.le_succ _) (.slice none 0 0))
  clear l1 D1 fy
  go_wp2
  obtain ⟨q0, q1, _⟩ := TS.out
  exact bodyPost_ret (v := .tuple #[.agg #[.slice none 0 0, .slice none 0 0], .bool false]) (by simp [results, Try.results47, go_sem, q0, q1]) rfl ⟨_, rfl, minePl_nilM _ _ _ LF.out.size, LF.out⟩
theorem mirror_any (v : Value) (m : MobV) (w : World) (hv : MobRow w v m) (hs : SmallM m) (hb : BndM m) :
    Calls Try.prog 47 #[v] w fun e w' => ∃ u, e = .returned (.tuple #[u, .bool (goodB m)]) ∧ MineMb w' w.heap.size w'.heap.size u (mirM m) ∧ Below w.heap.size w w' := by
  unfold mirM
  cases h : goodB m with
  | true => rw [if_pos rfl]; exact mirror_yes v m w hv hb ((goodB_iff m).1 h)
  | false => rw [if_neg (by simp)]; exact mirror_no v m w hv hs hb h
theorem smallM_mir (m : MobV) : SmallM (mirM m) := by
  unfold mirM
  split
  · rename_i h; exact (mobF_swap ((goodB_iff m).1 h)).small
  · exact smallM_nil
end
end Go.Proofs.Ytnadchgekfljkaa
