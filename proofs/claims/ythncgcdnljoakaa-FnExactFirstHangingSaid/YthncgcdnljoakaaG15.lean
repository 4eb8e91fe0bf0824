/- Rod4, Rod8, as one text. -/
import Derived.Test.YthncgcdnljoakaaG14
import Derived.Deep.RegionHeld3
import Derived.Deep.AppendLies
import Derived.Lib.SmallJoins
namespace Go.Proofs.Ythncgcdnljoakaa
open Go.RowKit
theorem turnsL_zero (m : MobV) : levelB m = true ↔ ∀ j, j < (turnsL m).length → (turnsL m).getD j 0 = 0 := by
  unfold levelB
  rw [propB_iff, turnsL_len]
  constructor
  · intro h j hj; rw [turnsL_at m j hj]; exact h j hj
  · intro h j hj; rw [← turnsL_at m j hj]; exact h j hj
/-- The ends without rods. -/
def endT (S : RodF) (T : Nat) : List Nat := (List.range T).filter (fun t => decide (S.be t = 0))
def endP2 (t : Nat) : Int × Int := (((t / 2 : Nat) : Int), ((t % 2 : Nat) : Int))
theorem endT_yes {S : RodF} {T : Nat} (h : S.be T = 0) : endT S (T + 1) = endT S T ++ [T] := by
  unfold endT; rw [List.range_succ, List.filter_append]; simp [h]
theorem endT_no {S : RodF} {T : Nat} (h : S.be T ≠ 0) : endT S (T + 1) = endT S T := by
  unfold endT; rw [List.range_succ, List.filter_append]; simp [h]
theorem endT_len (S : RodF) (T : Nat) : (endT S T).length ≤ T := by
  have := List.length_filter_le (fun t => decide (S.be t = 0)) (List.range T)
  unfold endT; simpa using this
theorem endT_mem {S : RodF} {T t : Nat} : t ∈ endT S T ↔ t < T ∧ S.be t = 0 := by unfold endT; simp
/-- A row of ends of its own. -/
def OwnE (w : World) (B : Nat) (v : Value) (xs : List (Int × Int)) : Prop := w.ownsRow B 143 2 v xs.length (cellsF xs)
theorem loadRow_ownE {w : World} {B : Nat} {v : Value} {xs : List (Int × Int)} (h : OwnE w B v xs) : LoadRow w v xs := by
  have h' := h
  unfold OwnE at h'
  rcases h'.2 with ⟨rfl, h0⟩ | ⟨g, cap, cur, rfl, _, hb, _⟩
  · have : xs = [] := List.length_eq_zero_iff.1 h0
    subst this
    exact ⟨none, 0, rfl, .inl rfl⟩
  · refine ⟨_, cap, rfl, .inr ⟨g, 0, rfl, (Array.getElem?_eq_some_iff.1 hb).1, fun j hj => ?_⟩⟩
    have hc := cellsF_at xs j hj
    rw [Nat.zero_add, h'.cellAt (j * 2) (by omega), h'.cellAt (j * 2 + 1) (by omega)]
    exact hc
theorem ownE_snoc {w : World} {B k : Nat} {v : Value} {ys : List (Int × Int)} {p q : Int} (h : w.ownsRow B 143 2 v (k + 1) (cellsF ys ++ [.int .i64 p, .int .i64 q])) (hk : ys.length = k) : OwnE w B v (ys ++ [(p, q)]) := by
  unfold OwnE
  rw [List.length_append, hk, cellsF_app]
  exact h
theorem infoEnd : (Try.prog.info? 143).map (fun i => (i.zero, i.size, i.bytes)) = some (some (.agg #[.int .i64 0, .int .i64 0]), 2, 16) := by kernel_rfl
theorem index_ptr (v0 v1 x : Value) (e : Nat) (he : e < 2) (hx : (if e = 0 then v0 else v1) = x) (w : World) : (Instr.index 145 (.agg #[v0, v1]) (.int .i64 (e : Int))).run Try.prog w = .ok x w := by
  subst hx
  rcases (show e = 0 ∨ e = 1 by omega) with rfl | rfl
  · kernel_rfl
  · kernel_rfl
set_option maxRecDepth 100000 in
set_option maxHeartbeats 3200000 in
theorem leafEnds_any (g B n : Nat) (b : Nat → Nat) (S : RodF) (w : World) (hn : n ≤ 6) (H : RodsTo w B g 0 n b S) :
    Calls Try.prog 142 #[.slice (some ⟨g, 0, none⟩) n n] w fun e w' => ∃ u, e = .returned u ∧ OwnE w' w.heap.size u ((endT S (2 * n)).map endP2) ∧ Below w.heap.size w w' := by
  obtain ⟨i0, hi, hz0, hz1, hz2⟩ := info_parts infoEnd
  have HR := Lib.hid H
  have O0 := Lib.hid (show OwnE w w.heap.size (.slice none 0 0) ((endT S (2 * 0)).map endP2) from World.ownsRow_nil _ _ _ _)
  clear H
  go_enter Try.func142, Try.ntmps142
  go_wp2
  go_loopw [3, 10] (fun v x wr => ∃ k : Nat, k ≤ n ∧ x = .int .i64 k ∧ Hid (OwnE wr w.heap.size v ((endT S (2 * k)).map endP2)) ∧ Hid (Below w.heap.size w wr)) (fun _ x _ => n - (intOf x).toNat)
  case atStart => exact ⟨0, Nat.zero_le _, rfl, O0, Lib.hid (Below.refl _ _)⟩
  case round =>
    obtain ⟨k, hk, rfl, HO, HW⟩ := hrel
    obtain ⟨wq, rfl⟩ : ∃ wq : World, wq = wr := ⟨_, rfl⟩
    clear O0
    by_cases hlt : k < n
    · have hlt' : (k : Int) < (n : Int) := by omega
      have HRq := Lib.hid (HR.out.lo HW.out)
      have cr := HRq.out.row k hlt
      rw [if_neg (by omega)] at cr
      have c5 := (HRq.out.rods.rod k (by omega) hlt).below 0 (by omega)
      have c6 := (HRq.out.rods.rod k (by omega) hlt).below 1 (by omega)
      simp only [Nat.add_zero, Nat.reduceAdd] at c5 c6
      have HIX := Lib.hid (fun e (he : e < 2) w => index_ptr (ptrR b (S.be (2 * k))) (ptrR b (S.be (2 * k + 1))) (ptrR b (S.be (2 * k + e))) e he (by
        rcases (show e = 0 ∨ e = 1 by omega) with rfl | rfl
        · rfl
        · rfl) w)
      generalize ptrR b (S.be (2 * k)) = p0 at *
      generalize ptrR b (S.be (2 * k + 1)) = p1 at *
      clear HRq
      go_wp2
      clear cr c5 c6
      go_loopw [3, 19] (fun v x wr => ∃ e : Nat, e ≤ 2 ∧ x = .int .i64 e ∧ Hid (OwnE wr w.heap.size v ((endT S (2 * k + e)).map endP2)) ∧ Hid (Below w.heap.size w wr)) (fun _ x _ => 2 - (intOf x).toNat)
      case atStart => exact ⟨0, Nat.zero_le _, rfl, HO, HW⟩
      case round =>
        obtain ⟨e, he, rfl, HO2, HW2⟩ := hrel
        obtain ⟨wx, rfl⟩ : ∃ wx : World, wx = wr := ⟨_, rfl⟩
        clear HO HW
        by_cases hel : e < 2
        · have hel' : (e : Int) < 2 := by omega
          have hix := HIX.out e hel wx
          have hlen := endT_len S (2 * k + e)
          have HEP := Lib.hid (show endP2 (2 * k + e) = ((k : Int), (e : Int)) by unfold endP2; rw [show (2 * k + e) / 2 = k by omega, show (2 * k + e) % 2 = e by omega])
          by_cases h0 : S.be (2 * k + e) = 0
          · have HY := Lib.hid (endT_yes h0)
            rw [h0, ptrR_none _ rfl] at hix
            have hown := HO2.out
            unfold OwnE at hown
            rw [List.length_map] at hown
            have HTT := Lib.hid (show (endT S (2 * k + (e + 1))).map endP2 = (endT S (2 * k + e)).map endP2 ++ [((k : Int), (e : Int))] by rw [show 2 * k + (e + 1) = 2 * k + e + 1 by omega, HY.out, List.map_append]; simp [HEP.out])
            obtain ⟨ys, hys⟩ : ∃ ys, (endT S (2 * k + e)).map endP2 = ys := ⟨_, rfl⟩
            have HL := Lib.hid (show ys.length = (endT S (2 * k + e)).length by rw [← hys, List.length_map])
            rw [hys] at hown HTT
            generalize (endT S (2 * k + e)).length = L at *
            have hgw := HW2.out.size
            clear hys h0 HY HO2
            go_wp2_with (at_builtin; refine wpList_append_own _ rfl _ _ 140 rfl w.heap.size 143 i0 (.agg #[.int .i64 0, .int .i64 0]) 2 16 Try.underlying140 hi hz0 hz1 hz2 rfl (by decide) _ _ _ rfl (hown.alloc _) ⟨wx.heap.size, 0, none⟩ 1 1 (cellsF [((k : Int), (e : Int))]) rfl rfl (two_new _ _ _ _) (cellsF_one _) (by unfold maxLen; omega) (by omega) (by simp; omega) ?_; intro v' w3 hown' hgrow3 hnil3)
            have HNN := Lib.hid (show OwnE w3 w.heap.size v' ((endT S (2 * k + (e + 1))).map endP2) by rw [HTT.out]; exact ownE_snoc hown' HL.out)
            have HLN := Lib.hid (show Below w.heap.size w w3 from (HW2.out.alloc hgw _).grown hgrow3 (by simp; omega) (fun j hj => (hown.lt j hj).1))
            clear hown' hgrow3 hnil3 hown hix
            go_wp2
            go_roundw
            case rel => exact ⟨e + 1, by omega, by go_num, HNN, HLN⟩
            case measure => simp [intOf]; omega
          · have HN := Lib.hid (show endT S (2 * k + (e + 1)) = endT S (2 * k + e) by rw [show 2 * k + (e + 1) = 2 * k + e + 1 by omega]; exact endT_no h0)
            rw [ptrR_some _ h0] at hix
            clear h0
            go_wp2
            go_roundw
            case rel => exact ⟨e + 1, by omega, by go_num, by rw [HN.out]; exact HO2, HW2⟩
            case measure => simp [intOf]; omega
        · obtain rfl : e = 2 := by omega
          go_wp2
          go_roundw
          case rel => exact ⟨k + 1, by omega, by go_num, by rw [show 2 * (k + 1) = 2 * k + 2 by omega]; exact HO2, HW2⟩
          case measure => simp [intOf]; omega
    · obtain rfl : k = n := by omega
      have hge : ¬ (k : Int) < (k : Int) := by omega
      go_wp2
      go_ret
      exact ⟨_, rfl, HO.out, HW.out⟩
theorem leafEnds_nil (w : World) :
    Calls Try.prog 142 #[.slice none 0 0] w fun e w' => e = .returned (.slice none 0 0) ∧ w' = w := by
  go_enter Try.func142, Try.ntmps142
  go_wp2
  refine wp_loop_rounds 1 ?_
  rw [rounds_succ]
  go_wp2
  go_ret
  exact ⟨rfl, rfl⟩
end Go.Proofs.Ythncgcdnljoakaa
namespace Go.Proofs.Ythncgcdnljoakaa
open Go.RowKit
/-- The numbers of rods when the first T ends have been seen. -/
def numH (S : RodF) (F : Nat → Int → Int) (h : Int) : Nat → Nat → Int
  | 0 => fun j => if j = 0 then h else 0
  | T + 1 => fun j => if S.be T ≠ 0 ∧ S.be T = j then F T (numH S F h T (T / 2)) else numH S F h T j
def outH (S : RodF) (F : Nat → Int → Int) (h : Int) (T : Nat) : Int := F T (numH S F h T (T / 2))
theorem numH_some (S : RodF) (F : Nat → Int → Int) (h : Int) (T j : Nat) (hb : S.be T ≠ 0) : numH S F h (T + 1) j = if j = S.be T then outH S F h T else numH S F h T j := by
  show (if S.be T ≠ 0 ∧ S.be T = j then F T (numH S F h T (T / 2)) else numH S F h T j) = _
  unfold outH
  by_cases e : j = S.be T
  · rw [if_pos ⟨hb, e.symm⟩, if_pos e]
  · rw [if_neg (fun hh => e hh.2.symm), if_neg e]
theorem numH_none (S : RodF) (F : Nat → Int → Int) (h : Int) (T j : Nat) (hb : S.be T = 0) : numH S F h (T + 1) j = numH S F h T j := by
  show (if S.be T ≠ 0 ∧ S.be T = j then F T (numH S F h T (T / 2)) else numH S F h T j) = _
  rw [if_neg (fun hh => hh.1 hb)]
/-- The cells of one block are told by a function. -/
structure NumC (w : World) (g n : Nat) (f : Nat → Int) : Prop where
  lt : g < w.heap.size
  at_ : ∀ j, j < n → w.cell? ⟨g, j, none⟩ = some (.int .i64 (f j))
  fz : ∀ j, w.frozen? ⟨g, j, none⟩ = false
theorem NumC.set {w : World} {g n q : Nat} {f : Nat → Int} (h : NumC w g n f) (hq : q < n) (y : Int) : NumC (w.setCell ⟨g, q, none⟩ (.int .i64 y)) g n (fun j => if j = q then y else f j) where
  lt := by simpa using h.lt
  at_ := fun j hj => by
    by_cases e : j = q
    · subst e; rw [if_pos rfl]; exact cell_set _ _ _ _ (h.at_ j hj)
    · rw [if_neg e, cell_keep _ _ _ _ _ e]; exact h.at_ j hj
  fz := fun j => by rw [World.frozen?_setCell]; exact h.fz j
theorem NumC.keep {w w' : World} {g n : Nat} {f : Nat → Int} (h : NumC w g n f) (hs : w.heap.size ≤ w'.heap.size) (hc : w'.heap[g]? = w.heap[g]?) : NumC w' g n f :=
  ⟨Nat.lt_of_lt_of_le h.lt hs, fun j hj => (World.cell?_of_block hc).trans (h.at_ j hj), fun j => (World.frozen?_of_block hc).trans (h.fz j)⟩
theorem NumC.congr {w : World} {g n : Nat} {f f' : Nat → Int} (h : NumC w g n f) (he : ∀ j, j < n → f j = f' j) : NumC w g n f' := ⟨h.lt, fun j hj => by rw [← he j hj]; exact h.at_ j hj, h.fz⟩
theorem owns_set {w : World} {B k s : Nat} {e : TypeId} {v : Value} {xs : List Value} (h : w.ownsRow B e s v k xs) (g o : Nat) (u : Value) (hg : g < B) : (w.setCell ⟨g, o, none⟩ u).ownsRow B e s v k xs := by
  rcases h with ⟨h1, h2 | ⟨g', cap, cur, e1, hb, hh, h3⟩⟩
  · exact ⟨h1, .inl h2⟩
  · exact ⟨h1, .inr ⟨g', cap, cur, e1, hb, by rw [Below.heap_setCell _ _ _ _ (by simp only; omega)]; exact hh, h3⟩⟩
set_option maxRecDepth 100000 in
set_option maxHeartbeats 6400000 in
theorem handDown_weights (g B n : Nat) (b : Nat → Nat) (S : RodF) (F : Nat → Int → Int) (h : Int) (w : World) (h1 : 1 ≤ n) (h6 : n ≤ 6) (H : RodsTo w B g 0 n b S) (hd : ∀ t, t < 2 * n → S.be t ≠ 0 → S.be t < n)
    (hc : ∀ (i e : Nat) (w1 : World), i < n → e < 2 → RodsIn w1 B 0 n b (fun i => (i : Int)) S → Calls Try.prog 146 #[.pointer (some ⟨b i, 0, none⟩), .int .i64 (e : Int), .int .i64 (numH S F h (2 * i + e) i)] w1 fun r w' => r = .returned (.int .i64 (outH S F h (2 * i + e))) ∧ ∃ d, w' = w1.drewN d) :
    Calls Try.prog 145 #[.slice (some ⟨g, 0, none⟩) n n, .int .i64 h, .func (.func 146) #[] #[]] w fun e w' => ∃ u, e = .returned u ∧ OwnI w' w.heap.size u ((endT S (2 * n)).map (outH S F h)) ∧ Below w.heap.size w w' := by
  obtain ⟨i0, hi, hz0, hz1, hz2⟩ := info_parts infoInt
  have HR := Lib.hid H
  have HD := Lib.hid hd
  have C := Lib.hid hc
  have HM := make_ints n (by omega)
  have hgl := H.lt
  obtain ⟨W1, hW1⟩ : ∃ X, w.alloc (.cells (madeCells #[.int .i64 0] n) 3) = X := ⟨_, rfl⟩
  have cz : ∀ j, j < n → W1.cell? ⟨w.heap.size, j, none⟩ = some (.int .i64 0) := fun j hj => by rw [← hW1, World.cell?_alloc_at _ _ _ _ rfl]; exact made_int _ _ hj
  have fz : ∀ j, W1.frozen? ⟨w.heap.size, j, none⟩ = false := fun j => by rw [← hW1]; exact World.frozen?_alloc_at _ _ _ _ rfl
  have sz : W1.heap.size = w.heap.size + 1 := by rw [← hW1]; simp
  have NC := Lib.hid (show NumC (W1.setCell ⟨w.heap.size, 0, none⟩ (.int .i64 h)) w.heap.size n (numH S F h (2 * 0)) from by
    have c0 : NumC W1 w.heap.size n (fun _ => 0) := ⟨by omega, cz, fz⟩
    exact c0.set (q := 0) (by omega) h)
  have L1 := Lib.hid (show Below w.heap.size w (W1.setCell ⟨w.heap.size, 0, none⟩ (.int .i64 h)) from (show Below w.heap.size w W1 by rw [← hW1]; exact (Below.refl _ _).alloc (Nat.le_refl _) _).setCell (p := ⟨w.heap.size, 0, none⟩) (Nat.le_refl _) _)
  have hs1 : w.heap.size + 1 ≤ (W1.setCell ⟨w.heap.size, 0, none⟩ (.int .i64 h)).heap.size := by simp; omega
  have O1 := Lib.hid (show OwnI (W1.setCell ⟨w.heap.size, 0, none⟩ (.int .i64 h)) (w.heap.size + 1) (.slice none 0 0) ((endT S (2 * 0)).map (outH S F h)) from ownI_nil _ _)
  have z0 := cz 0 (by omega)
  have f0 := fz 0
  have h1' : (0 : Int) < (n : Int) := by omega
  clear H hd hc cz fz
  go_enter Try.func145, Try.ntmps145
  go_wp2
  clear hW1 z0 f0
  have HS1 := Lib.hid hs1
  clear hs1 sz
  go_loopw [8, 22] (fun v x wr => ∃ k : Nat, k ≤ n ∧ x = .int .i64 k ∧ Hid (OwnI wr (w.heap.size + 1) v ((endT S (2 * k)).map (outH S F h))) ∧ Hid (NumC wr w.heap.size n (numH S F h (2 * k))) ∧ Hid (Below w.heap.size w wr) ∧ Hid (w.heap.size + 1 ≤ wr.heap.size)) (fun _ x _ => n - (intOf x).toNat)
  case atStart => exact ⟨0, Nat.zero_le _, rfl, O1, NC, L1, HS1⟩
  case round =>
    obtain ⟨k, hk, rfl, HO, HN, HW, HZ⟩ := hrel
    obtain ⟨wq, rfl⟩ : ∃ wq : World, wq = wr := ⟨_, rfl⟩
    clear O1 NC L1 HS1
    by_cases hlt : k < n
    · have hlt' : (k : Int) < (n : Int) := by omega
      have HRq := Lib.hid (HR.out.lo HW.out)
      have cr := HRq.out.row k hlt
      rw [if_neg (by omega)] at cr
      have c5 := (HRq.out.rods.rod k (by omega) hlt).below 0 (by omega)
      have c6 := (HRq.out.rods.rod k (by omega) hlt).below 1 (by omega)
      simp only [Nat.add_zero, Nat.reduceAdd] at c5 c6
      have HIX := Lib.hid (fun e (he : e < 2) w => index_ptr (ptrR b (S.be (2 * k))) (ptrR b (S.be (2 * k + 1))) (ptrR b (S.be (2 * k + e))) e he (by
        rcases (show e = 0 ∨ e = 1 by omega) with rfl | rfl
        · rfl
        · rfl) w)
      generalize ptrR b (S.be (2 * k)) = p0 at *
      generalize ptrR b (S.be (2 * k + 1)) = p1 at *
      clear HRq
      go_wp2
      clear cr c5 c6
      go_loopw [8, 31] (fun v x wr => ∃ e : Nat, e ≤ 2 ∧ x = .int .i64 e ∧ Hid (OwnI wr (w.heap.size + 1) v ((endT S (2 * k + e)).map (outH S F h))) ∧ Hid (NumC wr w.heap.size n (numH S F h (2 * k + e))) ∧ Hid (Below w.heap.size w wr) ∧ Hid (w.heap.size + 1 ≤ wr.heap.size)) (fun _ x _ => 2 - (intOf x).toNat)
      case atStart => exact ⟨0, Nat.zero_le _, rfl, HO, HN, HW, HZ⟩
      case round =>
        obtain ⟨e, he, rfl, HO2, HN2, HW2, HZ2⟩ := hrel
        obtain ⟨wx, rfl⟩ : ∃ wx : World, wx = wr := ⟨_, rfl⟩
        clear HO HN HW HZ
        by_cases hel : e < 2
        · have hel' : (e : Int) < 2 := by omega
          have hix := HIX.out e hel wx
          have hix2 := fun d => HIX.out e hel (wx.drewN d)
          have HRx := Lib.hid (HR.out.lo HW2.out)
          have CL := Lib.hid (C.out k e wx hlt hel HRx.out.rods)
          have cn := HN2.out.at_ k hlt
          have hgx := HN2.out.lt
          have HSO := Lib.hid (fun (hb : S.be (2 * k + e) ≠ 0) j => numH_some S F h (2 * k + e) j hb)
          have HNO := Lib.hid (fun (hb : S.be (2 * k + e) = 0) j => numH_none S F h (2 * k + e) j hb)
          obtain ⟨z, hz⟩ : ∃ z, numH S F h (2 * k + e) k = z := ⟨_, rfl⟩
          obtain ⟨y, hy⟩ : ∃ y, outH S F h (2 * k + e) = y := ⟨_, rfl⟩
          rw [hz] at cn CL
          rw [hy] at CL HSO
          have HY := Lib.hid hy
          clear hz hy
          by_cases h0 : S.be (2 * k + e) = 0
          · have hb0 := HNO.out h0
            have HYE := Lib.hid (endT_yes h0)
            rw [h0, ptrR_none _ rfl] at hix hix2
            have hlen := endT_len S (2 * k + e)
            have hown := HO2.out
            unfold OwnI at hown
            rw [List.length_map] at hown
            have HTT := Lib.hid (show (endT S (2 * k + (e + 1))).map (outH S F h) = (endT S (2 * k + e)).map (outH S F h) ++ [y] by rw [show 2 * k + (e + 1) = 2 * k + e + 1 by omega, HYE.out, List.map_append]; simp [HY.out])
            have HNN := Lib.hid (HN2.out.congr (f' := numH S F h (2 * k + (e + 1))) (fun j _ => by rw [show 2 * k + (e + 1) = 2 * k + e + 1 by omega, hb0 j]))
            obtain ⟨ys, hys⟩ : ∃ ys, (endT S (2 * k + e)).map (outH S F h) = ys := ⟨_, rfl⟩
            have HL := Lib.hid (show ys.length = (endT S (2 * k + e)).length by rw [← hys, List.length_map])
            rw [hys] at hown HTT
            generalize (endT S (2 * k + e)).length = L at *
            clear hys h0 hb0 HYE HO2 HRx HSO HNO HY
            go_wp2_with fail
            refine CL.out.mono ?_
            rintro q1 w2 ⟨rfl, d, hw2⟩
            have hown2 := owns_drewN hown d w2 hw2
            have HW3 := Lib.hid (show Below w.heap.size w w2 by rw [hw2]; exact lo_drewN HW2.out d)
            have HN3 := Lib.hid (show NumC w2 w.heap.size n (numH S F h (2 * k + (e + 1))) by rw [hw2]; exact ⟨HNN.out.lt, HNN.out.at_, HNN.out.fz⟩)
            have hs2 : w.heap.size + 1 ≤ w2.heap.size := by rw [hw2]; exact HZ2.out
            have hag : ∀ g, u8.ownBlock = some g → w.heap.size + 1 ≤ g ∧ g < w2.heap.size := fun g hg => hown2.lt g hg
            clear hown hw2 CL HW2 HNN HN2 cn HZ2 hix hix2 hgx
            go_wp2_with (at_builtin; refine wpList_append_own _ rfl _ _ 38 rfl (w.heap.size + 1) 3 i0 (.int .i64 0) 1 8 Try.underlying38 hi hz0 hz1 hz2 rfl (by decide) _ _ _ rfl (hown2.alloc _) ⟨w2.heap.size, 0, none⟩ 1 1 [.int .i64 y] rfl rfl (cell_one_new _ _ _) (fun x hx => by simp at hx; subst hx; rfl) (by unfold maxLen; omega) (by omega) (by simp; omega) ?_; intro v' w3 hown' hgrow3 hnil3)
            have HON := Lib.hid (show OwnI w3 (w.heap.size + 1) v' ((endT S (2 * k + (e + 1))).map (outH S F h)) by rw [HTT.out]; exact ownI_snoc hown' HL.out)
            have HLN := Lib.hid (show Below w.heap.size w w3 from (HW3.out.alloc (by omega) _).grown hgrow3 (by simp; omega) (fun j hj => by have := (hag j hj).1; omega))
            have hs3 : w2.heap.size + 1 ≤ w3.heap.size := by have := hgrow3.size; simpa using this
            have HN4 := Lib.hid (show NumC w3 w.heap.size n (numH S F h (2 * k + (e + 1))) from (HN3.out.keep (w' := w2.alloc (.cells #[.int .i64 y] 3)) (by simp) (((Below.refl w2.heap.size w2).alloc (Nat.le_refl _) _).block _ HN3.out.lt)).keep hgrow3.size (hgrow3.block _ (by have := HN3.out.lt; simp; omega) (fun hh => by have := (hag _ hh.symm).1; omega)))
            have HZ4 := Lib.hid (show w.heap.size + 1 ≤ w3.heap.size by omega)
            clear hown' hgrow3 hnil3 hown2 hag hs3
            go_wp2
            go_roundw
            case rel => exact ⟨e + 1, by omega, by go_num, HON, HN4, HLN, HZ4⟩
            case measure => simp [intOf]; omega
          · have hb0 := HSO.out h0
            have HNE := Lib.hid (show endT S (2 * k + (e + 1)) = endT S (2 * k + e) by rw [show 2 * k + (e + 1) = 2 * k + e + 1 by omega]; exact endT_no h0)
            have hqn := HD.out (2 * k + e) (by omega) h0
            obtain ⟨q, hq⟩ : ∃ q, S.be (2 * k + e) = q := ⟨_, rfl⟩
            have cnum := (HRx.out.rods.rod q (by omega) (by omega)).num
            have hbq := (HRx.out.rods.rod q (by omega) (by omega)).lt
            rw [ptrR_some _ h0] at hix hix2
            rw [hq] at hix hix2 hb0 hqn
            have HN5 := Lib.hid ((HN2.out.set hqn y).congr (f' := numH S F h (2 * k + (e + 1))) (fun j _ => by rw [show 2 * k + (e + 1) = 2 * k + e + 1 by omega, hb0 j]))
            have cq := HN2.out.at_ q hqn
            have fq := HN2.out.fz q
            have hqn' : (q : Int) < (n : Int) := by omega
            clear h0 hq hb0 HSO HNO HRx
            go_wp2_with fail
            refine CL.out.mono ?_
            rintro q1 w2 ⟨rfl, d, hw2⟩
            have HW3 := Lib.hid (show Below w.heap.size w (w2.setCell ⟨w.heap.size, q, none⟩ (.int .i64 y)) by rw [hw2]; exact (lo_drewN HW2.out d).setCell (p := ⟨w.heap.size, q, none⟩) (Nat.le_refl _) _)
            have HN6 := Lib.hid (show NumC (w2.setCell ⟨w.heap.size, q, none⟩ (.int .i64 y)) w.heap.size n (numH S F h (2 * k + (e + 1))) by rw [hw2]; exact ⟨HN5.out.lt, HN5.out.at_, HN5.out.fz⟩)
            have HO6 := Lib.hid (show OwnI (w2.setCell ⟨w.heap.size, q, none⟩ (.int .i64 y)) (w.heap.size + 1) u8 ((endT S (2 * k + e)).map (outH S F h)) by
              have := owns_set (owns_drewN HO2.out d w2 hw2) w.heap.size q (.int .i64 y) (Nat.lt_succ_self _)
              exact this)
            have HZ6 := Lib.hid (show w.heap.size + 1 ≤ (w2.setCell ⟨w.heap.size, q, none⟩ (.int .i64 y)).heap.size by rw [hw2]; have := HZ2.out; simpa using this)
            have cq2 : w2.cell? ⟨w.heap.size, q, none⟩ = some (.int .i64 (numH S F h (2 * k + e) q)) := by rw [hw2]; exact cq
            have fq2 : w2.frozen? ⟨w.heap.size, q, none⟩ = false := by rw [hw2]; exact fq
            have cnum2 : w2.cell? ⟨b q, 0, none⟩ = some (.int .i64 (q : Int)) := by rw [hw2]; exact cnum
            clear hw2 CL HW2 HN5 HN2 cn cq fq cnum HO2 HZ2 hix hix2 hgx hbq
            go_wp2
            go_roundw
            case rel => exact ⟨e + 1, by omega, by go_num, by rw [HNE.out]; exact HO6, HN6, HW3, HZ6⟩
            case measure => simp [intOf]; omega
        · obtain rfl : e = 2 := by omega
          go_wp2
          go_roundw
          case rel => exact ⟨k + 1, by omega, by go_num, by rw [show 2 * (k + 1) = 2 * k + 2 by omega]; exact HO2, by rw [show 2 * (k + 1) = 2 * k + 2 by omega]; exact HN2, HW2, HZ2⟩
          case measure => simp [intOf]; omega
    · obtain rfl : k = n := by omega
      have hge : ¬ (k : Int) < (k : Int) := by omega
      go_wp2
      go_ret
      exact ⟨_, rfl, ⟨HO.out.1, HO.out.2.imp id (fun ⟨g', cap, cur, a1, a2, a3⟩ => ⟨g', cap, cur, a1, by omega, a3⟩)⟩, HW.out⟩
end Go.Proofs.Ythncgcdnljoakaa
