/- The program's CoinsWith. -/
import Derived.Test.YtghpacgbkknhbaaWith1
import Derived.Test.YtghpacgbkknhbaaPairLaw
namespace Go.Proofs.Ytghpacgbkknhbaa
open Go.RowKit Go.Maps
def okW (n : Int) (xss : List (List Int)) (os : List Int) : Prop := (coinsB n && planB n xss) = true ∧ os.length = xss.length ∧ SignsF os
noncomputable def withB (n : Int) (xss : List (List Int)) (os : List Int) : Bool := propB (okW n xss os)
noncomputable def withL (n : Int) (xss : List (List Int)) (os : List Int) : List (Int × Int) := if withB n xss os = true then ((doneP [1, -1] n.toNat).reverse).filter (fun p => propB (outP xss p = os)) else []
theorem withL_len (n : Int) (xss : List (List Int)) (os : List Int) : (withL n xss os).length ≤ 2000000 := by
  unfold withL
  split
  · rename_i h
    have h2 := ((propB_iff _).1 h).1
    rw [Bool.and_eq_true] at h2
    have h3 := h2.1
    unfold coinsB at h3
    simp at h3
    have h4 := List.length_filter_le (fun p => propB (outP xss p = os)) (doneP [1, -1] n.toNat).reverse
    have h5 : (doneP [1, -1] n.toNat).reverse.length = n.toNat * 2 := by rw [List.length_reverse, doneP_len]; rfl
    omega
  · simp
theorem mineP_own {w : World} {B B' : Nat} {e : TypeId} {v : Value} {n : Nat} {xs : List (Int × Int)} (h : w.ownsRow B' e 2 v n (cellsF xs)) (hB : B ≤ B') (hn : n = xs.length) : MineL w B w.heap.size v xs := by
  subst hn
  have h' := h
  rcases h.2 with ⟨rfl, h0⟩ | ⟨g, cap, cur, rfl, hb, hg, _⟩
  · exact .inl ⟨List.length_eq_zero_iff.1 h0, none, 0, rfl⟩
  · exact .inr ⟨g, cap, rfl, Nat.le_trans hB hb, (Array.getElem?_eq_some_iff.1 hg).1, Nat.le_refl _, fun j hj => by
      have hc := cellsF_at xs j hj
      rw [h'.cellAt (j * 2) (by omega), h'.cellAt (j * 2 + 1) (by omega)]
      exact hc, fun j => h'.frozenAt j⟩
theorem sign_code {os : List Int} (h : SignsF os) : ∀ j, -1 ≤ os.getD j 0 ∧ os.getD j 0 ≤ 1 := by
  intro j
  by_cases hj : j < os.length
  · exact h j hj
  · have : os.getD j 0 = 0 := by simp [List.getD, Nat.not_lt.1 hj]
    omega
theorem key_os {n : Int} {xss : List (List Int)} {os : List Int} (hp : PlanF n xss) (hl : os.length = xss.length) (hs : SignsF os) {c : Nat} (hc : (c : Int) < n) {y : Int} (hy : y = 1 ∨ y = -1) : klF (cdF xss c y) = klF (fun j => os.getD j 0) ↔ outF xss c y = os := by
  constructor
  · intro h
    have h2 := klF_inj (cdF_small hp hc hy) (sign_code hs) h
    refine same_list (by rw [outF_len, hl]) (fun j hj => ?_)
    rw [outF_len] at hj
    rw [outF_at xss c y j hj]
    exact h2 j (by have := hp.short; omega)
  · intro h
    have : cdF xss c y = fun j => os.getD j 0 := by
      funext j
      by_cases hj : j < xss.length
      · rw [← outF_at xss c y j hj, h]
      · have : os.getD j 0 = 0 := by simp [List.getD, Nat.not_lt.1 (show ¬ j < os.length by omega)]
        rw [this]
        exact if_neg hj
    rw [this]
theorem sel_with (N : Nat) (xss : List (List Int)) (os : List Int) (h : okW (N : Int) xss os) : (selF (keyP xss) (klF (fun j => os.getD j 0)) (doneP [1, -1] N)).reverse = withL (N : Int) xss os := by
  have hp := (propB_iff _).1 ((Bool.and_eq_true _ _).mp h.1).2
  rw [withL, show withB (N : Int) xss os = true from propB_yes h, if_pos rfl, selF, Int.toNat_natCast, List.filter_reverse]
  congr 1
  refine List.filter_congr (fun p hm => ?_)
  obtain ⟨c, hc, e1, m1⟩ := doneP_mem _ _ _ hm
  have hz : p.2 = 1 ∨ p.2 = -1 := by simpa using m1
  have hk := key_os hp h.2.1 h.2.2 (show ((c : Nat) : Int) < (N : Int) by omega) hz
  unfold keyP outP
  rw [e1, Int.toNat_natCast]
  by_cases e : outF xss c p.2 = os
  · rw [propB_yes e, propB_yes (hk.2 e)]
  · rw [propB_no e, propB_no (fun h => e (hk.1 h))]
set_option maxRecDepth 100000 in
set_option maxHeartbeats 3200000 in
theorem coinsWith_yes (N : Nat) (v u : Value) (xss : List (List Int)) (os : List Int) (w : World) (hr : TabRow w v xss) (hb : SmallT xss) (hu : IntRow w u os) (h : okW (N : Int) xss os) :
    Calls Try.prog 48 #[.int .i64 (N : Int), v, u] w fun e w' => ∃ u0, e = .returned (.tuple #[u0, .bool true]) ∧ MineL w' w.heap.size w'.heap.size u0 (withL (N : Int) xss os) ∧ Below w.heap.size w w' := by
  have hg' := (Bool.and_eq_true _ _).mp h.1
  have hp := (propB_iff _).1 hg'.2
  have h5 := hp.short
  have BY := Lib.hid (fun (w1 : World) (z : Value) (l : Below w.heap.size w w1) (hz : IntRow w1 z [1, -1]) => byOutcome_yes N v z xss [1, -1] w1 (hr.lo l) hb hg'.1 hp hz (by simp) bothZ)
  have U1 := Lib.hid (rowLit w [1, -1])
  have LA := Lib.hid ((Below.refl w.heap.size w).alloc (Nat.le_refl _) (.cells #[.int .i64 1, .int .i64 (-1)] 3))
  have AS := Lib.hid (fun (w1 : World) (l : Below w.heap.size w w1) => areSigns_any u os w1 (hu.lo l) (by have := h.2.1; omega))
  rw [show signsB os = true from propB_yes h.2.2] at AS
  have CO := Lib.hid (fun (w1 : World) (l : Below w.heap.size w w1) => codeOf_any u os w1 (hu.lo l) (by have := h.2.1; omega))
  have KC := Lib.hid (keyCode (fun j => os.getD j 0) (sign_code h.2.2))
  have SW := Lib.hid (sel_with N xss os h)
  have hzero := fun u => zeroPairs u
  obtain ⟨a, c, rfl, _⟩ := hr
  obtain ⟨a2, c2, rfl, _⟩ := hu
  have hln : ((xss.length : Int) != (xss.length : Int)) = false := by simp
  rw [h.2.1] at AS CO ⊢
  obtain ⟨f, hf⟩ : ∃ f : Nat → Int, (fun j => os.getD j 0) = f := ⟨_, rfl⟩
  rw [hf] at CO KC SW
  clear h hg' hp hb hf
  go_enter Try.func48, Try.ntmps48
  go_wp2_with fail
  refine (BY.out _ _ LA.out U1.out).mono ?_
  rintro e w2 ⟨b, rfl, hc, hbb, l2⟩
  have L2 := Lib.hid (LA.out.trans (l2.mono (by simp)))
  have HC := Lib.hid hc
  have hbb2 : w.heap.size ≤ b := by have : w.heap.size ≤ (w.alloc (.cells #[.int .i64 1, .int .i64 (-1)] 3)).heap.size := by simp
                                    omega
  clear hc hbb l2 BY U1 LA
  go_wp2_with fail
  refine (AS.out _ L2.out).mono ?_
  rintro e w3 ⟨rfl, l3⟩
  have L3 := Lib.hid (L2.out.trans (l3.mono L2.out.size))
  have HC3 := Lib.hid (HC.out.lo l3)
  clear l3 HC L2 AS
  go_wp2_with fail
  refine (CO.out _ L3.out).mono ?_
  rintro e w4 ⟨rfl, l4⟩
  have L4 := Lib.hid (L3.out.trans (l4.mono L3.out.size))
  obtain ⟨D, V, hown, _, _, hat, hrow, _⟩ := (HC3.out.lo l4).ex
  obtain ⟨v0, ps, hlook, hheld⟩ := hown.lookup (Keyed.of_law lawCode) Try.underlying112 (hzero w4) (show heldV (.slice none 0 0) = some (.held (.slice none 0 0), []) from rfl) KC.out
  rw [hat (klF f)] at hheld
  cases hheld
  have hr := hrow (klF f)
  have HM := Lib.hid (show MineL w4 w.heap.size w4.heap.size (V (klF f)) (withL (N : Int) xss os) by
    rw [← SW.out]
    exact mineP_own hr (by omega) (by rw [List.length_reverse]))
  generalize V (klF f) = vv at hlook HM
  unfold codeV at hlook ⊢
  clear hr hrow hat hown l4 HC3 L3 CO KC SW hzero
  go_wp2
  try rw [Exit.noGoto_ret]
  go_ret2
  exact ⟨_, rfl, HM.out, L4.out⟩
end Go.Proofs.Ytghpacgbkknhbaa
