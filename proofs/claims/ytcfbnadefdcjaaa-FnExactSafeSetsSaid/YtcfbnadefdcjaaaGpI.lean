/- The contracts of the program's groups of loads. -/
import Derived.Test.YtcfbnadefdcjaaaGpD
import Derived.Test.YtcfbnadefdcjaaaSw1
import Derived.Test.YtcfbnadefdcjaaaGp
import Derived.Test.YtcfbnadefdcjaaaAsc1
import Derived.Test.YtcfbnadefdcjaaaTabD
import Derived.Test.YtcfbnadefdcjaaaImpl2
import Derived.Test.YtcfbnadefdcjaaaLoadTo
import Derived.Test.YtcfbnadefdcjaaaLoadOwn
namespace Go.Proofs.Ytcfbnadefdcjaaa
open Go.RowKit
set_option maxRecDepth 100000 in
set_option maxHeartbeats 1600000 in
theorem chosenL_any (v u : Value) (row : List (Int × Int)) (xs : List Int) (w : World) (hr : LoadRow w v row) (hu : IntRow w u xs) (hx : ∀ x ∈ xs, 0 ≤ x ∧ x < row.length) (hn : row.length ≤ 100) (h8 : xs.length ≤ 100) :
    Calls Try.prog 97 #[v, u] w fun e w' => ∃ v', e = .returned v' ∧ LoadRow w' v' (pickL row xs) ∧ Below w.heap.size w w' := by
  have HM := make_loads xs.length (by omega)
  have PL := Lib.hid (pickL_len row xs)
  obtain ⟨a, c, rfl, hr⟩ := hr
  obtain ⟨au, cu, rfl, hu⟩ := hu
  go_enter Try.func97, Try.ntmps97
  go_wp2
  go_loopw [13] (fun i wr => ∃ k : Nat, k ≤ xs.length ∧ i = .int .i64 k ∧ Hid (∀ j, j < k → wr.cell? ⟨w.heap.size, j * 2, none⟩ = some (.int .i64 ((pickL row xs).getD j (0, 0)).1) ∧ wr.cell? ⟨w.heap.size, j * 2 + 1, none⟩ = some (.int .i64 ((pickL row xs).getD j (0, 0)).2)) ∧ Hid (∀ j, k * 2 ≤ j → j < xs.length * 2 → wr.cell? ⟨w.heap.size, j, none⟩ = some (.int .i64 0)) ∧ Hid (∀ j, wr.frozen? ⟨w.heap.size, j, none⟩ = false) ∧ Below w.heap.size w wr ∧ w.heap.size + 1 ≤ wr.heap.size) (fun i _ => xs.length - (intOf i).toNat)
  case atStart => exact ⟨0, Nat.zero_le _, rfl, Lib.hid (fun j h => by omega), Lib.hid (fun j _ h => by rw [World.cell?_alloc_at _ _ _ _ rfl]; exact made_zero _ _ h), Lib.hid (fun j => World.frozen?_alloc_at _ _ _ _ rfl), (Below.refl _ _).alloc (Nat.le_refl _) _, by simp⟩
  case round =>
    obtain ⟨k, hk, rfl, H1, H2, H3, hb, hs1⟩ := hrel
    clear HM
    by_cases hlt : k < xs.length
    · rcases hu with h | ⟨g, off, rfl, hg, hc⟩
      · subst h; simp at hlt
      have hxm := hx (xs.getD k 0) (by simp only [List.getD, List.getElem?_eq_getElem hlt, Option.getD_some]; exact List.getElem_mem hlt)
      have h1 := hc k hlt
      rw [← hb.cell (p := ⟨g, off + k, none⟩) hg] at h1
      have hlt' : (k : Int) < (xs.length : Int) := by omega
      have PT := pickL_at row xs k hlt
      generalize xs.getD k 0 = x at h1 hxm PT
      obtain ⟨m, rfl⟩ : ∃ m : Nat, x = (m : Int) := ⟨x.toNat, by omega⟩
      rw [Int.toNat_natCast] at PT
      have hm : m < row.length := by omega
      have hm' : (m : Int) < (row.length : Int) := hxm.2
      rcases hr with h | ⟨g2, off2, rfl, hg2, hc2⟩
      · subst h; simp at hm
      obtain ⟨h2, h3⟩ := hc2 m hm
      rw [← hb.cell (p := ⟨g2, off2 + m * 2, none⟩) hg2] at h2
      rw [← hb.cell (p := ⟨g2, off2 + m * 2 + 1, none⟩) hg2] at h3
      rw [← PT] at h2 h3
      obtain ⟨y, hy⟩ : ∃ y, (pickL row xs).getD k (0, 0) = y := ⟨_, rfl⟩
      rw [hy] at h2 h3
      have HX := Lib.hid hy
      obtain ⟨p, q⟩ := y
      simp only at h2 h3
      have z1 := H2.out (k * 2) (Nat.le_refl _) (by omega)
      have z2 := H2.out (k * 2 + 1) (by omega) (by omega)
      have f1 := H3.out (k * 2)
      have f2 := H3.out (k * 2 + 1)
      have TS := Lib.hid (two_set wr w.heap.size (k * 2) (.int .i64 p) (.int .i64 q) z1 z2)
      have HB := Lib.hid hb
      clear hc hc2 PT hy hb hxm
      go_wp2
      go_roundw
      case rel =>
        obtain ⟨t1, t2, t3⟩ := TS.out
        refine ⟨k + 1, by omega, by go_num, Lib.hid (fun j hj => ?_), Lib.hid (fun j hj hjn => ?_), Lib.hid (fun j => ?_), ?_, by simp; omega⟩
        · by_cases e : j = k
          · subst e
            rw [HX.out]
            exact ⟨t1, t2⟩
          · rw [t3 _ (by omega) (by omega), t3 _ (by omega) (by omega)]
            exact H1.out j (by omega)
        · rw [t3 _ (by omega) (by omega)]
          exact H2.out j (by omega) hjn
        · rw [World.frozen?_setCell, World.frozen?_setCell]
          exact H3.out j
        · exact (HB.out.setCell (p := ⟨w.heap.size, k * 2, none⟩) (Nat.le_refl _) _).setCell (p := ⟨w.heap.size, k * 2 + 1, none⟩) (Nat.le_refl _) _
      case measure => simp [intOf]; omega
    · obtain rfl : k = xs.length := by omega
      have hge : ¬ (xs.length : Int) < (xs.length : Int) := by omega
      go_wp2
      go_ret
      exact ⟨_, rfl, ⟨_, _, by rw [PL.out]; rfl, .inr ⟨w.heap.size, 0, rfl, hs1, fun j hj => by rw [PL.out] at hj; rw [Nat.zero_add]; exact H1.out j hj⟩⟩, hb⟩
/-- A table of lists of its own, opened. -/
theorem OwnTabD.parts {w : World} {B : Nat} {v : Value} {xss : List (List Int)} {us : List Value} (h : OwnTabD w B v xss us) : ∃ (g c : Nat) (u : Nat → Value) (r : Nat → Nat), v = .slice (some ⟨g, 0, none⟩) xss.length c ∧ B ≤ g ∧ g < w.heap.size ∧ xss.length ≤ c ∧ c ≤ maxLen ∧ (∀ j, w.frozen? ⟨g, j, none⟩ = false) ∧
    (∀ j, j < xss.length → w.cell? ⟨g, j, none⟩ = some (u j) ∧ (∃ a l d, u j = .slice a l d) ∧ MineI w (r j) (r j + 1) (u j) (xss.getD j [])) ∧ ApartT B w.heap.size g xss.length r := by
  obtain ⟨⟨hl, hown, hnn, hr⟩, hp⟩ := h
  have hown' := hown
  rcases hown.2 with ⟨rfl, h0⟩ | ⟨g, cap, cur, rfl, hb0, hb, h1, h2, _⟩
  · exact absurd rfl hnn
  refine ⟨g, cap, fun j => us.getD j (.slice none 0 0), fun j => ((us.getD j (.slice none 0 0)).ownBlock).getD 0, rfl, hb0, (Array.getElem?_eq_some_iff.1 hb).1, h1, h2, fun j => hown'.frozenAt j, fun j hj => ?_, fun j hj => ?_⟩
  · obtain ⟨u, hu, q, c, e, q0, q1, q2, q3, q4, q5⟩ := hr j hj
    have eu : us.getD j (.slice none 0 0) = u := by rw [List.getD, hu]; rfl
    refine ⟨by rw [hown'.cellAt j (by omega)]; exact hu.trans (congrArg some eu.symm), ⟨_, _, _, eu.trans e⟩, ?_⟩
    simp only [eu]
    rw [e]
    exact .inr ⟨q, c, rfl, Nat.le_refl _, Nat.lt_succ_self _, q1, q3, q4⟩
  · obtain ⟨u, hu, q, c, e, q0, q1, q2, _⟩ := hr j hj
    have eu : us.getD j (.slice none 0 0) = u := by rw [List.getD, hu]; rfl
    have er : ((us.getD j (.slice none 0 0)).ownBlock).getD 0 = q := by rw [eu, e]; rfl
    refine ⟨by simp only [er]; exact q0, by simp only [er]; exact q1, ?_, fun i hi hij => ?_⟩
    · simp only [er]
      intro h
      apply q2
      rw [h]
      rfl
    · obtain ⟨u2, hu2, q', c', e', _⟩ := hr i hi
      have eu2 : us.getD i (.slice none 0 0) = u2 := by rw [List.getD, hu2]; rfl
      have er2 : ((us.getD i (.slice none 0 0)).ownBlock).getD 0 = q' := by rw [eu2, e']; rfl
      simp only [er, er2]
      intro hqq
      have hli : i < us.length := by omega
      have hlj : j < us.length := by omega
      rw [List.pairwise_iff_getElem] at hp
      have g1 : us[i] = u2 := by rw [List.getElem?_eq_getElem hli] at hu2; exact Option.some.inj hu2
      have g2 : us[j] = u := by rw [List.getElem?_eq_getElem hlj] at hu; exact Option.some.inj hu
      have ob1 : u2.ownBlock = some q' := by rw [e']; rfl
      have ob2 : u.ownBlock = some q := by rw [e]; rfl
      rcases Nat.lt_or_gt_of_ne hij with h | h
      · have := hp i j hli hlj h
        rw [g1, g2, ob1, ob2, hqq] at this
        exact this rfl
      · have := hp j i hlj hli h
        rw [g1, g2, ob1, ob2, hqq] at this
        exact this rfl
theorem filter_kp (q : List Int → Bool) (xss : List (List Int)) : xss.filter q = (kpF (fun t => !q (xss.getD t [])) xss.length).map (fun t => xss.getD t []) := by
  have e : xss = (List.range xss.length).map (fun t => xss.getD t []) := by
    apply List.ext_getElem
    · simp
    · intro i h1 h2
      simp [List.getD, List.getElem?_eq_getElem h1]
  conv => lhs; rw [e, List.filter_map]
  unfold kpF
  congr 1
  apply List.filter_congr
  intro x _
  simp
theorem kp_rise (f : Nat → Bool) (n : Nat) : (kpF f n).Pairwise (· < ·) := List.Pairwise.filter _ List.pairwise_lt_range
theorem kp_at {f : Nat → Bool} {n t : Nat} (h : t < (kpF f n).length) : (kpF f n).getD t 0 < n := by
  rw [List.getD, List.getElem?_eq_getElem h, Option.getD_some]
  exact kp_mem (List.getElem_mem h)
theorem kp_ne {f : Nat → Bool} {n i j : Nat} (hi : i < (kpF f n).length) (hj : j < (kpF f n).length) (h : i ≠ j) : (kpF f n).getD i 0 ≠ (kpF f n).getD j 0 := by
  have hp := kp_rise f n
  rw [List.pairwise_iff_getElem] at hp
  rw [List.getD, List.getElem?_eq_getElem hi, Option.getD_some, List.getD, List.getElem?_eq_getElem hj, Option.getD_some]
  rcases Nat.lt_or_gt_of_ne h with e | e
  · have := hp i j hi hj e; omega
  · have := hp j i hj hi e; omega
end Go.Proofs.Ytcfbnadefdcjaaa
