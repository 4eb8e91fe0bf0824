/- The contracts of the program's groups of loads. -/
import Derived.Test.YtgjchkcjlmklbaaGpD
import Derived.Test.YtgjchkcjlmklbaaSw1
import Derived.Test.YtgjchkcjlmklbaaGp
import Derived.Test.YtgjchkcjlmklbaaAsc1
import Derived.Test.YtgjchkcjlmklbaaTabD
import Derived.Test.YtgjchkcjlmklbaaImpl2
import Derived.Test.YtgjchkcjlmklbaaLoadTo
import Derived.Test.YtgjchkcjlmklbaaLoadOwn
namespace Go.Proofs.Ytgjchkcjlmklbaa
open Go.RowKit
set_option maxRecDepth 100000 in
set_option maxHeartbeats 1600000 in
theorem chosenL_any (v u : Value) (row : List (Int × Int)) (xs : List Int) (w : World) (hr : LoadRow w v row) (hu : IntRow w u xs) (hx : ∀ x ∈ xs, 0 ≤ x ∧ x < row.length) (hn : row.length ≤ 100) (h8 : xs.length ≤ 100) :
    Calls Try.prog 205 #[v, u] w fun e w' => ∃ v', e = .returned v' ∧ LoadRow w' v' (pickL row xs) ∧ Below w.heap.size w w' := by
  have HM := make_loads xs.length (by omega)
  have PL := Lib.hid (pickL_len row xs)
  obtain ⟨a, c, rfl, hr⟩ := hr
  obtain ⟨au, cu, rfl, hu⟩ := hu
  go_enter Try.func205, Try.ntmps205
  go_wp2
  go_loopw [13] (fun i wr => ∃ k : Nat, k ≤ xs.length ∧ i = .int .i64 k ∧ Hid (∀ j, j < k → wr.cell? ⟨w.heap.size, j * 2, none⟩ = some (.int .i64 ((pickL row xs).getD j (0, 0)).1) ∧ wr.cell? ⟨w.heap.size, j * 2 + 1, none⟩ = some (.int .i64 ((pickL row xs).getD j (0, 0)).2)) ∧ Hid (∀ j, k * 2 ≤ j → j < xs.length * 2 → wr.cell? ⟨w.heap.size, j, none⟩ = some (.int .i64 0)) ∧ Hid (∀ j, wr.frozen? ⟨w.heap.size, j, none⟩ = false) ∧ Below w.heap.size w wr ∧ w.heap.size + 1 ≤ wr.heap.size) (fun i _ => xs.length - (intOf i).toNat)
  case atStart => exact ⟨0, Nat.zero_le _, rfl, Lib.hid (fun j h => by omega), Lib.hid (fun j _ h => by rw [World.cell?_alloc_at _ _ _ _ rfl]; exact made_zero _ _ h), Lib.hid (fun j => World.frozen?_alloc_at _ _ _ _ rfl), (Below.refl _ _).alloc (Nat.le_refl _) _, by simp⟩
  case round =>
    obtain ⟨k, hk, rfl, H1, H2, H3, hb, hs1⟩ := hrel
    clear HM
    by_cases hlt : k < xs.length
    · rcases hu with h | ⟨g, off, rfl, hg, hc⟩
      · subst h; simp at hlt
      have hxm := hx (xs.getD k 0) (by simp only [List.getD, List.getElem?_eq_getElem hlt, Option.getD_some]; exact List.getElem_mem hlt)
      have h1 := hc k hlt
      rw [← hb.cell (p := ⟨g, off + k, none⟩) hg] at h1
      have hlt' : (k : Int) < (xs.length : Int) := by omega
      have PT := pickL_at row xs k hlt
      generalize xs.getD k 0 = x at h1 hxm PT
      obtain ⟨m, rfl⟩ : ∃ m : Nat, x = (m : Int) := ⟨x.toNat, by omega⟩
      rw [Int.toNat_natCast] at PT
      have hm : m < row.length := by omega
      have hm' : (m : Int) < (row.length : Int) := hxm.2
      rcases hr with h | ⟨g2, off2, rfl, hg2, hc2⟩
      · subst h; simp at hm
      obtain ⟨h2, h3⟩ := hc2 m hm
      rw [← hb.cell (p := ⟨g2, off2 + m * 2, none⟩) hg2] at h2
      rw [← hb.cell (p := ⟨g2, off2 + m * 2 + 1, none⟩) hg2] at h3
      rw [← PT] at h2 h3
      obtain ⟨y, hy⟩ : ∃ y, (pickL row xs).getD k (0, 0) = y := ⟨_, rfl⟩
      rw [hy] at h2 h3
      have HX := Lib.hid hy
      obtain ⟨p, q⟩ := y
      simp only at h2 h3
      have z1 := H2.out (k * 2) (Nat.le_refl _) (by omega)
      have z2 := H2.out (k * 2 + 1) (by omega) (by omega)
      have f1 := H3.out (k * 2)
      have f2 := H3.out (k * 2 + 1)
      have TS := Lib.hid (two_set wr w.heap.size (k * 2) (.int .i64 p) (.int .i64 q) z1 z2)
      have HB := Lib.hid hb
      clear hc hc2 PT hy hb hxm
      go_wp2
      go_roundw
      case rel =>
        obtain ⟨t1, t2, t3⟩ := TS.out
        refine ⟨k + 1, by omega, by go_num, Lib.hid (fun j hj => ?_), Lib.hid (fun j hj hjn => ?_), Lib.hid (fun j => ?_), ?_, by simp; omega⟩
        · by_cases e : j = k
          · subst e
            rw [HX.out]
            exact ⟨t1, t2⟩
          · rw [t3 _ (by omega) (by omega), t3 _ (by omega) (by omega)]
            exact H1.out j (by omega)
        · rw [t3 _ (by omega) (by omega)]
          exact H2.out j (by omega) hjn
        · rw [World.frozen?_setCell, World.frozen?_setCell]
          exact H3.out j
        · exact (HB.out.setCell (p := ⟨w.heap.size, k * 2, none⟩) (Nat.le_refl _) _).setCell (p := ⟨w.heap.size, k * 2 + 1, none⟩) (Nat.le_refl _) _
      case measure => simp [intOf]; omega
    · obtain rfl : k = xs.length := by omega
      have hge : ¬ (xs.length : Int) < (xs.length : Int) := by omega
      go_wp2
      go_ret
      exact ⟨_, rfl, ⟨_, _, by rw [PL.out]; rfl, .inr ⟨w.heap.size, 0, rfl, hs1, fun j hj => by rw [PL.out] at hj; rw [Nat.zero_add]; exact H1.out j hj⟩⟩, hb⟩
set_option maxRecDepth 100000 in
set_option maxHeartbeats 1600000 in
theorem zeroClo_any (v u : Value) (row : List (Int × Int)) (xs : List Int) (m : Nat) (p : Int) (B1 B2 : Nat) (w : World) (hr : LoadRow w v row) (hu : IntRow w u xs) (hz : RowF row) (hx : xs ∈ levF row.length m) (p0 : 0 ≤ p) (p1 : p ≤ 60) (c0 : w.cell? ⟨B1, 0, none⟩ = some v) (c1 : w.cell? ⟨B2, 0, none⟩ = some (.int .i64 p)) (hb1 : B1 < w.heap.size) (hb2 : B2 < w.heap.size) :
    Calls Try.prog 204 #[u, .pointer (some ⟨B1, 0, none⟩), .pointer (some ⟨B2, 0, none⟩)] w fun e w' => e = .returned (.bool (!zeroG row p xs)) ∧ Below w.heap.size w w' := by
  have hl := lev_len _ _ xs hx
  have hm := lev_short2 hx
  have h12 := hz.short
  have CH := Lib.hid (fun w1 (l : Below w.heap.size w w1) => chosenL_any v u row xs w1 (hr.lo l) (hu.lo l) (fun x h => lev_in _ _ xs hx x h) (by omega) (by omega))
  have MO := Lib.hid (fun w1 v' (h : LoadRow w1 v' (pickL row xs)) => momentAbout_yes v' (pickL row xs) p w1 h (pickL_row hz hx) p0 p1)
  have HZ := Lib.hid (show (!zeroG row p xs) = (momF p (pickL row xs) != 0) by unfold zeroG; rw [Bool.eq_iff_iff]; simp)
  rw [HZ.out]
  generalize momF p (pickL row xs) = M at *
  obtain ⟨a, c, rfl, _⟩ := hr
  clear hl hm h12 hz hx HZ hu
  go_enter Try.func204, Try.ntmps204
  go_wp2_with fail
  go_region_held3 (fun w' => w'.cell? ⟨B1, 0, none⟩ = some (.slice a row.length c) ∧ w'.cell? ⟨B2, 0, none⟩ = some (.int .i64 p))
    (first
      | exact ⟨(hl.cell (p := ⟨B1, 0, none⟩) hb1).trans c0, (hl.cell (p := ⟨B2, 0, none⟩) hb2).trans c1⟩
      | exact ⟨(hl6.cell (p := ⟨B1, 0, none⟩) (Nat.lt_of_lt_of_le hb1 hl.size)).trans ((hl.cell (p := ⟨B1, 0, none⟩) hb1).trans c0), (hl6.cell (p := ⟨B2, 0, none⟩) (Nat.lt_of_lt_of_le hb2 hl.size)).trans ((hl.cell (p := ⟨B2, 0, none⟩) hb2).trans c1)⟩
      | go_keep)
    (first
      | (go_at_call 205; refine (CH.out _ (drw1 w)).mono ?_; rintro e v5 ⟨t5, rfl, o5, hl⟩)
      | (go_at_call 82; refine (MO.out _ t5 o5).mono ?_; rintro e v6 ⟨rfl, hl6⟩))
  have L6 := Lib.hid (lo_on (lo_on (drw1 w) hl) hl6)
  clear hl hl6 CH MO
  go_wp2
  go_ret
  exact ⟨rfl, L6.out⟩
/-- A table of lists of its own, opened. -/
theorem OwnTabD.parts {w : World} {B : Nat} {v : Value} {xss : List (List Int)} {us : List Value} (h : OwnTabD w B v xss us) : ∃ (g c : Nat) (u : Nat → Value) (r : Nat → Nat), v = .slice (some ⟨g, 0, none⟩) xss.length c ∧ B ≤ g ∧ g < w.heap.size ∧ xss.length ≤ c ∧ c ≤ maxLen ∧ (∀ j, w.frozen? ⟨g, j, none⟩ = false) ∧
    (∀ j, j < xss.length → w.cell? ⟨g, j, none⟩ = some (u j) ∧ (∃ a l d, u j = .slice a l d) ∧ MineI w (r j) (r j + 1) (u j) (xss.getD j [])) ∧ ApartT B w.heap.size g xss.length r := by
  obtain ⟨⟨hl, hown, hnn, hr⟩, hp⟩ := h
  have hown' := hown
  rcases hown.2 with ⟨rfl, h0⟩ | ⟨g, cap, cur, rfl, hb0, hb, h1, h2, _⟩
  · exact absurd rfl hnn
  refine ⟨g, cap, fun j => us.getD j (.slice none 0 0), fun j => ((us.getD j (.slice none 0 0)).ownBlock).getD 0, rfl, hb0, (Array.getElem?_eq_some_iff.1 hb).1, h1, h2, fun j => hown'.frozenAt j, fun j hj => ?_, fun j hj => ?_⟩
  · obtain ⟨u, hu, q, c, e, q0, q1, q2, q3, q4, q5⟩ := hr j hj
    have eu : us.getD j (.slice none 0 0) = u := by rw [List.getD, hu]; rfl
    refine ⟨by rw [hown'.cellAt j (by omega)]; exact hu.trans (congrArg some eu.symm), ⟨_, _, _, eu.trans e⟩, ?_⟩
    simp only [eu]
    rw [e]
    exact .inr ⟨q, c, rfl, Nat.le_refl _, Nat.lt_succ_self _, q1, q3, q4⟩
  · obtain ⟨u, hu, q, c, e, q0, q1, q2, _⟩ := hr j hj
    have eu : us.getD j (.slice none 0 0) = u := by rw [List.getD, hu]; rfl
    have er : ((us.getD j (.slice none 0 0)).ownBlock).getD 0 = q := by rw [eu, e]; rfl
    refine ⟨by simp only [er]; exact q0, by simp only [er]; exact q1, ?_, fun i hi hij => ?_⟩
    · simp only [er]
      intro h
      apply q2
      rw [h]
      rfl
    · obtain ⟨u2, hu2, q', c', e', _⟩ := hr i hi
      have eu2 : us.getD i (.slice none 0 0) = u2 := by rw [List.getD, hu2]; rfl
      have er2 : ((us.getD i (.slice none 0 0)).ownBlock).getD 0 = q' := by rw [eu2, e']; rfl
      simp only [er, er2]
      intro hqq
      have hli : i < us.length := by omega
      have hlj : j < us.length := by omega
      rw [List.pairwise_iff_getElem] at hp
      have g1 : us[i] = u2 := by rw [List.getElem?_eq_getElem hli] at hu2; exact Option.some.inj hu2
      have g2 : us[j] = u := by rw [List.getElem?_eq_getElem hlj] at hu; exact Option.some.inj hu
      have ob1 : u2.ownBlock = some q' := by rw [e']; rfl
      have ob2 : u.ownBlock = some q := by rw [e]; rfl
      rcases Nat.lt_or_gt_of_ne hij with h | h
      · have := hp i j hli hlj h
        rw [g1, g2, ob1, ob2, hqq] at this
        exact this rfl
      · have := hp j i hlj hli h
        rw [g1, g2, ob1, ob2, hqq] at this
        exact this rfl
theorem filter_kp (q : List Int → Bool) (xss : List (List Int)) : xss.filter q = (kpF (fun t => !q (xss.getD t [])) xss.length).map (fun t => xss.getD t []) := by
  have e : xss = (List.range xss.length).map (fun t => xss.getD t []) := by
    apply List.ext_getElem
    · simp
    · intro i h1 h2
      simp [List.getD, List.getElem?_eq_getElem h1]
  conv => lhs; rw [e, List.filter_map]
  unfold kpF
  congr 1
  apply List.filter_congr
  intro x _
  simp
theorem kp_rise (f : Nat → Bool) (n : Nat) : (kpF f n).Pairwise (· < ·) := List.Pairwise.filter _ List.pairwise_lt_range
theorem kp_at {f : Nat → Bool} {n t : Nat} (h : t < (kpF f n).length) : (kpF f n).getD t 0 < n := by
  rw [List.getD, List.getElem?_eq_getElem h, Option.getD_some]
  exact kp_mem (List.getElem_mem h)
theorem kp_ne {f : Nat → Bool} {n i j : Nat} (hi : i < (kpF f n).length) (hj : j < (kpF f n).length) (h : i ≠ j) : (kpF f n).getD i 0 ≠ (kpF f n).getD j 0 := by
  have hp := kp_rise f n
  rw [List.pairwise_iff_getElem] at hp
  rw [List.getD, List.getElem?_eq_getElem hi, Option.getD_some, List.getD, List.getElem?_eq_getElem hj, Option.getD_some]
  rcases Nat.lt_or_gt_of_ne h with e | e
  · have := hp i j hi hj e; omega
  · have := hp j i hj hi e; omega
set_option maxRecDepth 100000 in
set_option maxHeartbeats 3200000 in
theorem zeroGroups_yes (v : Value) (row : List (Int × Int)) (p : Int) (w : World) (hr : LoadRow w v row) (hz : RowF row) (p0 : 0 ≤ p) (p1 : p ≤ 60) :
    Calls Try.prog 136 #[v, .int .i64 p] w fun e w' => ∃ u, e = .returned (.tuple #[u, .bool true]) ∧ MineD w' w.heap.size w'.heap.size u (groupsF row p) ∧ Below w.heap.size w w' := by
  have h12 := hz.short
  obtain ⟨W, hW⟩ : ∃ W, (w.alloc (.cells #[v] 28)).alloc (.cells #[.int .i64 p] 3) = W := ⟨_, rfl⟩
  have hs1 : (w.alloc (.cells #[v] 28)).heap.size = w.heap.size + 1 := by simp
  have LW := Lib.hid (show Below w.heap.size w W by rw [← hW]; exact ((Below.refl _ _).alloc (Nat.le_refl _) _).alloc (by rw [hs1]; omega) _)
  have hWs : W.heap.size = w.heap.size + 2 := by rw [← hW]; simp
  have C0 := Lib.hid (show W.cell? ⟨w.heap.size, 0, none⟩ = some v by
    rw [← hW, (((Below.refl _ _).alloc (Nat.le_refl _) _ : Below (w.alloc (.cells #[v] 28)).heap.size _ _)).cell (p := ⟨w.heap.size, 0, none⟩) (by rw [hs1]; exact Nat.lt_succ_self _), World.cell?_alloc_at _ _ _ _ rfl]; rfl)
  have C1 := Lib.hid (show W.cell? ⟨w.heap.size + 1, 0, none⟩ = some (.int .i64 p) by rw [← hW, ← hs1, World.cell?_alloc_at _ _ _ _ rfl]; rfl)
  have MO := Lib.hid (momentAbout_yes v row p W (hr.lo LW.out) hz p0 p1)
  have AS := Lib.hid (fun w1 => asc_any row.length h12 w1)
  have HD := Lib.hid (fun g n c us f w2 a b d e h i j k => deleteT_any w.heap.size (w.heap.size + 1) g n c us f w2 a b d e h i j k)
  have CLO := Lib.hid (fun u xs m w1 (l : Below w.heap.size w w1) hu hx a b c => zeroClo_any v u row xs m p w.heap.size (w.heap.size + 1) w1 (hr.lo l) hu hz hx p0 p1 a b c)
  have HEV := Lib.hid (every_len h12)
  have HWS := Lib.hid hWs
  have HR := Lib.hid hr
  obtain ⟨a, c, rfl, _⟩ := hr
  have c0 := C0.out
  have c1 := C1.out
  clear hz h12 hs1 hWs
  go_enter Try.func136, Try.ntmps136
  go_wp2_with fail
  clear hW
  refine MO.out.mono ?_
  rintro e w1 ⟨rfl, l1⟩
  have L1 := Lib.hid (lo_on LW.out l1)
  have c2 := C0.out
  rw [← l1.cell (p := ⟨w.heap.size, 0, none⟩) (by rw [HWS.out]; simp)] at c2
  have c3 := C1.out
  rw [← l1.cell (p := ⟨w.heap.size + 1, 0, none⟩) (by rw [HWS.out]; simp)] at c3
  have hw1 : w.heap.size + 2 ≤ w1.heap.size := by rw [← HWS.out]; exact l1.size
  have C2 := Lib.hid c2
  have C3 := Lib.hid c3
  clear l1 MO c0 c1
  go_wp2_with fail
  refine (AS.out _).mono ?_
  rintro e w2 ⟨tv, rfl, ⟨us, ho⟩, l2⟩
  have L2 := Lib.hid (lo_on L1.out l2)
  obtain ⟨g, cc, uf, r, rfl, g0, g1, hnc, hcm, hfz, hel, hap⟩ := ho.parts
  have hb0 : w.heap.size + 2 ≤ w2.heap.size := Nat.le_trans hw1 l2.size
  have hev := HEV.out
  have D := Lib.hid (HD.out g (everyF row.length).length cc uf (fun j => !zeroG row p ((everyF row.length).getD j [])) w2 (by omega) hnc hcm g1 (fun j hj => (hel j hj).1) hfz (fun j hj => (hel j hj).2.1) (fun j hj w3 ho3 => by
    obtain ⟨m, _, hmem⟩ := every_mem hj
    obtain ⟨_, _, hrg, _⟩ := hap j hj
    refine CLO.out (uf j) ((everyF row.length).getD j []) m w3 (L2.out.trans ((ho3.below (Nat.le_of_lt g1)).mono (by omega))) ((hel j hj).2.2.part (ho3.part (Nat.le_refl g) (Nat.lt_succ_self g)) (by omega)).row hmem ?_ ?_ (by have := ho3.size; omega) (by have := ho3.size; omega)
    · rw [ho3.cell (p := ⟨w.heap.size, 0, none⟩) (by simp only; omega) (by simp only; omega), l2.cell (p := ⟨w.heap.size, 0, none⟩) (by simp only; omega)]; exact C2.out
    · rw [ho3.cell (p := ⟨w.heap.size + 1, 0, none⟩) (by simp only; omega) (by simp only; omega), l2.cell (p := ⟨w.heap.size + 1, 0, none⟩) (by simp only; omega)]; exact C3.out))
  have RR := Lib.hid (fun w3 (ho3 : Only g w2 w3) (hcl : ∀ t, t < (kpF (fun j => !zeroG row p ((everyF row.length).getD j [])) (everyF row.length).length).length → w3.cell? ⟨g, t, none⟩ = some (uf ((kpF (fun j => !zeroG row p ((everyF row.length).getD j [])) (everyF row.length).length).getD t 0))) =>
    show MineD w3 w.heap.size w3.heap.size (.slice (some ⟨g, 0, none⟩) (kpF (fun j => !zeroG row p ((everyF row.length).getD j [])) (everyF row.length).length).length cc) (groupsF row p) ∧ Below w.heap.size w w3 from by
      have hk : groupsF row p = (kpF (fun j => !zeroG row p ((everyF row.length).getD j [])) (everyF row.length).length).map (fun t => (everyF row.length).getD t []) := filter_kp (zeroG row p) (everyF row.length)
      rw [hk]
      obtain ⟨K, hK⟩ : ∃ K, kpF (fun j => !zeroG row p ((everyF row.length).getD j [])) (everyF row.length).length = K := ⟨_, rfl⟩
      have hat : ∀ t, t < K.length → K.getD t 0 < (everyF row.length).length := fun t ht => by rw [← hK] at ht ⊢; exact kp_at ht
      have hne : ∀ i j, i < K.length → j < K.length → i ≠ j → K.getD i 0 ≠ K.getD j 0 := fun i j hi hj h => by rw [← hK] at hi hj ⊢; exact kp_ne hi hj h
      rw [hK] at hcl ⊢
      have s3 := ho3.size
      refine ⟨.inr ⟨g, cc, fun t => uf (K.getD t 0), fun t => r (K.getD t 0), by rw [List.length_map], by omega, by omega, Nat.le_refl _, fun j hj => ?_, fun j hj => ?_⟩, L2.out.trans ((ho3.below (Nat.le_of_lt g1)).mono (by omega))⟩
      · rw [List.length_map] at hj
        obtain ⟨q0, q1, q2, q3⟩ := hap _ (hat j hj)
        show w.heap.size ≤ r (K.getD j 0) ∧ r (K.getD j 0) < w3.heap.size ∧ r (K.getD j 0) ≠ g ∧ ∀ i, i < (K.map (fun t => (everyF row.length).getD t [])).length → i ≠ j → r (K.getD i 0) ≠ r (K.getD j 0)
        refine ⟨by omega, by omega, q2, fun i hi hij => q3 _ (hat i ?_) (hne i j ?_ hj hij)⟩
        all_goals (rw [List.length_map] at hi; exact hi)
      · rw [List.length_map] at hj
        obtain ⟨q0, q1, q2, q3⟩ := hap _ (hat j hj)
        refine ⟨hcl j hj, ?_⟩
        have e : (K.map (fun t => (everyF row.length).getD t [])).getD j [] = (everyF row.length).getD (K.getD j 0) [] := by
          simp [List.getD, List.getElem?_eq_getElem hj]
        rw [e]
        exact (hel _ (hat j hj)).2.2.part (ho3.part (Nat.le_refl g) (Nat.lt_succ_self g)) (by omega))
  clear ho hel hap hfz l2 AS HD CLO hev c2 c3
  generalize (kpF (fun j => !zeroG row p ((everyF row.length).getD j [])) (everyF row.length).length).length = KL at *
  go_wp2_with fail
  refine D.out.mono ?_
  rintro e w3 ⟨rfl, hcl, ho3⟩
  have R3 := Lib.hid (RR.out w3 ho3 hcl)
  clear hcl ho3 RR D
  go_wp2
  go_ret2
  exact ⟨_, rfl, R3.out.1, R3.out.2⟩
end Go.Proofs.Ytgjchkcjlmklbaa
