/- The contracts of CoinOutcome, the program's and the model's. -/
import Derived.Test.YtgdgiecajflmaabCoin2
import Derived.Lib.SliceRun
namespace Go.Proofs.Ytgdgiecajflmaab
open Go.RowKit
theorem icells_len (xs : List Int) : (icells xs).length = xs.length := by simp [icells]
theorem icells_get (xs : List Int) (j : Nat) (u : Value) (h : (icells xs)[j]? = some u) : j < xs.length ∧ u = .int .i64 (xs.getD j 0) := by
  have hl : j < (icells xs).length := (List.getElem?_eq_some_iff.1 h).1
  rw [icells_len] at hl
  rw [icells_at xs j hl] at h
  exact ⟨hl, (Option.some.inj h).symm⟩
set_option maxRecDepth 100000 in
set_option maxHeartbeats 800000 in
theorem cloneInts_any (g off c : Nat) (xs : List Int) (w : World) (hg : g < w.heap.size) (hc : ∀ j, j < xs.length → w.cell? ⟨g, off + j, none⟩ = some (.int .i64 (xs.getD j 0))) (hn : xs.length ≤ 2000000) :
    Calls Try.prog 97 #[.slice (some ⟨g, off, none⟩) xs.length c] w fun e w' => ∃ v', e = .returned v' ∧ OwnI w' w.heap.size v' xs ∧ Below w.heap.size w w' := by
  obtain ⟨i0, hi, hz0, hz1, hz2⟩ := info_parts infoInt
  have hrow0 := ownI_lit0 w w.heap.size (Nat.le_refl _)
  have HN := Lib.hid (show ∀ j u, (icells xs)[j]? = some u → (w.alloc (.cells #[] 3)).cell? ((⟨g, off, none⟩ : Addr).add j) = some u from fun j u hj => by
    obtain ⟨hl, rfl⟩ := icells_get xs j u hj
    rw [Go.WideShapes.add_plain, World.cell?_of_block (Below.heap_alloc _ _ _ hg)]
    exact hc j hl)
  unfold OwnI icells at hrow0
  have NE := fun (w : World) (a : Option Addr) (n c : Nat) => Lib.run_eql_slice_nil (P := Try.prog) w 30 3 a n c 0 0 Try.underlying30
  clear hc
  go_enter Try.func97, Try.ntmps97
  go_wp2_with (at_builtin; refine wpList_append_own _ rfl _ _ 30 rfl w.heap.size 3 i0 (.int .i64 0) 1 8 Try.underlying30 hi hz0 hz1 hz2 rfl (by decide) _ _ _ rfl hrow0 ⟨g, off, none⟩ xs.length c (icells xs) rfl (by rw [icells_len, Nat.mul_one]) HN.out (icells_one xs) (by unfold maxLen; simp only [List.length_nil]; omega) (by simp only [List.length_nil]; omega) (by simp) ?_; intro v' w3 hown' hgrow3 hnil3)
  have HO := Lib.hid (show OwnI w3 w.heap.size v' xs by
    unfold OwnI
    simpa using hown')
  have HL := Lib.hid (show Below w.heap.size w w3 from ((Below.refl _ _).alloc (Nat.le_refl _) _).grown hgrow3 (by simp) (fun j hj => by cases hj; exact Nat.le_refl _))
  clear hown' hgrow3 hnil3 hrow0
  go_wp2
  go_ret
  exact ⟨v', rfl, HO.out, HL.out⟩
theorem lit_five (w : World) (t : TypeId) (y0 y1 y2 y3 y4 : Int) (f : Nat → Int) (h0 : f 0 = y0) (h1 : f 1 = y1) (h2 : f 2 = y2) (h3 : f 3 = y3) (h4 : f 4 = y4) (j : Nat) (h : j < 5) :
    (w.alloc (.cells #[.int .i64 y0, .int .i64 y1, .int .i64 y2, .int .i64 y3, .int .i64 y4] t)).cell? ⟨w.heap.size, j, none⟩ = some (.int .i64 (f j)) := by
  rw [World.cell?_alloc_at _ _ _ _ rfl]
  have : j = 0 ∨ j = 1 ∨ j = 2 ∨ j = 3 ∨ j = 4 := by omega
  rcases this with rfl | rfl | rfl | rfl | rfl
  · rw [h0]; rfl
  · rw [h1]; rfl
  · rw [h2]; rfl
  · rw [h3]; rfl
  · rw [h4]; rfl
/-- The kind of a false coin. -/
def kindF (heavy : Bool) : Int := if heavy = true then 1 else -1
/-- What CoinOutcome answers. -/
noncomputable def outcomeR (n : Int) (xss : List (List Int)) (coin : Int) (heavy : Bool) : List Int × Bool := if (coinsB n && planB n xss) = true ∧ 0 ≤ coin ∧ coin < n then (outF xss coin.toNat (kindF heavy), true) else ([], false)
theorem outcomeR_len (n : Int) (xss : List (List Int)) (coin : Int) (heavy : Bool) : (outcomeR n xss coin heavy).1.length ≤ 2000000 := by
  unfold outcomeR
  split
  · rename_i h
    have hp := h.1
    rw [Bool.and_eq_true] at hp
    have := ((propB_iff _).1 hp.2).short
    rw [outF_len]
    omega
  · simp
set_option maxRecDepth 100000 in
set_option maxHeartbeats 1600000 in
theorem coinOutcome_yes (n : Int) (v : Value) (xss : List (List Int)) (coin : Nat) (heavy : Bool) (w : World) (hr : TabRow w v xss) (hb : SmallT xss) (hn : coinsB n = true) (hp : PlanF n xss) (hc : (coin : Int) < n) :
    Calls Try.prog 48 #[.int .i64 n, v, .int .i64 (coin : Int), .bool heavy] w fun e w' => ∃ u, e = .returned (.tuple #[u, .bool true]) ∧ MineI w' w.heap.size w'.heap.size u (outF xss coin (kindF heavy)) ∧ Below w.heap.size w w' := by
  have IP := Lib.hid (isPlan_any n v xss w hr hb)
  rw [hn, show planB n xss = true from propB_yes hp, Bool.true_and] at IP
  have OO := Lib.hid (fun w1 (l : Below w.heap.size w w1) => outcomeOf_any n v xss coin (kindF heavy) w1 (hr.lo l) hp hc (by cases heavy; exact .inr rfl; exact .inl rfl))
  have hl5 := hp.short
  have hx : ∃ a c, v = .slice a xss.length c := by obtain ⟨a, c, e, _⟩ := hr; exact ⟨a, c, e⟩
  obtain ⟨a, c, rfl⟩ := hx
  have HO := Lib.hid (fun j h => outF_at xss coin (kindF heavy) j h)
  have HL := Lib.hid (outF_len xss coin (kindF heavy))
  generalize hf : cdF xss coin (kindF heavy) = f at OO HO
  generalize outF xss coin (kindF heavy) = ys at *
  have hge : ¬ n ≤ (coin : Int) := by omega
  have hneg : ¬ (coin : Int) < 0 := by omega
  have hl5' : (xss.length : Int) ≤ 5 := by omega
  clear hr hb hn hp hf
  cases heavy
  all_goals
    (unfold kindF at OO
     simp only [Bool.false_eq_true, if_true, if_false] at OO
     go_enter Try.func48, Try.ntmps48
     go_wp2_with fail
     refine IP.out.mono ?_
     rintro e w1 ⟨rfl, l1⟩
     have O1 := Lib.hid (OO.out w1 l1)
     have L1 := Lib.hid l1
     clear l1
     go_wp2_with fail
     refine O1.out.mono ?_
     rintro e w2 ⟨rfl, l2⟩
     have L2 := Lib.hid (lo_on L1.out l2)
     have F5 := Lib.hid (fun j h => lit_five w2 73 (f 0) (f 1) (f 2) (f 3) (f 4) f rfl rfl rfl rfl rfl j h)
     have CL := Lib.hid (cloneInts_any w2.heap.size 0 5 ys (w2.alloc (.cells #[.int .i64 (f 0), .int .i64 (f 1), .int .i64 (f 2), .int .i64 (f 3), .int .i64 (f 4)] 73)) (by simp) (fun j hj => by
       rw [Nat.zero_add, HO.out j (by have := HL.out; omega)]
       exact F5.out j (by have := HL.out; omega)) (by have := HL.out; omega))
     rw [HL.out] at CL
     clear l2 O1 OO IP
     generalize f 0 = y0 at *
     generalize f 1 = y1 at *
     generalize f 2 = y2 at *
     generalize f 3 = y3 at *
     generalize f 4 = y4 at *
     go_wp2_with fail
     refine CL.out.mono ?_
     rintro e w3 ⟨u, rfl, o3, l3⟩
     have M3 := Lib.hid (o3.mine.mono (B' := w.heap.size) (by have := L2.out.size; simp; omega) (Nat.le_refl _) (Nat.le_refl _))
     have L3 := Lib.hid (show Below w.heap.size w w3 from (L2.out.alloc L2.out.size _).trans (l3.mono (by have := L2.out.size; simp; omega)))
     clear o3 l3
     go_wp2
     go_ret2
     exact ⟨u, rfl, M3.out, L3.out⟩)
theorem coinOutcome_no (n : Int) (v : Value) (xss : List (List Int)) (coin : Int) (heavy : Bool) (w : World) (hr : TabRow w v xss) (hb : SmallT xss) (h : ¬ ((coinsB n && planB n xss) = true ∧ 0 ≤ coin ∧ coin < n)) :
    Calls Try.prog 48 #[.int .i64 n, v, .int .i64 coin, .bool heavy] w fun e w' => e = .returned (.tuple #[.slice none 0 0, .bool false]) ∧ Below w.heap.size w w' := by
  have IP := Lib.hid (isPlan_any n v xss w hr hb)
  clear hr hb
  generalize coinsB n = b2 at *
  generalize hg : (b2 && planB n xss) = b1 at *
  clear hg
  cases b1 with
  | false =>
    clear h
    go_enter Try.func48, Try.ntmps48
    go_wp2_with fail
    refine IP.out.mono ?_
    rintro e w1 ⟨rfl, l1⟩
    have L1 := Lib.hid l1
    clear l1
    go_wp2
    go_ret2
    exact ⟨rfl, L1.out⟩
  | true =>
    by_cases h0 : coin < 0
    · clear h
      go_enter Try.func48, Try.ntmps48
      go_wp2_with fail
      refine IP.out.mono ?_
      rintro e w1 ⟨rfl, l1⟩
      have L1 := Lib.hid l1
      clear l1
      go_wp2
      go_ret2
      exact ⟨rfl, L1.out⟩
    · have h1 : n ≤ coin := by
        rcases Int.lt_or_le coin n with hh | hh
        · exact absurd ⟨rfl, by omega, hh⟩ h
        · exact hh
      clear h
      go_enter Try.func48, Try.ntmps48
      go_wp2_with fail
      refine IP.out.mono ?_
      rintro e w1 ⟨rfl, l1⟩
      have L1 := Lib.hid l1
      clear l1
      go_wp2
      go_ret2
      exact ⟨rfl, L1.out⟩
theorem coinOutcome_impl (n : Int) (v : Value) (xss : List (List Int)) (coin : Int) (heavy : Bool) (w : World) (hr : TabRow w v xss) (hb : SmallT xss) :
    Calls Try.prog 48 #[.int .i64 n, v, .int .i64 coin, .bool heavy] w fun e w' => ∃ u, e = .returned (.tuple #[u, .bool (outcomeR n xss coin heavy).2]) ∧ MineI w' w.heap.size w'.heap.size u (outcomeR n xss coin heavy).1 ∧ Below w.heap.size w w' := by
  unfold outcomeR
  by_cases h : (coinsB n && planB n xss) = true ∧ 0 ≤ coin ∧ coin < n
  · rw [if_pos h]
    obtain ⟨h1, h2, h3⟩ := h
    rw [Bool.and_eq_true] at h1
    obtain ⟨c, rfl⟩ := Int.eq_ofNat_of_zero_le h2
    simp only [Int.toNat_natCast]
    exact coinOutcome_yes n v xss c heavy w hr hb h1.1 ((propB_iff _).1 h1.2) h3
  · rw [if_neg h]
    refine (coinOutcome_no n v xss coin heavy w hr hb h).mono ?_
    rintro e w' ⟨rfl, l⟩
    exact ⟨_, rfl, mineI_nil _ _ _ _ _, l⟩
theorem outF_snoc (xss : List (List Int)) (coin : Nat) (kind : Int) (k : Nat) (hk : k < xss.length) : (outF xss coin kind).take (k + 1) = (outF xss coin kind).take k ++ [kind * (xss.getD k []).getD coin 0] := by
  rw [take_snocI _ k (by rw [outF_len]; exact hk), outF_at _ _ _ _ hk, cdF_at hk]
set_option maxRecDepth 100000 in
set_option maxHeartbeats 1600000 in
theorem l3Outcome_mine (n : Int) (v : Value) (xss : List (List Int)) (coin : Nat) (heavy : Bool) (w : World) (hr : TabRow w v xss) (hp : PlanF n xss) (hc : (coin : Int) < n) :
    Calls Try.prog 89 #[v, .int .i64 (coin : Int), .bool heavy] w fun e w' => ∃ u, e = .returned u ∧ OwnI w' w.heap.size u (outF xss coin (kindF heavy)) ∧ Below w.heap.size w w' := by
  obtain ⟨i0, hi, hz0, hz1, hz2⟩ := info_parts infoInt
  have hrow0 := ownI_lit0 w w.heap.size (Nat.le_refl _)
  obtain ⟨a, c, rfl, hr⟩ := hr
  have hl5 := hp.short
  have HP := Lib.hid hp
  clear hp
  go_enter Try.func89, Try.ntmps89
  go_wp2
  go_loopw [7, 8] (fun v i wr => ∃ k : Nat, k ≤ xss.length ∧ i = .int .i64 k ∧ Hid (OwnI wr w.heap.size v ((outF xss coin (kindF heavy)).take k)) ∧ Hid (Below w.heap.size w wr)) (fun _ i _ => xss.length - (intOf i).toNat)
  case atStart => exact ⟨0, Nat.zero_le _, rfl, Lib.hid hrow0, Lib.hid ((Below.refl _ _).alloc (Nat.le_refl _) _)⟩
  case round =>
    obtain ⟨k, hk, rfl, HO, HW⟩ := hrel
    clear hrow0
    by_cases hlt : k < xss.length
    · rcases hr with h | ⟨g, off, rfl, hg, hcl⟩
      · subst h; simp at hlt
      obtain ⟨u, h1, hu⟩ := hcl k hlt
      rw [← HW.out.cell (p := ⟨g, off + k, none⟩) hg] at h1
      have hwf := HP.out.each k hlt
      have hu1 := hu.lo HW.out
      obtain ⟨ua, uc, rfl, hur⟩ := hu1
      have hcr : coin < (xss.getD k []).length := by have := hwf.1; omega
      rcases hur with h | ⟨g', off', rfl, hg', hcc⟩
      · rw [h] at hcr; simp at hcr
      have h2 := hcc coin hcr
      have hcr' : (coin : Int) < ((xss.getD k []).length : Int) := by omega
      have hx := hwf.2.1 coin hcr
      have hlt' : (k : Int) < (xss.length : Int) := by omega
      have HSN := Lib.hid (outF_snoc xss coin (kindF heavy) k hlt)
      have HTL := Lib.hid (show ((outF xss coin (kindF heavy)).take k).length = k by rw [List.length_take, outF_len]; omega)
      have hown := HO.out
      unfold OwnI at hown
      rw [HTL.out] at hown
      generalize (xss.getD k []).getD coin 0 = x at h2 hx HSN
      generalize (xss.getD k []).length = m at h1 hcr'
      obtain ⟨x0, x1⟩ := hx
      have hgw := HW.out.size
      clear hcl hcc hwf hu hcr
      cases heavy with
      | true =>
        go_wp2_with (at_builtin; refine wpList_append_own _ rfl _ _ 30 rfl w.heap.size 3 i0 (.int .i64 0) 1 8 Try.underlying30 hi hz0 hz1 hz2 rfl (by decide) _ _ _ rfl (hown.alloc _) ⟨wr.heap.size, 0, none⟩ 1 1 [.int .i64 x] rfl rfl (cell_one_new _ _ _) (fun x hx => by simp at hx; subst hx; rfl) (by unfold maxLen; omega) (by omega) (by simp; omega) ?_; intro v' w3 hown' hgrow3 hnil3)
        have HN := Lib.hid (show OwnI w3 w.heap.size v' ((outF xss coin (kindF true)).take (k + 1)) by
          rw [HSN.out]
          refine ownI_snoc (k := k) ?_ HTL.out
          rw [show kindF true * x = x by unfold kindF; simp]
          exact hown')
        have HL := Lib.hid (show Below w.heap.size w w3 from (HW.out.alloc HW.out.size _).grown hgrow3 (by simp; omega) (fun j hj => (hown.lt j hj).1))
        clear hown' hgrow3 hnil3 hown h1 h2
        go_wp2
        go_roundw
        case rel => exact ⟨k + 1, by omega, by go_num, HN, HL⟩
        case measure => simp [intOf]; omega
      | false =>
        go_wp2_with (at_builtin; refine wpList_append_own _ rfl _ _ 30 rfl w.heap.size 3 i0 (.int .i64 0) 1 8 Try.underlying30 hi hz0 hz1 hz2 rfl (by decide) _ _ _ rfl (hown.alloc _) ⟨wr.heap.size, 0, none⟩ 1 1 [.int .i64 (-x)] rfl rfl (cell_one_new _ _ _) (fun x hx => by simp at hx; subst hx; rfl) (by unfold maxLen; omega) (by omega) (by simp; omega) ?_; intro v' w3 hown' hgrow3 hnil3)
        have HN := Lib.hid (show OwnI w3 w.heap.size v' ((outF xss coin (kindF false)).take (k + 1)) by
          rw [HSN.out]
          refine ownI_snoc (k := k) ?_ HTL.out
          rw [show kindF false * x = -x by unfold kindF; simp]
          exact hown')
        have HL := Lib.hid (show Below w.heap.size w w3 from (HW.out.alloc HW.out.size _).grown hgrow3 (by simp; omega) (fun j hj => (hown.lt j hj).1))
        clear hown' hgrow3 hnil3 hown h1 h2
        go_wp2
        go_roundw
        case rel => exact ⟨k + 1, by omega, by go_num, HN, HL⟩
        case measure => simp [intOf]; omega
    · obtain rfl : k = xss.length := by omega
      have hge : ¬ (xss.length : Int) < (xss.length : Int) := by omega
      have HT := Lib.hid (show (outF xss coin (kindF heavy)).take xss.length = outF xss coin (kindF heavy) from List.take_of_length_le (by rw [outF_len]; exact Nat.le_refl _))
      go_wp2
      go_ret
      exact ⟨_, rfl, by have := HO.out; rw [HT.out] at this; exact this, HW.out⟩
theorem l3Outcome_any (n : Int) (v : Value) (xss : List (List Int)) (coin : Nat) (heavy : Bool) (w : World) (hr : TabRow w v xss) (hp : PlanF n xss) (hc : (coin : Int) < n) :
    Calls Try.prog 89 #[v, .int .i64 (coin : Int), .bool heavy] w fun e w' => ∃ u, e = .returned u ∧ IntRow w' u (outF xss coin (kindF heavy)) ∧ Below w.heap.size w w' :=
  (l3Outcome_mine n v xss coin heavy w hr hp hc).mono fun _ _ ⟨u, he, ho, l⟩ => ⟨u, he, ho.mine.row, l⟩
theorem specOutcome_yes (n : Int) (v : Value) (xss : List (List Int)) (coin : Nat) (heavy : Bool) (w : World) (hr : TabRow w v xss) (hb : SmallT xss) (hg : (coinsB n && planB n xss) = true) (hc : (coin : Int) < n) :
    Calls Try.prog 49 #[.int .i64 n, v, .int .i64 (coin : Int), .bool heavy] w fun e w' => ∃ u, e = .returned (.tuple #[u, .bool true]) ∧ IntRow w' u (outF xss coin (kindF heavy)) ∧ Below w.heap.size w w' := by
  have G := Lib.hid (l3Good_any n v xss true hg w hr hb)
  have hg2 := hg
  rw [Bool.and_eq_true] at hg2
  have O := Lib.hid (l3Outcome_any n v xss coin heavy w hr ((propB_iff _).1 hg2.2) hc)
  have hn : 2 ≤ n ∧ n ≤ 40 := by have := hg2.1; unfold coinsB at this; rw [Bool.and_eq_true] at this; exact ⟨of_decide_eq_true this.1, of_decide_eq_true this.2⟩
  obtain ⟨n0, n1⟩ := hn
  have D := Lib.hid (l1In_is (coin : Int) 0 (n - 1) true (by simp; omega) w)
  generalize outF xss coin (kindF heavy) = ys at *
  clear hr hb hg hg2
  go_enter Try.func49, Try.ntmps49
  go_wp2_with fail
  refine G.out.mono ?_
  rintro e w' ⟨rfl, rfl⟩
  go_wp2_with fail
  refine D.out.mono ?_
  rintro e w' ⟨rfl, rfl⟩
  go_wp2_with fail
  refine O.out.mono ?_
  rintro e w' ⟨u, rfl, m, l⟩
  have M := Lib.hid m
  have L := Lib.hid l
  clear m l
  go_wp2
  go_ret2
  exact ⟨u, rfl, M.out, L.out⟩
theorem specOutcome_no (n : Int) (v : Value) (xss : List (List Int)) (coin : Int) (heavy : Bool) (w : World) (hr : TabRow w v xss) (hb : SmallT xss) (h : ¬ ((coinsB n && planB n xss) = true ∧ 0 ≤ coin ∧ coin < n)) :
    Calls Try.prog 49 #[.int .i64 n, v, .int .i64 coin, .bool heavy] w fun e w' => ∃ u, e = .returned (.tuple #[u, .bool false]) ∧ IntRow w' u [] ∧ Below w.heap.size w w' := by
  cases hg : (coinsB n && planB n xss) with
  | false =>
    have G := Lib.hid (l3Good_any n v xss false hg w hr hb)
    clear hr hb h hg
    go_enter Try.func49, Try.ntmps49
    go_wp2_with fail
    refine G.out.mono ?_
    rintro e w' ⟨rfl, rfl⟩
    go_wp2
    go_ret2
    exact ⟨_, rfl, intRow_nil _ _ _, (Below.refl _ _).alloc (Nat.le_refl _) _⟩
  | true =>
    have G := Lib.hid (l3Good_any n v xss true hg w hr hb)
    have hg2 := hg
    rw [Bool.and_eq_true] at hg2
    have hn : 2 ≤ n ∧ n ≤ 40 := by have := hg2.1; unfold coinsB at this; rw [Bool.and_eq_true] at this; exact ⟨of_decide_eq_true this.1, of_decide_eq_true this.2⟩
    obtain ⟨n0, n1⟩ := hn
    have hbad : (decide (0 ≤ coin) && decide (coin ≤ n - 1)) = false := by
      rw [Bool.eq_false_iff]
      intro hh
      rw [Bool.and_eq_true] at hh
      have h1 := of_decide_eq_true hh.1
      have h2 := of_decide_eq_true hh.2
      exact h ⟨hg, h1, by omega⟩
    have D := Lib.hid (l1In_is coin 0 (n - 1) false hbad w)
    clear hr hb h hg hg2 hbad
    go_enter Try.func49, Try.ntmps49
    go_wp2_with fail
    refine G.out.mono ?_
    rintro e w' ⟨rfl, rfl⟩
    go_wp2_with fail
    refine D.out.mono ?_
    rintro e w' ⟨rfl, rfl⟩
    go_wp2
    go_ret2
    exact ⟨_, rfl, intRow_nil _ _ _, (Below.refl _ _).alloc (Nat.le_refl _) _⟩
theorem coinOutcome_spec (n : Int) (v : Value) (xss : List (List Int)) (coin : Int) (heavy : Bool) (w : World) (hr : TabRow w v xss) (hb : SmallT xss) :
    Calls Try.prog 49 #[.int .i64 n, v, .int .i64 coin, .bool heavy] w fun e w' => ∃ u, e = .returned (.tuple #[u, .bool (outcomeR n xss coin heavy).2]) ∧ IntRow w' u (outcomeR n xss coin heavy).1 ∧ Below w.heap.size w w' := by
  unfold outcomeR
  by_cases h : (coinsB n && planB n xss) = true ∧ 0 ≤ coin ∧ coin < n
  · rw [if_pos h]
    obtain ⟨h1, h2, h3⟩ := h
    obtain ⟨c, rfl⟩ := Int.eq_ofNat_of_zero_le h2
    simp only [Int.toNat_natCast]
    exact specOutcome_yes n v xss c heavy w hr hb h1 h3
  · rw [if_neg h]
    exact specOutcome_no n v xss coin heavy w hr hb h
end Go.Proofs.Ytgdgiecajflmaab
