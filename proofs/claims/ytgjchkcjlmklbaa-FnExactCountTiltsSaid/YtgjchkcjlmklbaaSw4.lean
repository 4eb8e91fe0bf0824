/- The contracts of the program's seatings. -/
import Derived.Test.YtgjchkcjlmklbaaSw2
import Derived.Test.YtgjchkcjlmklbaaLoadOwn
import Derived.Test.YtgjchkcjlmklbaaLoadTo
namespace Go.Proofs.Ytgjchkcjlmklbaa
open Go.RowKit
set_option maxRecDepth 100000 in
set_option maxHeartbeats 1600000 in
theorem indexI_any (v : Value) (xs : List Int) (z : Int) (w : World) (hr : IntRow w v xs) (hn : xs.length ≤ 2000000) :
    Calls Try.prog 127 #[v, .int .i64 z] w fun e w' => (∃ y : Int, e = .returned (.int .i64 y) ∧ ((y = -1 ∧ ∀ j, j < xs.length → xs.getD j 0 ≠ z) ∨ ∃ i : Nat, y = i ∧ i < xs.length ∧ xs.getD i 0 = z ∧ ∀ j, j < i → xs.getD j 0 ≠ z)) ∧ w' = w := by
  obtain ⟨a, c, rfl, hr⟩ := hr
  go_enter Try.func127, Try.ntmps127
  go_wp2
  go_loopw [8] (fun i wr => ∃ k : Nat, k ≤ xs.length ∧ i = .int .i64 k ∧ Hid (∀ j, j < k → xs.getD j 0 ≠ z) ∧ wr = w) (fun i _ => xs.length - (intOf i).toNat)
  case atStart => exact ⟨0, Nat.zero_le _, rfl, Lib.hid (fun j h => by omega), rfl⟩
  case round =>
    obtain ⟨k, hk, rfl, HL, hwr⟩ := hrel
    subst hwr
    by_cases hlt : k < xs.length
    · rcases hr with h | ⟨g, off, rfl, hg, hc⟩
      · subst h; simp at hlt
      have hlt' : (k : Int) < (xs.length : Int) := by omega
      have HLT := Lib.hid hlt
      have c1 := hc k hlt
      obtain ⟨x, hx⟩ : ∃ x, xs.getD k 0 = x := ⟨_, rfl⟩
      have HX := Lib.hid hx
      rw [hx] at c1
      clear hc hx
      by_cases h : x = z
      · have hq : (z == x) = true := by simp [h]
        have HE := Lib.hid h
        clear h
        go_wp2
        go_ret
        exact ⟨⟨_, rfl, .inr ⟨k, rfl, HLT.out, by rw [HX.out, HE.out], HL.out⟩⟩, rfl⟩
      · have hq : (z == x) = false := by rw [beq_eq_false_iff_ne]; exact fun e => h e.symm
        have HE := Lib.hid h
        clear h
        go_wp2
        go_roundw
        case rel =>
          refine ⟨k + 1, by omega, by go_num, Lib.hid (fun j hj => ?_), by first | rfl | trivial⟩
          by_cases e : j = k
          · subst e; rw [HX.out]; exact HE.out
          · exact HL.out j (by omega)
        case measure => simp [intOf]; omega
    · obtain rfl : k = xs.length := by omega
      have hge : ¬ (xs.length : Int) < (xs.length : Int) := by omega
      go_wp2
      go_ret
      exact ⟨⟨_, rfl, .inl ⟨rfl, HL.out⟩⟩, rfl⟩
theorem containsI_any (v : Value) (xs : List Int) (z : Int) (w : World) (hr : IntRow w v xs) (hn : xs.length ≤ 2000000) :
    Calls Try.prog 113 #[v, .int .i64 z] w fun e w' => e = .returned (.bool (xs.contains z)) ∧ w' = w := by
  have C := Lib.hid (indexI_any v xs z w hr hn)
  have HY := Lib.hid (fun k (hk : k < xs.length) (h : xs.getD k 0 = z) => hasI_yes hk h)
  have HN := Lib.hid (fun (h : ∀ j, j < xs.length → xs.getD j 0 ≠ z) => hasI_no h)
  generalize xs.contains z = r at *
  clear hr
  go_enter Try.func113, Try.ntmps113
  go_wp2_with fail
  refine C.out.mono ?_
  rintro e w1 ⟨⟨y, rfl, hy⟩, hw⟩
  subst hw
  have HF := Lib.hid (show decide ((0 : Int) ≤ y) = r by
    rcases hy with ⟨rfl, h⟩ | ⟨i, rfl, h1, h2, _⟩
    · rw [HN.out h]; rfl
    · rw [HY.out i h1 h2]; simp)
  clear hy C HY HN
  go_wp2
  go_ret
  exact ⟨by rw [← HF.out]; rfl, rfl⟩
theorem MineL.mono9 {w : World} {B C E : Nat} {v : Value} {xs : List (Int × Int)} (h : MineL w B E v xs) (hC : C ≤ B) : MineL w C E v xs := by
  rcases h with h | ⟨g, c, e, h1, h2, h3, h4⟩
  · exact .inl h
  · exact .inr ⟨g, c, e, Nat.le_trans hC h1, h2, h3, h4⟩
theorem seats_off {ws : List Int} {k : Int} {ss : List Int} (h : ss.length ≠ ws.length) : seatsB ws k ss = false := propB_no (fun f => h f.1)
set_option maxRecDepth 100000 in
set_option maxHeartbeats 3200000 in
theorem isSeatingI_any (u v : Value) (ws ss : List Int) (k : Int) (w : World) (hu : IntRow w u ws) (hv : IntRow w v ss) (hcap : ∃ a, v = .slice a ss.length ss.length) (hn : ws.length ≤ 2000000) (hm : ss.length ≤ 2000000) :
    Calls Try.prog 27 #[u, .int .i64 k, v] w fun e w' => e = .returned (.tuple #[.bool (isSB ws k ss), .bool (askW ws k)]) ∧ Below w.heap.size w w' := by
  have AW := Lib.hid (areWeights_is u ws _ rfl w hu hn)
  have DI := Lib.hid (fun w => isDistance_is k _ rfl w)
  have HAK := Lib.hid (show askW ws k = (wtsB ws && (decide (1 ≤ k) && decide (k ≤ 6))) from rfl)
  have HIS := Lib.hid (show isSB ws k ss = (askW ws k && seatsB ws k ss) from rfl)
  have HKB := Lib.hid (fun (h : askW ws k = true) => ((askW_iff ws k).1 h).2)
  have HN := Lib.hid (fun i (hi : i < ss.length) h => seats_no (ws := ws) (k := k) hi h)
  have HY := Lib.hid (fun h => seats_yes (ws := ws) (k := k) (ss := ss) h)
  have HO := Lib.hid (fun h => seats_off (ws := ws) (k := k) (ss := ss) h)
  have IS := Lib.hid (fun p r (h : seatB k p = r) w (h1 : 1 ≤ k) (h6 : k ≤ 6) => isSeat_is p k r h w h1 h6)
  obtain ⟨a, rfl⟩ := hcap
  obtain ⟨au, cu, rfl, _⟩ := hu
  generalize isSB ws k ss = R0 at *
  generalize seatsB ws k ss = SB at *
  generalize askW ws k = AB at *
  generalize wtsB ws = b1 at *
  generalize (decide (1 ≤ k) && decide (k ≤ 6)) = b2 at *
  have h0 := HAK.out
  subst h0
  have h0 := HIS.out
  subst h0
  cases b1 with
  | false =>
    clear IS HN HY HO HKB
    go_enter Try.func27, Try.ntmps27
    go_wp2_with fail
    refine AW.out.mono ?_
    rintro e w1 ⟨rfl, l⟩
    have L := Lib.hid l
    clear l
    go_wp2
    go_ret2
    exact ⟨rfl, L.out⟩
  | true =>
  cases b2 with
  | false =>
    clear IS HN HY HO HKB
    go_enter Try.func27, Try.ntmps27
    go_wp2_with fail
    refine AW.out.mono ?_
    rintro e w1 ⟨rfl, l⟩
    have L := Lib.hid l
    clear l
    go_wp2_with fail
    refine (DI.out _).mono ?_
    rintro e w' ⟨rfl, rfl⟩
    go_wp2
    go_ret2
    exact ⟨rfl, L.out⟩
  | true =>
  obtain ⟨k1, k6⟩ := HKB.out (by rfl)
  by_cases hl : ss.length = ws.length
  case neg =>
    have hq : ((ss.length : Int) != (ws.length : Int)) = true := by rw [bne_iff_ne]; omega
    have HF := Lib.hid (HO.out hl)
    clear IS HN HY HO HKB hl
    go_enter Try.func27, Try.ntmps27
    go_wp2_with fail
    refine AW.out.mono ?_
    rintro e w1 ⟨rfl, l⟩
    have L := Lib.hid l
    clear l
    go_wp2_with fail
    refine (DI.out _).mono ?_
    rintro e w' ⟨rfl, rfl⟩
    go_wp2
    go_ret2
    exact ⟨by rw [HF.out]; rfl, L.out⟩
  have hq : ((ss.length : Int) != (ws.length : Int)) = false := by rw [hl]; simp
  have HYQ := Lib.hid (show ((ss.length : Int) == (ws.length : Int)) = true by rw [hl]; simp)
  have HV := Lib.hid hv
  clear hl HKB HO hv
  go_enter Try.func27, Try.ntmps27
  go_wp2_with fail
  refine AW.out.mono ?_
  rintro e w1 ⟨rfl, l⟩
  have L := Lib.hid l
  clear l
  go_wp2_with fail
  refine (DI.out _).mono ?_
  rintro e w' ⟨rfl, rfl⟩
  clear AW DI
  go_wp2
  go_loopw [25] (fun i wr => ∃ m : Nat, m ≤ ss.length ∧ i = .int .i64 m ∧ Hid (∀ j, j < m → (seatB k (ss.getD j 0) && !(ss.take j).contains (ss.getD j 0)) = true) ∧ wr = w1) (fun i _ => ss.length - (intOf i).toNat)
  case atStart => exact ⟨0, Nat.zero_le _, rfl, Lib.hid (fun j h => by omega), rfl⟩
  case round =>
    obtain ⟨m, hm2, rfl, HS, hwr⟩ := hrel
    subst hwr
    by_cases hlt : m < ss.length
    case neg =>
      obtain rfl : m = ss.length := by omega
      have hge : ¬ (ss.length : Int) < (ss.length : Int) := by omega
      have HF := Lib.hid (HY.out HS.out)
      go_wp2
      go_ret2
      exact ⟨by rw [HF.out, HYQ.out]; rfl, L.out⟩
    have hlt' : (m : Int) < (ss.length : Int) := by omega
    have HRT := Lib.hid (intRow_take (HV.out.lo L.out) m hm2)
    have HNm := Lib.hid (HN.out m hlt)
    have HSm := Lib.hid (fun (h : (seatB k (ss.getD m 0) && !(ss.take m).contains (ss.getD m 0)) = true) => show ∀ j, j < m + 1 → (seatB k (ss.getD j 0) && !(ss.take j).contains (ss.getD j 0)) = true from fun j hj => by
      by_cases e : j = m
      · rw [e]; exact h
      · exact HS.out j (by omega))
    have hll : (ss.take m).length ≤ 2000000 := by rw [List.length_take]; omega
    obtain ⟨a', c', e, hr⟩ := HV.out
    cases e
    rcases hr with h | ⟨g, off, rfl, hg, hc⟩
    · subst h; simp at hlt
    have c1 := hc m hlt
    rw [← L.out.cell (p := ⟨g, off + m, none⟩) hg] at c1
    have CT := Lib.hid (fun z => containsI_any _ (ss.take m) z wr HRT.out hll)
    obtain ⟨x, hx⟩ : ∃ x, ss.getD m 0 = x := ⟨_, rfl⟩
    rw [hx] at c1 HNm HSm
    have CT := Lib.hid (CT.out x)
    generalize (ss.take m).contains x = C at *
    obtain ⟨sb, hsb⟩ : ∃ sb, seatB k x = sb := ⟨_, rfl⟩
    have I1 := Lib.hid (fun w => IS.out x sb hsb w k1 k6)
    rw [hsb] at HNm HSm
    clear hc hll hx HRT hsb IS HS HV HN HY
    cases sb with
    | false =>
      have HF := Lib.hid (HNm.out (by rfl))
      clear HNm HSm CT
      go_wp2_with fail
      refine (I1.out _).mono ?_
      rintro e w' ⟨rfl, rfl⟩
      go_wp2
      go_ret2
      exact ⟨by rw [HF.out]; rfl, L.out⟩
    | true =>
      cases C with
      | true =>
        have HF := Lib.hid (HNm.out (by rfl))
        clear HNm HSm
        go_wp2_with fail
        refine (I1.out _).mono ?_
        rintro e w' ⟨rfl, rfl⟩
        go_wp2_with fail
        refine CT.out.mono ?_
        rintro e w' ⟨rfl, rfl⟩
        go_wp2
        go_ret2
        exact ⟨by rw [HF.out]; rfl, L.out⟩
      | false =>
        have HF := Lib.hid (HSm.out (by rfl))
        clear HNm HSm
        go_wp2_with fail
        refine (I1.out _).mono ?_
        rintro e w' ⟨rfl, rfl⟩
        go_wp2_with fail
        refine CT.out.mono ?_
        rintro e w' ⟨rfl, rfl⟩
        go_wp2
        go_roundw
        case rel => exact ⟨m + 1, by omega, by go_num, HF, by first | rfl | trivial⟩
        case measure => simp [intOf]; omega
set_option maxRecDepth 100000 in
set_option maxHeartbeats 1600000 in
theorem weightsAt_any (u v : Value) (ws ps : List Int) (w : World) (hu : IntRow w u ws) (hv : IntRow w v ps) (h12 : ws.length ≤ 12) (hl : ps.length = ws.length) :
    Calls Try.prog 115 #[u, v] w fun e w' => ∃ x, e = .returned x ∧ MineL w' w.heap.size w'.heap.size x (rowW ws ps) ∧ Below w.heap.size w w' := by
  have HM := make_loads ws.length (by omega)
  have PL := Lib.hid (rowW_len ws ps)
  have PT := Lib.hid (fun k (h : k < ws.length) => rowW_at ws ps k h)
  obtain ⟨a, c, rfl, hu⟩ := hu
  obtain ⟨a2, c2, rfl, hv⟩ := hv
  rw [hl] at hv ⊢
  go_enter Try.func115, Try.ntmps115
  go_wp2
  go_loopw [13] (fun i wr => ∃ k : Nat, k ≤ ws.length ∧ i = .int .i64 k ∧ Hid (∀ j, j < k → wr.cell? ⟨w.heap.size, j * 2, none⟩ = some (.int .i64 ((rowW ws ps).getD j (0, 0)).1) ∧ wr.cell? ⟨w.heap.size, j * 2 + 1, none⟩ = some (.int .i64 ((rowW ws ps).getD j (0, 0)).2)) ∧ Hid (∀ j, k * 2 ≤ j → j < ws.length * 2 → wr.cell? ⟨w.heap.size, j, none⟩ = some (.int .i64 0)) ∧ Hid (∀ j, wr.frozen? ⟨w.heap.size, j, none⟩ = false) ∧ Below w.heap.size w wr ∧ w.heap.size + 1 ≤ wr.heap.size) (fun i _ => ws.length - (intOf i).toNat)
  case atStart => exact ⟨0, Nat.zero_le _, rfl, Lib.hid (fun j h => by omega), Lib.hid (fun j _ h => by rw [World.cell?_alloc_at _ _ _ _ rfl]; exact made_zero _ _ h), Lib.hid (fun j => World.frozen?_alloc_at _ _ _ _ rfl), (Below.refl _ _).alloc (Nat.le_refl _) _, by simp⟩
  case round =>
    obtain ⟨k, hk, rfl, H1, H2, H3, hb, hs1⟩ := hrel
    clear HM
    by_cases hlt : k < ws.length
    · rcases hu with h | ⟨g, off, rfl, hg, hc⟩
      · subst h; simp at hlt
      rcases hv with h | ⟨g2, off2, rfl, hg2, hc2⟩
      · subst h; simp at hl; omega
      have h1 := hc k hlt
      have h2 := hc2 k hlt
      rw [← hb.cell (p := ⟨g, off + k, none⟩) hg] at h1
      rw [← hb.cell (p := ⟨g2, off2 + k, none⟩) hg2] at h2
      have hlt' : (k : Int) < (ws.length : Int) := by omega
      have pt := PT.out k hlt
      generalize ws.getD k 0 = q at h1 pt
      generalize ps.getD k 0 = p at h2 pt
      have HX := Lib.hid pt
      have z1 := H2.out (k * 2) (Nat.le_refl _) (by omega)
      have z2 := H2.out (k * 2 + 1) (by omega) (by omega)
      have f1 := H3.out (k * 2)
      have f2 := H3.out (k * 2 + 1)
      have TS := Lib.hid (two_set wr w.heap.size (k * 2) (.int .i64 p) (.int .i64 q) z1 z2)
      have HB := Lib.hid hb
      clear hc hc2 pt hb
      go_wp2
      go_roundw
      case rel =>
        obtain ⟨t1, t2, t3⟩ := TS.out
        refine ⟨k + 1, by omega, by go_num, Lib.hid (fun j hj => ?_), Lib.hid (fun j hj hjn => ?_), Lib.hid (fun j => ?_), ?_, by simp; omega⟩
        · by_cases e : j = k
          · subst e
            rw [HX.out]
            exact ⟨t1, t2⟩
          · rw [t3 _ (by omega) (by omega), t3 _ (by omega) (by omega)]
            exact H1.out j (by omega)
        · rw [t3 _ (by omega) (by omega)]
          exact H2.out j (by omega) hjn
        · rw [World.frozen?_setCell, World.frozen?_setCell]
          exact H3.out j
        · exact (HB.out.setCell (p := ⟨w.heap.size, k * 2, none⟩) (Nat.le_refl _) _).setCell (p := ⟨w.heap.size, k * 2 + 1, none⟩) (Nat.le_refl _) _
      case measure => simp [intOf]; omega
    · obtain rfl : k = ws.length := by omega
      have hge : ¬ (ws.length : Int) < (ws.length : Int) := by omega
      go_wp2
      go_ret
      exact ⟨_, rfl, .inr ⟨_, _, by rw [PL.out]; rfl, Nat.le_refl _, by omega, Nat.le_refl _, fun j hj => by rw [PL.out] at hj; exact H1.out j hj, H3.out⟩, hb⟩
set_option maxRecDepth 100000 in
set_option maxHeartbeats 1600000 in
theorem seatRowI_any (u v : Value) (ws ss : List Int) (k : Int) (w : World) (hu : IntRow w u ws) (hv : IntRow w v ss) (hcap : ∃ a, v = .slice a ss.length ss.length) (hn : ws.length ≤ 2000000) (hm : ss.length ≤ 2000000) :
    Calls Try.prog 30 #[u, .int .i64 k, v] w fun e w' => ∃ x, e = .returned (.tuple #[x, .bool (isSB ws k ss)]) ∧ MineL w' w.heap.size w'.heap.size x (seatR ws k ss) ∧ Below w.heap.size w w' := by
  unfold seatR
  have A := Lib.hid (isSeatingI_any u v ws ss k w hu hv hcap hn hm)
  have RW := Lib.hid (fun (h : isSB ws k ss = true) w1 (l : Below w.heap.size w w1) => weightsAt_any u v ws ss w1 (hu.lo l) (hv.lo l) ((askW_iff ws k).1 (by unfold isSB at h; rw [Bool.and_eq_true] at h; exact h.1)).1.short (by unfold isSB at h; rw [Bool.and_eq_true] at h; exact ((propB_iff _).1 h.2).1))
  generalize isSB ws k ss = r at *
  generalize askW ws k = b at *
  generalize rowW ws ss = RR at *
  clear hu hv hcap
  cases r with
  | false =>
    clear RW
    go_enter Try.func30, Try.ntmps30
    go_wp2_with fail
    refine A.out.mono ?_
    rintro e w1 ⟨rfl, l⟩
    have L := Lib.hid l
    clear l A
    go_wp2
    go_ret2
    exact ⟨_, rfl, mineL_nil _ _ _ _ _, L.out⟩
  | true =>
    have RR1 := Lib.hid (fun w1 l => RW.out (by rfl) w1 l)
    clear RW
    go_enter Try.func30, Try.ntmps30
    go_wp2_with fail
    refine A.out.mono ?_
    rintro e w1 ⟨rfl, l⟩
    have R2 := Lib.hid (RR1.out w1 l)
    have L := Lib.hid l
    clear l A RR1
    go_wp2_with fail
    refine R2.out.mono ?_
    rintro e w2 ⟨x, rfl, m, l⟩
    have M := Lib.hid (m.mono9 L.out.size)
    have L2 := Lib.hid (lo_on L.out l)
    clear l m R2
    go_wp2
    go_ret2
    exact ⟨_, rfl, M.out, L2.out⟩
end Go.Proofs.Ytgjchkcjlmklbaa
