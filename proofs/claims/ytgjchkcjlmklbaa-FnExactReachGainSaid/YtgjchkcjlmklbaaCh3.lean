/- The contracts of the model's chains. -/
import Derived.Test.YtgjchkcjlmklbaaCh2
namespace Go.Proofs.Ytgjchkcjlmklbaa
open Go.RowKit
set_option maxHeartbeats 1600000 in
theorem l7Stages_any (v : Value) (xs : List StageV) (most : Int) (w : World) (hr : StgRow w v xs) (hn : xs.length ≤ 2000000) :
    Calls Try.prog 206 #[v, .int .i64 most] w fun e w' => e = .returned (.bool (allB xs && decide ((xs.length : Int) ≤ most))) ∧ Below w.heap.size w w' := by
  obtain ⟨a, c, rfl, _, hr⟩ := hr
  go_enter Try.func206, Try.ntmps206
  go_wp2
  go_loopw [5] (fun i wr => ∃ k : Nat, k ≤ xs.length ∧ i = .int .i64 k ∧ Hid (∀ j, j < k → stgB (xs.getD j stZ) = true) ∧ Below w.heap.size w wr) (fun i _ => xs.length - (intOf i).toNat)
  case atStart => exact ⟨0, Nat.zero_le _, rfl, Lib.hid (fun j h => by omega), Below.refl _ _⟩
  case round =>
    obtain ⟨k, hk, rfl, HL, hw⟩ := hrel
    by_cases hlt : k < xs.length
    · rcases hr with h | ⟨g, off, rfl, hg, hc⟩
      · subst h; simp at hlt
      obtain ⟨h1, h2, h3⟩ := hc k hlt
      rw [← hw.cell (p := ⟨g, off + k * 3, none⟩) hg] at h1
      rw [← hw.cell (p := ⟨g, off + k * 3 + 1, none⟩) hg] at h2
      rw [← hw.cell (p := ⟨g, off + k * 3 + 2, none⟩) hg] at h3
      have hlt' : (k : Int) < (xs.length : Int) := by omega
      have HN := Lib.hid (allB_not (xs := xs) hlt)
      obtain ⟨x, hx⟩ : ∃ x, xs.getD k stZ = x := ⟨_, rfl⟩
      rw [hx] at h1 h2 h3 HN
      have HX := Lib.hid hx
      clear hx hc
      obtain ⟨b, hb⟩ : ∃ b, stgB x = b := ⟨_, rfl⟩
      have C := Lib.hid (fun w => l7Stage_is x b hb w)
      rw [hb] at HN
      have HB := Lib.hid hb
      obtain ⟨p, q, r⟩ := x
      simp only at h1 h2 h3 C
      have HW := Lib.hid hw
      clear hw hb
      cases b with
      | false =>
        have HF := Lib.hid (HN.out rfl)
        clear HN HB
        go_wp2_with fail
        refine (C.out _).mono ?_
        rintro e w1 ⟨rfl, l⟩
        go_wp2
        go_ret
        exact ⟨by rw [HF.out]; rfl, HW.out.trans (l.mono HW.out.size)⟩
      | true =>
        clear HN
        go_wp2_with fail
        refine (C.out _).mono ?_
        rintro e w1 ⟨rfl, l⟩
        have HV := Lib.hid (HW.out.trans (l.mono HW.out.size))
        clear l C h1 h2 h3
        go_wp2
        go_roundw
        case rel =>
          refine ⟨k + 1, by omega, by go_num, Lib.hid (fun j hj => ?_), HV.out⟩
          by_cases e : j = k
          · subst e; rw [HX.out]; exact HB.out
          · exact HL.out j (by omega)
        case measure => simp [intOf]; omega
    · obtain rfl : k = xs.length := by omega
      have hge : ¬ (xs.length : Int) < (xs.length : Int) := by omega
      have HF := Lib.hid (allB_yes HL.out)
      obtain ⟨z, hz⟩ : ∃ z, decide ((xs.length : Int) ≤ most) = z := ⟨_, rfl⟩
      have HZ := Lib.hid hz
      go_wp2
      go_ret
      exact ⟨by rw [HF.out]; simp, hw⟩
theorem l7Stages_is (v : Value) (xs : List StageV) (most : Int) (r : Bool) (h : (allB xs && decide ((xs.length : Int) ≤ most)) = r) (w : World) (hr : StgRow w v xs) (hn : xs.length ≤ 2000000) :
    Calls Try.prog 206 #[v, .int .i64 most] w fun e w' => e = .returned (.bool r) ∧ Below w.heap.size w w' := by
  subst h
  exact l7Stages_any v xs most w hr hn
/-- A block holds a fraction that can be written. -/
def Cel2 (w : World) (b : Nat) (o : Int × Int) : Prop := b < w.heap.size ∧ w.cell? ⟨b, 0, none⟩ = some (.int .i64 o.1) ∧ w.cell? ⟨b, 1, none⟩ = some (.int .i64 o.2) ∧ w.frozen? ⟨b, 0, none⟩ = false ∧ w.frozen? ⟨b, 1, none⟩ = false
theorem Cel2.lo {w w' : World} {b : Nat} {o : Int × Int} (h : Cel2 w b o) (l : Below w.heap.size w w') : Cel2 w' b o := by
  obtain ⟨h0, h1, h2, h3, h4⟩ := h
  exact ⟨Nat.lt_of_lt_of_le h0 l.size, by rw [l.cell (p := ⟨b, 0, none⟩) h0]; exact h1, by rw [l.cell (p := ⟨b, 1, none⟩) h0]; exact h2, by rw [l.frozen (p := ⟨b, 0, none⟩) h0]; exact h3, by rw [l.frozen (p := ⟨b, 1, none⟩) h0]; exact h4⟩
theorem cel2_new (w : World) (x y : Int) (t : TypeId) : Cel2 (w.alloc (.cells #[.int .i64 x, .int .i64 y] t)) w.heap.size (x, y) :=
  ⟨by simp, by rw [World.cell?_alloc_at _ _ _ _ rfl]; rfl, by rw [World.cell?_alloc_at _ _ _ _ rfl]; rfl, World.frozen?_alloc_at _ _ _ _ rfl, World.frozen?_alloc_at _ _ _ _ rfl⟩
/-- A fraction is stored. -/
theorem Cel2.put {w : World} {b : Nat} {o : Int × Int} (h : Cel2 w b o) (x y : Int) : Cel2 ((w.setCell ⟨b, 0, none⟩ (.int .i64 x)).setCell ⟨b, 1, none⟩ (.int .i64 y)) b (x, y) := by
  obtain ⟨h0, h1, h2, h3, h4⟩ := h
  have TS := two_set w b 0 (.int .i64 x) (.int .i64 y) h1 h2
  obtain ⟨q0, q1, _⟩ := TS
  rw [Nat.zero_add] at q0 q1
  exact ⟨by simpa using h0, q0, q1, by rw [World.frozen?_setCell, World.frozen?_setCell]; exact h3, by rw [World.frozen?_setCell, World.frozen?_setCell]; exact h4⟩
theorem Cel2.far {w : World} {b : Nat} {o : Int × Int} (h : Cel2 w b o) {c : Nat} (hc : b ≠ c) (u v : Value) : Cel2 ((w.setCell ⟨c, 0, none⟩ u).setCell ⟨c, 1, none⟩ v) b o := by
  obtain ⟨h0, h1, h2, h3, h4⟩ := h
  have ne : ∀ i j, (⟨c, i, none⟩ : Addr) ≠ ⟨b, j, none⟩ := fun i j hh => hc (congrArg Addr.block hh).symm
  refine ⟨by simpa using h0, ?_, ?_, by rw [World.frozen?_setCell, World.frozen?_setCell]; exact h3, by rw [World.frozen?_setCell, World.frozen?_setCell]; exact h4⟩
  · rw [World.cell?_setCell_other _ _ _ _ (ne 1 0), World.cell?_setCell_other _ _ _ _ (ne 0 0)]; exact h1
  · rw [World.cell?_setCell_other _ _ _ _ (ne 1 1), World.cell?_setCell_other _ _ _ _ (ne 0 1)]; exact h2
theorem two_put {w w1 : World} {g b : Nat} (h : Below g w w1) (hb : g ≤ b) (x y : Value) : Below g w ((w1.setCell ⟨b, 0, none⟩ x).setCell ⟨b, 1, none⟩ y) :=
  (h.setCell (p := ⟨b, 0, none⟩) hb _).setCell (p := ⟨b, 1, none⟩) hb _
theorem below_pair (w : World) (o o' : Obj) : Below w.heap.size w ((w.alloc o).alloc o') := lo_on (below_one _ _) (below_one _ _)
set_option maxRecDepth 100000 in
set_option maxHeartbeats 1600000 in
theorem l7Chain_any (v : Value) (xs : List StageV) (w : World) (hr : StgRow w v xs) (ha : allB xs = true) (h5 : xs.length ≤ 5) :
    Calls Try.prog 207 #[v] w fun e w' => e = .returned (.agg #[.int .i64 (chF xs).1, .int .i64 (chF xs).2]) ∧ Below w.heap.size w w' := by
  obtain ⟨a, c, rfl, _, hr⟩ := hr
  have HA := Lib.hid ha
  clear ha
  go_enter Try.func207, Try.ntmps207
  go_wp2
  go_loopw [4] (fun i wr => ∃ k : Nat, k ≤ xs.length ∧ i = .int .i64 k ∧ Hid (Cel2 wr w.heap.size (0, 0)) ∧ Hid (Cel2 wr (w.heap.size + 1) (chF (xs.take k))) ∧ Below w.heap.size w wr) (fun i _ => xs.length - (intOf i).toNat)
  case atStart =>
    refine ⟨0, Nat.zero_le _, rfl, Lib.hid ((cel2_new _ _ _ _).lo (below_one _ _)), Lib.hid ?_, below_pair _ _ _⟩
    have := cel2_new (w.alloc (.cells #[.int .i64 0, .int .i64 0] 94)) 1 1 94
    rw [World.size_alloc] at this
    exact this
  case round =>
    obtain ⟨k, hk, rfl, H0, H1, hw⟩ := hrel
    by_cases hlt : k < xs.length
    · rcases hr with h | ⟨g, off, rfl, hg, hc⟩
      · subst h; simp at hlt
      obtain ⟨h1, h2, h3⟩ := hc k hlt
      rw [← hw.cell (p := ⟨g, off + k * 3, none⟩) hg] at h1
      rw [← hw.cell (p := ⟨g, off + k * 3 + 1, none⟩) hg] at h2
      rw [← hw.cell (p := ⟨g, off + k * 3 + 2, none⟩) hg] at h3
      have hlt' : (k : Int) < (xs.length : Int) := by omega
      have ST := ch_step HA.out h5 hlt
      have NX := Lib.hid (ch_take xs k hlt)
      obtain ⟨x, hx⟩ : ∃ x, xs.getD k stZ = x := ⟨_, rfl⟩
      rw [hx] at h1 h2 h3 ST NX
      have C := Lib.hid (fun w => l7Gain_any x (by rw [← hx]; exact allB_at HA.out hlt) w)
      clear hx hc
      generalize gnF x = y at *
      obtain ⟨y1, y2⟩ := y
      obtain ⟨p, q, r⟩ := x
      generalize chF (xs.take k) = o at *
      obtain ⟨o1, o2⟩ := o
      simp only at h1 h2 h3 ST NX C
      have HW := Lib.hid hw
      obtain ⟨⟨s1, s2⟩, s3, s4⟩ := ST
      have M := Lib.hid (fun w => l2Cut_any (o1 * y1) (o2 * y2) w (by omega) (by omega) (by omega) (by omega))
      have n1 : -9223372036854775808 ≤ o1 * y1 := by omega
      have n2 : o1 * y1 ≤ 9223372036854775807 := by omega
      have n3 : -9223372036854775808 ≤ o2 * y2 := by omega
      have n4 : o2 * y2 ≤ 9223372036854775807 := by omega
      clear hw s1 s2 s3 s4
      go_wp2_with fail
      refine (C.out _).mono ?_
      rintro e w1 ⟨rfl, l⟩
      have G1 := Lib.hid (cel2_new w1 y1 y2 94)
      have K0 := Lib.hid ((H0.out.lo l).lo (below_one w1 (.cells #[.int .i64 y1, .int .i64 y2] 94)))
      have K1 := Lib.hid ((H1.out.lo l).lo (below_one w1 (.cells #[.int .i64 y1, .int .i64 y2] 94)))
      have KW := Lib.hid (HW.out.trans ((lo_on l (below_one w1 (.cells #[.int .i64 y1, .int .i64 y2] 94))).mono HW.out.size))
      obtain ⟨_, g1, g2, _, _⟩ := G1.out
      obtain ⟨_, k1, k2, _, _⟩ := K1.out
      clear l C h1 h2 h3 H0 H1 HW G1
      go_wp2_with fail
      refine (M.out _).mono ?_
      rintro e w2 ⟨rfl, l⟩
      have J0 := Lib.hid ((K0.out.lo l).far (c := w.heap.size + 1) (by omega) (.int .i64 (cutA (o1 * y1) (o2 * y2))) (.int .i64 (cutB (o1 * y1) (o2 * y2))))
      have J1 := Lib.hid (K1.out.lo l)
      have JW := Lib.hid (KW.out.trans (l.mono KW.out.size))
      have NN := Lib.hid (show chF (xs.take (k + 1)) = (cutA (o1 * y1) (o2 * y2), cutB (o1 * y1) (o2 * y2)) from NX.out)
      clear l M K0 K1 KW g1 g2 k1 k2 NX n1 n2 n3 n4
      generalize cutA (o1 * y1) (o2 * y2) = u at *
      generalize cutB (o1 * y1) (o2 * y2) = t at *
      obtain ⟨_, k1, k2, k3, k4⟩ := J1.out
      go_wp2
      go_roundw
      case rel => exact ⟨k + 1, by omega, by go_num, J0, Lib.hid (by rw [NN.out]; exact J1.out.put u t), two_put JW.out (by omega) _ _⟩
      case measure => simp [intOf]; omega
    · obtain rfl : k = xs.length := by omega
      have hge : ¬ (xs.length : Int) < (xs.length : Int) := by omega
      rw [List.take_length] at H1
      obtain ⟨o, ho⟩ : ∃ o, chF xs = o := ⟨_, rfl⟩
      rw [ho] at H1
      have HO := Lib.hid ho
      clear ho
      obtain ⟨o1, o2⟩ := o
      obtain ⟨_, z1, z2, z3, z4⟩ := H0.out
      obtain ⟨_, k1, k2, _, _⟩ := H1.out
      have J0 := Lib.hid (H0.out.put o1 o2)
      have HW := Lib.hid hw
      clear hw
      simp only at k1 k2
      go_wp2
      obtain ⟨_, q0, q1, _, _⟩ := J0.out
      exact bodyPost_ret (v := .agg #[.int .i64 o1, .int .i64 o2]) (by simp [results, Try.results207, go_sem, q0, q1]) rfl ⟨by rw [HO.out], two_put HW.out (Nat.le_refl _) _ _⟩
end Go.Proofs.Ytgjchkcjlmklbaa
