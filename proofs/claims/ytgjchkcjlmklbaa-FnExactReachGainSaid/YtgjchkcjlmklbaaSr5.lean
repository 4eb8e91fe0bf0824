/- The program's kits of stages, the stages at some places, and the tests of a gain. -/
import Derived.Test.YtgjchkcjlmklbaaSr1
import Derived.Test.YtgjchkcjlmklbaaCg3
import Derived.Test.YtgjchkcjlmklbaaChQ
namespace Go.Proofs.Ytgjchkcjlmklbaa
open Go.RowKit
theorem kitClo_any (p : StageV) (r : Bool) (h : stgB p = r) (w : World) : Calls Try.prog 246 #[.agg #[.int .i64 p.k, .int .i64 p.a, .int .i64 p.b]] w fun e w' => e = .returned (.bool (!r)) ∧ Below w.heap.size w w' := by
  have C := Lib.hid (fun w => isStage_is p r h w)
  obtain ⟨k, a, b⟩ := p
  simp only at C ⊢
  clear h
  go_enter Try.func246, Try.ntmps246
  go_wp2_with fail
  refine (C.out _).mono ?_
  rintro e w1 ⟨rfl, l⟩
  go_wp2
  go_ret
  exact ⟨rfl, lo_on (below_one _ _) l⟩
set_option maxRecDepth 100000 in
set_option maxHeartbeats 1600000 in
theorem indexKit_any (v : Value) (xs : List StageV) (w : World) (hr : StgRow w v xs) (h8 : xs.length ≤ 8) :
    Calls Try.prog 259 #[v, .func (.func 246) #[] #[]] w fun e w' => (∃ z : Int, e = .returned (.int .i64 z) ∧ decide (0 ≤ z) = !allB xs) ∧ Below w.heap.size w w' := by
  obtain ⟨av, c, rfl, _, hr⟩ := hr
  go_enter Try.func259, Try.ntmps259
  go_wp2
  go_loopw [8] (fun i wr => ∃ k : Nat, k ≤ xs.length ∧ i = .int .i64 k ∧ Hid (∀ j, j < k → stgB (xs.getD j stZ) = true) ∧ Hid (Below w.heap.size w wr)) (fun i _ => xs.length - (intOf i).toNat)
  case atStart => exact ⟨0, Nat.zero_le _, rfl, Lib.hid (fun j h => by omega), Lib.hid (Below.refl _ _)⟩
  case round =>
    obtain ⟨k, hk, rfl, HL, HB⟩ := hrel
    by_cases hlt : k < xs.length
    · rcases hr with h | ⟨g, off, rfl, hg, hc⟩
      · subst h; simp at hlt
      obtain ⟨h1, h2, h3⟩ := hc k hlt
      rw [← HB.out.cell (p := ⟨g, off + k * 3, none⟩) hg] at h1
      rw [← HB.out.cell (p := ⟨g, off + k * 3 + 1, none⟩) hg] at h2
      rw [← HB.out.cell (p := ⟨g, off + k * 3 + 2, none⟩) hg] at h3
      have hlt' : (k : Int) < (xs.length : Int) := by omega
      have HN := Lib.hid (allB_not (xs := xs) hlt)
      obtain ⟨x, hx⟩ : ∃ x, xs.getD k stZ = x := ⟨_, rfl⟩
      rw [hx] at h1 h2 h3 HN
      have HX := Lib.hid hx
      clear hx hc
      cases hb : stgB x with
      | true =>
        have CK := Lib.hid (kitClo_any x true hb wr)
        have HY := Lib.hid hb
        obtain ⟨p, q, r⟩ := x
        simp only at h1 h2 h3 CK
        clear HN hb
        go_wp2_with (go_at_call 246; refine (CK.out).mono ?_; rintro e w1 ⟨rfl, l1⟩; have LL := Lib.hid (lo_on HB.out l1); clear l1 CK)
        go_roundw
        case rel =>
          refine ⟨k + 1, by omega, by go_num, Lib.hid (fun j hj => ?_), LL⟩
          by_cases e : j = k
          · subst e; rw [HX.out]; exact HY.out
          · exact HL.out j (by omega)
        case measure => simp [intOf]; omega
      | false =>
        have CK := Lib.hid (kitClo_any x false hb wr)
        have HF := Lib.hid (HN.out hb)
        obtain ⟨p, q, r⟩ := x
        simp only at h1 h2 h3 CK
        clear HN hb
        go_wp2_with (go_at_call 246; refine (CK.out).mono ?_; rintro e w1 ⟨rfl, l1⟩; have LL := Lib.hid (lo_on HB.out l1); clear l1 CK)
        go_ret
        exact ⟨⟨_, rfl, by rw [HF.out]; simp⟩, LL.out⟩
    · obtain rfl : k = xs.length := by omega
      have hge : ¬ (xs.length : Int) < (xs.length : Int) := by omega
      have HF := Lib.hid (allB_yes HL.out)
      go_wp2
      go_ret
      exact ⟨⟨_, rfl, by rw [HF.out]; rfl⟩, HB.out⟩
set_option maxHeartbeats 800000 in
theorem containsKit_any (v : Value) (xs : List StageV) (w : World) (hr : StgRow w v xs) (h8 : xs.length ≤ 8) :
    Calls Try.prog 245 #[v, .func (.func 246) #[] #[]] w fun e w' => e = .returned (.bool (!allB xs)) ∧ Below w.heap.size w w' := by
  have I := Lib.hid (indexKit_any v xs w hr h8)
  clear hr h8
  go_enter Try.func245, Try.ntmps245
  go_wp2_with fail
  refine I.out.mono ?_
  rintro e w1 ⟨⟨z, rfl, hz⟩, l1⟩
  have HZ := Lib.hid hz
  have L1 := Lib.hid l1
  clear hz l1 I
  go_wp2
  go_ret
  exact ⟨by rw [← HZ.out]; rfl, L1.out⟩
def eightB (xs : List StageV) : Bool := allB xs && decide (xs.length ≤ 8)
theorem isKit_is (v : Value) (xs : List StageV) (r : Bool) (h : eightB xs = r) (w : World) (hr : StgRow w v xs) (hn : xs.length ≤ 2000000) :
    Calls Try.prog 209 #[v] w fun e w' => e = .returned (.bool r) ∧ Below w.heap.size w w' := by
  subst h
  unfold eightB
  by_cases h8 : xs.length ≤ 8
  · have C := Lib.hid (containsKit_any v xs w hr h8)
    rw [show decide (xs.length ≤ 8) = true by simp; omega, Bool.and_true]
    have h8' : (xs.length : Int) ≤ 8 := by omega
    obtain ⟨a, c, rfl, _⟩ := hr
    generalize allB xs = q at *
    clear h8
    go_enter Try.func209, Try.ntmps209
    go_wp2_with fail
    refine C.out.mono ?_
    rintro e w1 ⟨rfl, l1⟩
    go_wp2
    go_ret
    exact ⟨by cases q <;> rfl, l1⟩
  · rw [show decide (xs.length ≤ 8) = false by simp; omega, Bool.and_false]
    have h8' : ¬ (xs.length : Int) ≤ 8 := by omega
    obtain ⟨a, c, rfl, _⟩ := hr
    clear h8
    go_enter Try.func209, Try.ntmps209
    go_wp2
    go_ret
    exact ⟨rfl, Below.refl _ _⟩
set_option maxRecDepth 100000 in
set_option maxHeartbeats 800000 in
theorem stagesAt_any (v u : Value) (kit : List StageV) (xs : List Int) (w : World) (hr : StgRow w v kit) (hu : IntRow w u xs) (hx : ∀ x ∈ xs, 0 ≤ x ∧ x < kit.length) (hn : kit.length ≤ 100) (h8 : xs.length ≤ 100) :
    Calls Try.prog 210 #[v, u] w fun e w' => ∃ v', e = .returned v' ∧ StgRow w' v' (pickF kit xs) ∧ Below w.heap.size w w' := by
  have HM := make_stgs xs.length (by omega)
  have PL := Lib.hid (pick_len kit xs)
  obtain ⟨a, c, rfl, _, hr⟩ := hr
  obtain ⟨au, cu, rfl, hu⟩ := hu
  go_enter Try.func210, Try.ntmps210
  go_wp2
  go_loopw [13] (fun i wr => ∃ k : Nat, k ≤ xs.length ∧ i = .int .i64 k ∧ Hid (∀ j, j < k → wr.cell? ⟨w.heap.size, j * 3, none⟩ = some (.int .i64 ((pickF kit xs).getD j stZ).k) ∧ wr.cell? ⟨w.heap.size, j * 3 + 1, none⟩ = some (.int .i64 ((pickF kit xs).getD j stZ).a) ∧ wr.cell? ⟨w.heap.size, j * 3 + 2, none⟩ = some (.int .i64 ((pickF kit xs).getD j stZ).b)) ∧ Hid (∀ j, k * 3 ≤ j → j < xs.length * 3 → wr.cell? ⟨w.heap.size, j, none⟩ = some (.int .i64 0)) ∧ Hid (∀ j, wr.frozen? ⟨w.heap.size, j, none⟩ = false) ∧ Below w.heap.size w wr ∧ w.heap.size + 1 ≤ wr.heap.size) (fun i _ => xs.length - (intOf i).toNat)
  case atStart => exact ⟨0, Nat.zero_le _, rfl, Lib.hid (fun j h => by omega), Lib.hid (fun j _ h => by rw [World.cell?_alloc_at _ _ _ _ rfl]; exact made_zero3 _ _ h), Lib.hid (fun j => World.frozen?_alloc_at _ _ _ _ rfl), (Below.refl _ _).alloc (Nat.le_refl _) _, by simp⟩
  case round =>
    obtain ⟨k, hk, rfl, H1, H2, H3, hb, hs1⟩ := hrel
    clear HM
    by_cases hlt : k < xs.length
    · rcases hu with h | ⟨g, off, rfl, hg, hc⟩
      · subst h; simp at hlt
      have hxm := hx (xs.getD k 0) (by simp only [List.getD, List.getElem?_eq_getElem hlt, Option.getD_some]; exact List.getElem_mem hlt)
      have h1 := hc k hlt
      rw [← hb.cell (p := ⟨g, off + k, none⟩) hg] at h1
      have hlt' : (k : Int) < (xs.length : Int) := by omega
      have PT : (pickF kit xs).getD k stZ = kit.getD (xs.getD k 0).toNat stZ := by
        unfold pickF
        simp [List.getD, List.getElem?_eq_getElem hlt]
      generalize xs.getD k 0 = x at h1 hxm PT
      obtain ⟨m, rfl⟩ : ∃ m : Nat, x = (m : Int) := ⟨x.toNat, by omega⟩
      rw [Int.toNat_natCast] at PT
      have hm : m < kit.length := by omega
      have hm' : (m : Int) < (kit.length : Int) := hxm.2
      rcases hr with h | ⟨g2, off2, rfl, hg2, hc2⟩
      · subst h; simp at hm
      obtain ⟨h2, h3, h4⟩ := hc2 m hm
      rw [← hb.cell (p := ⟨g2, off2 + m * 3, none⟩) hg2] at h2
      rw [← hb.cell (p := ⟨g2, off2 + m * 3 + 1, none⟩) hg2] at h3
      rw [← hb.cell (p := ⟨g2, off2 + m * 3 + 2, none⟩) hg2] at h4
      rw [← PT] at h2 h3 h4
      obtain ⟨y, hy⟩ : ∃ y, (pickF kit xs).getD k stZ = y := ⟨_, rfl⟩
      rw [hy] at h2 h3 h4
      have HX := Lib.hid hy
      obtain ⟨p, q, r⟩ := y
      simp only at h2 h3 h4
      have z1 := H2.out (k * 3) (Nat.le_refl _) (by omega)
      have z2 := H2.out (k * 3 + 1) (by omega) (by omega)
      have z3 := H2.out (k * 3 + 2) (by omega) (by omega)
      have f1 := H3.out (k * 3)
      have f2 := H3.out (k * 3 + 1)
      have f3 := H3.out (k * 3 + 2)
      have TS := Lib.hid (three_set wr w.heap.size (k * 3) (.int .i64 p) (.int .i64 q) (.int .i64 r) z1 z2 z3)
      have HB := Lib.hid hb
      clear hc hc2 PT hy hb hxm
      go_wp2
      go_roundw
      case rel =>
        obtain ⟨t1, t2, t4, t3⟩ := TS.out
        refine ⟨k + 1, by omega, by go_num, Lib.hid (fun j hj => ?_), Lib.hid (fun j hj hjn => ?_), Lib.hid (fun j => ?_), ?_, by simp; omega⟩
        · by_cases e : j = k
          · subst e
            rw [HX.out]
            exact ⟨t1, t2, t4⟩
          · rw [t3 _ (by omega) (by omega) (by omega), t3 _ (by omega) (by omega) (by omega), t3 _ (by omega) (by omega) (by omega)]
            exact H1.out j (by omega)
        · rw [t3 _ (by omega) (by omega) (by omega)]
          exact H2.out j (by omega) hjn
        · rw [World.frozen?_setCell, World.frozen?_setCell, World.frozen?_setCell]
          exact H3.out j
        · exact ((HB.out.setCell (p := ⟨w.heap.size, k * 3, none⟩) (Nat.le_refl _) _).setCell (p := ⟨w.heap.size, k * 3 + 1, none⟩) (Nat.le_refl _) _).setCell (p := ⟨w.heap.size, k * 3 + 2, none⟩) (Nat.le_refl _) _
      case measure => simp [intOf]; omega
    · obtain rfl : k = xs.length := by omega
      have hge : ¬ (xs.length : Int) < (xs.length : Int) := by omega
      go_wp2
      go_ret
      exact ⟨_, rfl, ⟨_, _, by rw [PL.out]; rfl, by rw [PL.out]; exact Nat.le_refl _, .inr ⟨w.heap.size, 0, rfl, hs1, fun j hj => by rw [PL.out] at hj; rw [Nat.zero_add]; exact H1.out j hj⟩⟩, hb⟩
set_option maxHeartbeats 800000 in
theorem reaches_any (g1 g2 n : Int) (w : World) (a0 : -9223372036854775808 ≤ n * g2) (a1 : n * g2 ≤ 9223372036854775807) :
    Calls Try.prog 145 #[.agg #[.int .i64 g1, .int .i64 g2], .int .i64 n] w fun e w' => e = .returned (.bool (doesB false (g1, g2) n)) ∧ Below w.heap.size w w' := by
  have E : doesB false (g1, g2) n = decide (n * g2 ≤ g1) := by
    unfold doesB
    simp only [Bool.not_false, Bool.true_and]
    rw [← Bool.decide_or]
    exact decide_eq_decide.2 (by omega)
  rw [E]
  by_cases h : n * g2 ≤ g1
  all_goals go_enter Try.func145, Try.ntmps145
  all_goals go_wp2
  all_goals go_ret
  all_goals exact ⟨by simp [h], below_one _ _⟩
end Go.Proofs.Ytgjchkcjlmklbaa
