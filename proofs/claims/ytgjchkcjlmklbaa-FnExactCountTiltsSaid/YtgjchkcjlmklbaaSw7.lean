/- The contracts of the program's moments of all tilts, of the least of numbers, and of a tilt by its number. -/
import Derived.Test.YtgjchkcjlmklbaaSw2
import Derived.Test.YtgjchkcjlmklbaaSr1
namespace Go.Proofs.Ytgjchkcjlmklbaa
open Go.RowKit
theorem make_cap (n : Nat) (hn : n ≤ 2000000) (u : World) :
    (Instr.makeSlice 22 (.int .i64 0) (.int .i64 (n : Int))).run Try.prog u = .ok (.slice (some ⟨u.heap.size, 0, none⟩) 0 n) (u.alloc (.cells (madeCells #[.int .i64 0] n) 3)) := by
  obtain ⟨i0, hi, hz0, hz1, hz2⟩ := info_parts infoInt
  have h := run_make (P := Try.prog) u 22 3 i0 (.int .i64 0) Try.underlying22 hi hz0 .i64 .i64 0 (n : Int) (by omega) (by omega) (by rw [hz2]; omega) (by omega)
  simpa [hz1, Value.cells] using h
theorem cell_two_new9 (u : World) (x y : Value) (t : TypeId) : ∀ j v, [x, y][j]? = some v → (u.alloc (.cells #[x, y] t)).cell? ((⟨u.heap.size, 0, none⟩ : Addr).add j) = some v := by
  intro j v hj
  rw [Go.WideShapes.add_plain, Nat.zero_add, World.cell?_alloc_at _ _ _ _ rfl]
  simpa using hj
theorem made_size (n : Nat) : (madeCells #[.int .i64 0] n).size = n * 1 := by
  rw [← Array.length_toList, toList_madeCells_one]; simp
theorem own_made (w : World) (B n : Nat) (hB : B ≤ w.heap.size) (hn : n ≤ 2000000) : OwnI (w.alloc (.cells (madeCells #[.int .i64 0] n) 3)) B (.slice (some ⟨w.heap.size, 0, none⟩) 0 n) [] :=
  World.ownsRow_made w _ n hB (by unfold maxLen; omega) (made_size n)
theorem ownI_mono {w : World} {B C : Nat} {v : Value} {xs : List Int} (h : OwnI w B v xs) (hC : C ≤ B) : OwnI w C v xs := by
  unfold OwnI at *
  refine ⟨h.1, ?_⟩
  rcases h.2 with h | ⟨g, cap, cur, e, hb, r⟩
  · exact .inl h
  · exact .inr ⟨g, cap, cur, e, Nat.le_trans hC hb, r⟩
theorem ownI_snoc2 {w : World} {B k : Nat} {v : Value} {ys : List Int} {x y : Int} (h : w.ownsRow B 3 1 v (k + 2) (icells ys ++ [.int .i64 x, .int .i64 y])) (hk : ys.length = k) : OwnI w B v (ys ++ [x, y]) := by
  unfold OwnI
  rw [List.length_append, hk]
  unfold icells at *
  rw [List.map_append]
  exact h
theorem ownI_lo {w w' : World} {B : Nat} {v : Value} {xs : List Int} (h : OwnI w B v xs) (l : Below w.heap.size w w') : OwnI w' B v xs := by
  unfold OwnI at *
  refine ⟨h.1, ?_⟩
  rcases h.2 with h | ⟨g, cap, cur, e, hb, hg, r⟩
  · exact .inl h
  · exact .inr ⟨g, cap, cur, e, hb, (l.block g (Array.getElem?_eq_some_iff.1 hg).1).trans hg, r⟩
/-- The moments of the first j tilts, each lengthened by both signs. -/
def bothF (t : Nat → Int) (k j : Nat) : List Int := ((momsF t k).take j).flatMap (fun m => [m - t k, m + t k])
theorem both_zero (t : Nat → Int) (k : Nat) : bothF t k 0 = [] := by simp [bothF]
theorem both_all (t : Nat → Int) (k : Nat) : bothF t k (2 ^ k) = momsF t (k + 1) := by
  unfold bothF
  rw [List.take_of_length_le (by rw [moms_len]; exact Nat.le_refl _)]
  rfl
theorem both_next (t : Nat → Int) (k j : Nat) (h : j < 2 ^ k) : bothF t k (j + 1) = bothF t k j ++ [(momsF t k).getD j 0 - t k, (momsF t k).getD j 0 + t k] := moms_take t k j h
theorem both_len (t : Nat → Int) (k j : Nat) (h : j ≤ 2 ^ k) : (bothF t k j).length = 2 * j := by
  unfold bothF
  rw [two_len (fun m => m - t k) (fun m => m + t k), List.length_take, moms_len]
  omega
theorem moms_bound {t : Nat → Int} (h : ∀ i, 0 ≤ t i ∧ t i ≤ 594) (k j : Nat) (hj : j < 2 ^ k) (hk : k ≤ 12) : -7128 ≤ (momsF t k).getD j 0 ∧ (momsF t k).getD j 0 ≤ 7128 := by
  rw [moms_at t k j hj]
  have a := tm_bound t (sgF k j) (fun i => (h i).1) (fun i => sg_sign k j i) k
  have b := tot_bound h k
  omega
set_option maxRecDepth 100000 in
set_option maxHeartbeats 6400000 in
theorem tiltMoments_yes (u v : Value) (ws qs : List Int) (w : World) (hu : IntRow w u ws) (hv : IntRow w v qs) (hn : ws.length ≤ 2000000) (hm : qs.length ≤ 2000000) (h : armB ws qs = true) :
    Calls Try.prog 124 #[u, v] w fun e w' => ∃ x, e = .returned (.tuple #[x, .bool true]) ∧ OwnI w' w.heap.size x (momsF (tnF ws qs) ws.length) ∧ Below w.heap.size w w' := by
  obtain ⟨⟨hw, ha⟩, hl⟩ := (armB_iff ws qs).1 h
  have h12 := hw.short
  obtain ⟨i0, hi, hz0, hz1, hz2⟩ := info_parts infoInt
  have HA := Lib.hid (haveArms_is u v ws qs true h w hu hv hn hm)
  have HB := Lib.hid (fun k => And.intro (tn_bound hw ha hl k).1 (tn_bound hw ha hl k).2.1)
  have HTN := Lib.hid (fun k => show ws.getD k 0 * qs.getD k 0 = tnF ws qs k from rfl)
  have MK := Lib.hid (fun n hn w => make_cap n hn w)
  obtain ⟨a, c, rfl, hu⟩ := hu
  obtain ⟨a1, c1, rfl, hv⟩ := hv
  rw [hl] at hv HA ⊢
  generalize tnF ws qs = t at *
  clear hw ha h
  go_enter Try.func124, Try.ntmps124
  go_wp2_with fail
  refine HA.out.mono ?_
  rintro e w1 ⟨rfl, l1⟩
  have R0 := Lib.hid (show OwnI (w1.alloc (.cells #[.int .i64 0] 3)) w.heap.size (.slice (some ⟨w1.heap.size, 0, none⟩) 1 1) (momsF t 0) from ownI_lit1 w1 0 w.heap.size l1.size)
  have L0 := Lib.hid (show Below w.heap.size w (w1.alloc (.cells #[.int .i64 0] 3)) from l1.alloc l1.size _)
  clear l1 HA
  go_wp2
  go_loopw [6, 20] (fun x y wr => ∃ k : Nat, k ≤ ws.length ∧ y = .int .i64 k ∧ Hid (OwnI wr w.heap.size x (momsF t k)) ∧ Hid (Below w.heap.size w wr)) (fun _ y _ => ws.length - (intOf y).toNat)
  case atStart => exact ⟨0, Nat.zero_le _, rfl, R0, L0⟩
  case round =>
    obtain ⟨k, hk, rfl, HO, HW⟩ := hrel
    obtain ⟨wq, rfl⟩ : ∃ wq : World, wq = wr := ⟨_, rfl⟩
    clear R0 L0
    by_cases hlt : k < ws.length
    case neg =>
      obtain rfl : k = ws.length := by omega
      have hge : ¬ (ws.length : Int) < (ws.length : Int) := by omega
      go_wp2
      go_ret2
      exact ⟨_, rfl, HO.out, HW.out⟩
    have hlt' : (k : Int) < (ws.length : Int) := by omega
    rcases hu with h | ⟨g, off, rfl, hg, hc⟩
    · subst h; simp at hlt
    rcases hv with h | ⟨g1, off1, rfl, hg1, hc1⟩
    · subst h; simp at hl; omega
    have h1 := hc k hlt
    have h2 := hc1 k hlt
    rw [← HW.out.cell (p := ⟨g, off + k, none⟩) hg] at h1
    rw [← HW.out.cell (p := ⟨g1, off1 + k, none⟩) hg1] at h2
    have htn := HTN.out k
    have hb := HB.out k
    generalize ws.getD k 0 = x at h1 htn
    generalize qs.getD k 0 = y at h2 htn
    have hpow := two_pow_le (show k ≤ 12 by omega)
    have HBN := Lib.hid (fun j (h : j < 2 ^ k) => both_next t k j h)
    have HBL := Lib.hid (fun j (h : j ≤ 2 ^ k) => both_len t k j h)
    have HBA := Lib.hid (both_all t k)
    have HMB := Lib.hid (fun j (h : j < 2 ^ k) => moms_bound HB.out k j h (by omega))
    have hml := moms_len t k
    obtain ⟨M, hM⟩ : ∃ M, 2 ^ k = M := ⟨_, rfl⟩
    rw [hM] at hpow HBN HBL HBA HMB hml
    have HR := Lib.hid HO.out.mine.row
    obtain ⟨am, cm, hvm, hrm⟩ := HO.out.mine.row
    rw [hml] at hvm
    have HRM := Lib.hid hrm
    obtain ⟨tk, htk⟩ : ∃ z, t k = z := ⟨_, rfl⟩
    rw [htk] at htn hb HBN
    have t0 : -9223372036854775808 ≤ x * y := by omega
    have t1 : x * y ≤ 9223372036854775807 := by omega
    have hMK := MK.out (2 * M) (by omega)
    rw [show ((2 * M : Nat) : Int) = 2 * (M : Int) by omega] at hMK
    have O0 := Lib.hid (show OwnI (wq.alloc (.cells (madeCells #[.int .i64 0] (2 * M)) 3)) wq.heap.size (.slice (some ⟨wq.heap.size, 0, none⟩) 0 (2 * M)) (bothF t k 0) by rw [both_zero]; exact own_made wq wq.heap.size (2 * M) (Nat.le_refl _) (by omega))
    have L0 := Lib.hid ((Below.refl wq.heap.size wq).alloc (Nat.le_refl _) (.cells (madeCells #[.int .i64 0] (2 * M)) 3))
    subst hvm
    clear hc hc1 hM htk hrm HTN
    go_wp2
    go_loopw [10, 37] (fun mo y ws => ∃ j : Nat, j ≤ M ∧ y = .int .i64 j ∧ Hid (OwnI ws wq.heap.size mo (bothF t k j)) ∧ Hid (Below wq.heap.size wq ws)) (fun _ y _ => M - (intOf y).toNat)
    case atStart => exact ⟨0, Nat.zero_le _, rfl, O0, L0⟩
    case round =>
      obtain ⟨j, hj, rfl, HP, HL⟩ := hrel
      clear O0 L0 hMK
      by_cases hjl : j < M
      case neg =>
        obtain rfl : j = M := by omega
        have hge : ¬ (j : Int) < (j : Int) := by omega
        have HN := Lib.hid (show OwnI wr w.heap.size u10 (momsF t (k + 1)) by rw [← HBA.out]; exact ownI_mono HP.out HW.out.size)
        have HNL := Lib.hid (HW.out.trans (HL.out.mono HW.out.size))
        go_wp2
        go_roundw
        case rel => exact ⟨k + 1, by omega, by go_num, HN, HNL⟩
        case measure => simp [intOf]; omega
      have hjl' : (j : Int) < (M : Int) := by omega
      have hmb := HMB.out j hjl
      have hbn := HBN.out j hjl
      have hbl := HBL.out j (by omega)
      have hcell : ∃ gm om, am = some ⟨gm, om, none⟩ ∧ wr.cell? ⟨gm, om + j, none⟩ = some (.int .i64 ((momsF t k).getD j 0)) := by
        rcases HRM.out with h | ⟨gm, om, e, hgm, hcm⟩
        · rw [h] at hml; simp at hml; omega
        · exact ⟨gm, om, e, by rw [HL.out.cell (p := ⟨gm, om + j, none⟩) hgm]; exact hcm j (by omega)⟩
      obtain ⟨gm, om, rfl, hcm⟩ := hcell
      generalize (momsF t k).getD j 0 = z at hcm hmb hbn
      have HBN2 := Lib.hid hbn
      have e0 : -9223372036854775808 ≤ z - tk := by omega
      have e1 : z - tk ≤ 9223372036854775807 := by omega
      have e2 : -9223372036854775808 ≤ z + tk := by omega
      have e3 : z + tk ≤ 9223372036854775807 := by omega
      have HLB := Lib.hid hbl
      have ho2 := HP.out
      unfold OwnI at ho2
      rw [hbl] at ho2
      have OB := Lib.hid (fun g hg => (ho2.lt g hg).1)
      have hws := HL.out.size
      clear hbn hbl hmb HBN HBL HMB HRM HR HBA hml
      go_wp2_with (at_builtin; refine wpList_append_own_at _ rfl _ _ 22 rfl wq.heap.size 3 i0 (.int .i64 0) 1 8 Try.underlying22 hi hz0 hz1 hz2 rfl (by decide) _ _ _ rfl (ho2.alloc _) ⟨wr.heap.size, 0, none⟩ 2 2 [.int .i64 (z - tk), .int .i64 (z + tk)] rfl rfl (cell_two_new9 _ _ _ _) (by simp [Value.oneCell']) (by unfold maxLen; omega) (by omega) (by simp; omega) ?_; intro v3 w3 hown3 hgrow3 hnil3 hloc3)
      have HN := Lib.hid (show OwnI w3 wq.heap.size v3 (bothF t k (j + 1)) by rw [HBN2.out]; exact ownI_snoc2 hown3 HLB.out)
      have HL3 := Lib.hid (show Below wq.heap.size wq w3 from (HL.out.alloc HL.out.size _).grown hgrow3 (by simp; omega) OB.out)
      refine ⟨⟨j + 1, by omega, by first | rfl | go_num, HN, HL3⟩, ?_⟩
      simp [intOf]
      omega
end Go.Proofs.Ytgjchkcjlmklbaa
