/- The model's l3Tells, TellsHeavy and TellsBoth. -/
import Derived.Test.YtgdgiecajflmaabTells3
import Derived.Test.YtgdgiecajflmaabTabLaw
import Derived.Maps.AppendAt
import Derived.WalkSpells
import Derived.Deep.QuietTactic
import Derived.BigQuiet
namespace Go.Proofs.Ytgdgiecajflmaab
open Go.RowKit Go.Maps
def zsF (both : Bool) : List Int := if both = true then [1, -1] else [1]
def outP (xss : List (List Int)) (p : Int × Int) : List Int := outF xss p.1.toNat p.2
/-- The outcomes of the first k coins, in order. -/
def outsF (both : Bool) (xss : List (List Int)) (k : Nat) : List (List Int) := ((doneP (zsF both) k).reverse).map (outP xss)
theorem outs_len (both : Bool) (xss : List (List Int)) (k : Nat) : (outsF both xss k).length = k * (zsF both).length := by rw [outsF, List.length_map, List.length_reverse, doneP_len]
theorem outs_heavy (xss : List (List Int)) (k : Nat) : outsF false xss (k + 1) = outsF false xss k ++ [outF xss k 1] := by
  simp [outsF, doneP, rowP, zsF, outP]
theorem outs_both (xss : List (List Int)) (k : Nat) : outsF true xss (k + 1) = (outsF true xss k ++ [outF xss k 1]) ++ [outF xss k (-1)] := by
  simp [outsF, doneP, rowP, zsF, outP]
theorem quiet_at {P : Program} {f : FuncId} {args : Array Value} {w : World} {v : Value} (h : ∀ m, Calls P f args (w.drewN m) fun e w' => e = .returned v ∧ ∃ q, w' = (w.drewN m).drewN q) (n x : Nat) :
    Calls P f args (w.drewN (n + x)) fun e w'' => e = .returned v ∧ ∃ y, w'' = w.drewN (n + y) :=
  (h (n + x)).mono fun _ _ ⟨he, q, hq⟩ => ⟨he, x + q, by rw [hq, World.drewN_drewN, Nat.add_assoc]⟩
def ApartF (os : List (List Int)) : Prop := ∀ a, a < os.length → ∀ b, b < a → os.getD a [] ≠ os.getD b []
set_option maxRecDepth 100000 in
set_option maxHeartbeats 6400000 in
theorem l3Tells_any (N : Nat) (v : Value) (xss : List (List Int)) (both : Bool) (w : World) (hr : TabRow w v xss) (hn : 1 ≤ N) (hN : N ≤ 40) (hp : PlanF (N : Int) xss) :
    Calls Try.prog 91 #[.int .i64 (N : Int), v, .bool both] w fun e w' => e = .returned (.bool (propB (ApartF (outsF both xss N)))) ∧ Below w.heap.size w w' := by
  obtain ⟨i0, hi, hz0, hz1, hz2⟩ := info_parts infoIntS
  have OC := Lib.hid (fun (k : Nat) (heavy : Bool) w1 (l : Below w.heap.size w w1) (hc : (k : Int) < (N : Int)) => l3Outcome_mine (N : Int) v xss k heavy w1 (hr.lo l) hp hc)
  have R0 := Lib.hid (show OwnTabR (w.alloc (.cells #[] 30)) w.heap.size (.slice (some ⟨w.heap.size, 0, none⟩) 0 0) [] from ⟨[], rfl, World.ownsRow_lit w #[] 0 (Nat.le_refl _) (by decide) rfl, fun j hj => by simp at hj⟩)
  have L0 := Lib.hid ((Below.refl w.heap.size w).alloc (Nat.le_refl _) (.cells #[] 30))
  have hlen5 : ∀ p, (outP xss p).length ≤ 5 := fun p => by rw [outP, outF_len]; exact hp.short
  have HL5 := Lib.hid hlen5
  obtain ⟨r0, hr0⟩ : ∃ r, propB (ApartF (outsF both xss N)) = r := ⟨_, rfl⟩
  rw [hr0]
  have HR0 := Lib.hid hr0
  clear hr hp hlen5 hr0
  go_enter Try.func91, Try.ntmps91
  go_wp2
  go_loopw [7, 8] (fun t i wr => ∃ k : Nat, k ≤ N ∧ i = .int .i64 k ∧ Hid (OwnTabR wr w.heap.size t (outsF both xss k)) ∧ Hid (Below w.heap.size w wr)) (fun _ i _ => N - (intOf i).toNat)
  case atStart => exact ⟨0, Nat.zero_le _, rfl, R0, L0⟩
  case round =>
    obtain ⟨k, hk, rfl, HT, HW⟩ := hrel
    obtain ⟨wq, rfl⟩ : ∃ wq : World, wq = wr := ⟨_, rfl⟩
    clear R0 L0
    by_cases hlt : k < N
    · have hlt' : (k : Int) < (N : Int) := by omega
      have C1 := Lib.hid (OC.out k true wq HW.out hlt')
      have hws := HW.out.size
      have hol := outs_len both xss k
      have hz2b : (zsF both).length ≤ 2 := by unfold zsF; split <;> simp
      have hA : k * (zsF both).length ≤ 80 := by
        have := Nat.mul_le_mul (show k ≤ 40 by omega) hz2b
        omega
      have HOL := Lib.hid hol
      obtain ⟨A, hA2⟩ : ∃ A, k * (zsF both).length = A := ⟨_, rfl⟩
      rw [hA2] at hA HOL
      have HSH := Lib.hid (fun (e : both = false) => show outsF both xss (k + 1) = outsF both xss k ++ [outF xss k 1] by rw [e]; exact outs_heavy xss k)
      have HSB := Lib.hid (fun (e : both = true) => show outsF both xss (k + 1) = (outsF both xss k ++ [outF xss k 1]) ++ [outF xss k (-1)] by rw [e]; exact outs_both xss k)
      generalize outsF both xss k = os at HT HOL HSH HSB
      clear hol hz2b hA2
      go_wp2_with fail
      refine C1.out.mono ?_
      rintro e w1 ⟨u1, rfl, o1, l1⟩
      have O1 := Lib.hid o1
      have L1 := Lib.hid l1
      have hs1 := l1.size
      obtain ⟨us, hul, hown0, hrr⟩ := HT.out
      have hown1 := ownsRow_lo hown0 l1
      have HR1 := Lib.hid (fun j (hj : j < os.length) => show ∃ u, us[j]? = some u ∧ InnerR w1 u7.ownBlock u (os.getD j []) from by
        obtain ⟨u, hu, hh⟩ := hrr j hj
        exact ⟨u, hu, hh.lo l1⟩)
      have HO0 := Lib.hid hown0
      have HUL := Lib.hid hul
      rw [HOL.out] at hown1
      obtain ⟨ua, uc, rfl⟩ := ownI_slice o1
      obtain ⟨m, hm⟩ : ∃ m, (outF xss k (kindF true)).length = m := ⟨_, rfl⟩
      rw [hm] at O1 ⊢
      have hwsz : w.heap.size ≤ w1.heap.size := Nat.le_trans hws hs1
      clear o1 l1 hown0 hrr hul HT C1 hm
      cases both with
      | false =>
        go_wp2_with (at_builtin; refine wpList_append_own_at _ rfl _ _ 22 rfl w.heap.size 30 i0 (.slice none 0 0) 1 24 Try.underlying22 hi hz0 hz1 hz2 rfl (by decide) _ _ _ rfl (hown1.alloc _) ⟨w1.heap.size, 0, none⟩ 1 1 [.slice ua m uc] rfl rfl (cell_one_new _ _ _) (fun x hx => by simp at hx; subst hx; rfl) (by unfold maxLen; omega) (by omega) (by simp; omega) ?_; intro v2 w2 hown2 hgrow2 hnil2 hloc2)
        obtain ⟨T2, B2⟩ := tabR_step HW.out L1.out O1.out HOL.out HUL.out HO0.out HR1.out hown2 hgrow2 hloc2 hws
        have HN := Lib.hid (show OwnTabR w2 w.heap.size v2 (outsF false xss (k + 1)) by rw [HSH.out (by first | trivial | rfl)]; exact T2)
        have HL := Lib.hid B2
        clear T2 B2 hown2 hgrow2 hnil2 hloc2 hown1
        go_wp2
        go_roundw
        case rel => exact ⟨k + 1, by omega, by go_num, HN, HL⟩
        case measure => simp [intOf]; omega
      | true =>
        go_wp2_with (at_builtin; refine wpList_append_own_at _ rfl _ _ 22 rfl w.heap.size 30 i0 (.slice none 0 0) 1 24 Try.underlying22 hi hz0 hz1 hz2 rfl (by decide) _ _ _ rfl (hown1.alloc _) ⟨w1.heap.size, 0, none⟩ 1 1 [.slice ua m uc] rfl rfl (cell_one_new _ _ _) (fun x hx => by simp at hx; subst hx; rfl) (by unfold maxLen; omega) (by omega) (by simp; omega) ?_; intro v2 w2 hown2 hgrow2 hnil2 hloc2)
        obtain ⟨T2, B2⟩ := tabR_step HW.out L1.out O1.out HOL.out HUL.out HO0.out HR1.out hown2 hgrow2 hloc2 hws
        have HL2 := Lib.hid B2
        have HT2 := Lib.hid T2
        have C2 := Lib.hid (OC.out k false w2 B2 hlt')
        have hws2 := B2.size
        clear T2 B2 hown2 hgrow2 hnil2 hloc2 hown1 HUL HO0 HR1
        go_wp2_with fail
        refine C2.out.mono ?_
        rintro e w3 ⟨u3, rfl, o3, l3⟩
        have O3 := Lib.hid o3
        have L3 := Lib.hid l3
        have hs3 := l3.size
        obtain ⟨us3, hul3, hown3, hrr3⟩ := HT2.out
        have hown4 := ownsRow_lo hown3 l3
        have HR3 := Lib.hid (fun j (hj : j < (os ++ [outF xss k (kindF true)]).length) => show ∃ u, us3[j]? = some u ∧ InnerR w3 v2.ownBlock u ((os ++ [outF xss k (kindF true)]).getD j []) from by
          obtain ⟨u, hu, hh⟩ := hrr3 j hj
          exact ⟨u, hu, hh.lo l3⟩)
        have HO3 := Lib.hid hown3
        have HUL3 := Lib.hid hul3
        have HOL3 := Lib.hid (show (os ++ [outF xss k (kindF true)]).length = A + 1 by rw [List.length_append, HOL.out]; rfl)
        rw [HOL3.out] at hown4
        obtain ⟨ub, ud, rfl⟩ := ownI_slice o3
        obtain ⟨m3, hm3⟩ : ∃ m, (outF xss k (kindF false)).length = m := ⟨_, rfl⟩
        rw [hm3] at O3 ⊢
        have hwsz3 : w.heap.size ≤ w3.heap.size := Nat.le_trans hws2 hs3
        clear o3 l3 hown3 hrr3 hul3 C2 hm3
        go_wp2_with (at_builtin; refine wpList_append_own_at _ rfl _ _ 22 rfl w.heap.size 30 i0 (.slice none 0 0) 1 24 Try.underlying22 hi hz0 hz1 hz2 rfl (by decide) _ _ _ rfl (hown4.alloc _) ⟨w3.heap.size, 0, none⟩ 1 1 [.slice ub m3 ud] rfl rfl (cell_one_new _ _ _) (fun x hx => by simp at hx; subst hx; rfl) (by unfold maxLen; omega) (by omega) (by simp; omega) ?_; intro v4 w4 hown2 hgrow2 hnil2 hloc2)
        obtain ⟨T4, B4⟩ := tabR_step HL2.out L3.out O3.out HOL3.out HUL3.out HO3.out HR3.out hown2 hgrow2 hloc2 hws2
        have HN := Lib.hid (show OwnTabR w4 w.heap.size v4 (outsF true xss (k + 1)) by rw [HSB.out (by first | trivial | rfl)]; exact T4)
        have HL := Lib.hid B4
        clear T4 B4 hown2 hgrow2 hnil2 hloc2 hown4
        go_wp2
        go_roundw
        case rel => exact ⟨k + 1, by omega, by go_num, HN, HL⟩
        case measure => simp [intOf]; omega
    · obtain rfl : k = N := by omega
      have hge : ¬ (k : Int) < (k : Int) := by omega
      have hol := outs_len both xss k
      have hz1b : 1 ≤ (zsF both).length ∧ (zsF both).length ≤ 2 := by unfold zsF; split <;> simp
      have hA : 1 ≤ (outsF both xss k).length ∧ (outsF both xss k).length ≤ 80 := by
        rw [hol]
        have h1 := Nat.mul_le_mul (show k ≤ 40 by omega) hz1b.2
        have h2 := Nat.mul_le_mul hn hz1b.1
        omega
      have H5 := Lib.hid (fun j => show ((outsF both xss k).getD j []).length ≤ 5 from by
        by_cases h : j < (outsF both xss k).length
        · have : (outsF both xss k).getD j [] ∈ outsF both xss k := by simp only [List.getD, List.getElem?_eq_getElem h, Option.getD_some]; exact List.getElem_mem h
          obtain ⟨p, _, e⟩ := List.mem_map.1 this
          rw [← e]; exact HL5.out p
        · simp [List.getD, Nat.not_lt.1 h])
      generalize outsF both xss k = os at *
      obtain ⟨g, c, rfl, hg, hc⟩ := HT.out.open (by omega)
      have HC := Lib.hid hc
      have HD := Lib.hid (show ∀ r, (r = true ↔ ApartF os) → r0 = r from fun r h => by
        rw [← HR0.out]
        cases r
        · exact propB_no (fun e => by have := h.2 e; cases this)
        · exact propB_yes (h.1 rfl))
      clear HR0
      have HAP := Lib.hid (show (∀ a, a < os.length → ∀ b, b < a → os.getD a [] ≠ os.getD b []) ↔ ApartF os from Iff.rfl)
      obtain ⟨A, hA2⟩ : ∃ A, os.length = A := ⟨_, rfl⟩
      rw [hA2] at hA HC HAP ⊢
      obtain ⟨hA0, hA1⟩ := hA
      clear hc hol hz1b hA2 HT HL5
      go_wp2
      go_loopw [9] (fun i wr => ∃ a n : Nat, a ≤ A ∧ i = .int .i64 a ∧ Hid (∀ x, x < a → ∀ b, b < x → os.getD x [] ≠ os.getD b []) ∧ wr = wq.drewN n) (fun i _ => A - (intOf i).toNat)
      case atStart => exact ⟨0, 0, Nat.zero_le _, rfl, Lib.hid (fun x h => by omega), rfl⟩
      case round =>
        obtain ⟨a, n, ha, rfl, HX, rfl⟩ := hrel
        by_cases hal : a < A
        · have hal' : (a : Int) < (A : Int) := by omega
          go_wp2
          go_loopw [10] (fun i wr => ∃ b n : Nat, b ≤ a ∧ i = .int .i64 b ∧ Hid (∀ y, y < b → os.getD a [] ≠ os.getD y []) ∧ wr = wq.drewN n) (fun i _ => a - (intOf i).toNat)
          case atStart => exact ⟨0, n, Nat.zero_le _, rfl, Lib.hid (fun x h => by omega), rfl⟩
          case round =>
            obtain ⟨b, n, hb, rfl, HY, rfl⟩ := hrel
            by_cases hbl : b < a
            · have hbl' : (b : Int) < (a : Int) := by omega
              have hbA : (b : Int) < (A : Int) := by omega
              obtain ⟨ua, c1, r1⟩ := HC.out a hal
              obtain ⟨ub, c2, r2⟩ := HC.out b (by omega)
              have SM := Lib.hid (fun m => l1Same_any ua ub (os.getD a []) (os.getD b []) (wq.drewN m) (r1.lo ⟨rfl, rfl, rfl, Nat.le_refl _, fun _ _ => rfl⟩) (r2.lo ⟨rfl, rfl, rfl, Nat.le_refl _, fun _ _ => rfl⟩) (by have := H5.out a; omega))
              have HE := Lib.hid (show os.getD a [] ≠ os.getD b [] → ∀ y, y < b + 1 → os.getD a [] ≠ os.getD y [] from fun h y hy => by
                by_cases e : y = b
                · rw [e]; exact h
                · exact HY.out y (by omega))
              have HF := Lib.hid (show os.getD a [] = os.getD b [] → ¬ ApartF os from fun h e => HAP.out.2 e a hal b hbl h)
              clear r1 r2
              by_cases hxy : os.getD a [] = os.getD b []
              · rw [show decide (os.getD a [] = os.getD b []) = true from decide_eq_true hxy] at SM
                have hr : r0 = false := HD.out false ⟨fun h => by simp at h, fun h => absurd h (HF.out hxy)⟩
                clear hxy
                go_wp2
                go_quiet ((go_at_call 88; exact quiet_at SM.out _ _))
                go_wp2
                go_ret
                exact ⟨by first | rfl | (rw [hr]; rfl), HW.out.trans ⟨rfl, rfl, rfl, Nat.le_refl _, fun _ _ => rfl⟩⟩
              · rw [show decide (os.getD a [] = os.getD b []) = false from decide_eq_false hxy] at SM
                have HN := Lib.hid (HE.out hxy)
                clear hxy
                go_wp2
                go_quiet ((go_at_call 88; exact quiet_at SM.out _ _))
                go_wp2
                go_roundw
                case rel => exact ⟨b + 1, _, by omega, by go_num, HN, by first | rfl | rw [World.drewN_drewN]⟩
                case measure => simp [intOf]; omega
            · obtain rfl : b = a := by omega
              have hge2 : ¬ (b : Int) < (b : Int) := by omega
              have HN := Lib.hid (show ∀ x, x < b + 1 → ∀ y, y < x → os.getD x [] ≠ os.getD y [] from fun x hx y hy => by
                by_cases e : x = b
                · rw [e]; exact HY.out y (by omega)
                · exact HX.out x (by omega) y hy)
              go_wp2
              go_roundw
              case rel => exact ⟨b + 1, _, by omega, by go_num, HN, rfl⟩
              case measure => simp [intOf]; omega
        · obtain rfl : a = A := by omega
          have hge2 : ¬ (a : Int) < (a : Int) := by omega
          have hr : r0 = true := HD.out true ⟨fun _ => HAP.out.1 HX.out, fun _ => rfl⟩
          go_wp2
          go_ret
          exact ⟨by first | rfl | (rw [hr]; rfl) | (simp [hr]), HW.out.trans ⟨rfl, rfl, rfl, Nat.le_refl _, fun _ _ => rfl⟩⟩
end Go.Proofs.Ytgdgiecajflmaab
