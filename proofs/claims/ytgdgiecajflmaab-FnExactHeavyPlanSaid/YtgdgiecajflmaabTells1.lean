/- Lists of numbers that are the same; the program's TellsHeavy and TellsBoth. -/
import Derived.Test.YtgdgiecajflmaabGroups3
namespace Go.Proofs.Ytgdgiecajflmaab
open Go.RowKit Go.Maps
theorem same_list {xs ys : List Int} (hl : xs.length = ys.length) (h : ∀ j, j < xs.length → xs.getD j 0 = ys.getD j 0) : xs = ys := by
  apply List.ext_getElem hl
  intro i h1 h2
  have := h i h1
  simpa [List.getD, h1, h2] using this
set_option maxRecDepth 100000 in
set_option maxHeartbeats 1600000 in
theorem l1Same_any (va vb : Value) (xs ys : List Int) (w : World) (ha : IntRow w va xs) (hb : IntRow w vb ys) (hn : xs.length ≤ 2000000) :
    Calls Try.prog 88 #[va, vb] w fun e w' => e = .returned (.bool (decide (xs = ys))) ∧ ∃ m, w' = w.drewN m := by
  obtain ⟨a, c, rfl, ha⟩ := ha
  obtain ⟨b, d, rfl, hb⟩ := hb
  by_cases hl : xs.length = ys.length
  case neg =>
    have hlb : ((xs.length : Int) != (ys.length : Int)) = true := by simp; omega
    have hne : decide (xs = ys) = false := by simp; intro e; exact hl (by rw [e])
    rw [hne]
    clear hl hne ha hb hn
    go_enter Try.func88, Try.ntmps88
    go_wp2
    go_ret
    exact ⟨rfl, 0, rfl⟩
  have HA := Lib.hid ha
  have HB := Lib.hid hb
  have HR := Lib.hid (show ∀ r, (r = true ↔ xs = ys) → decide (xs = ys) = r from fun r h => by
    cases r
    · simp; intro e; exact absurd (h.2 e) (by simp)
    · simp; exact h.1 rfl)
  have HSL := Lib.hid (same_list hl)
  generalize decide (xs = ys) = r0 at HR ⊢
  have HLN := Lib.hid hl
  rw [← hl]
  obtain ⟨L, hL⟩ : ∃ L, xs.length = L := ⟨_, rfl⟩
  have HLL := Lib.hid hL
  rw [hL] at HSL hn ⊢
  have hlb : ((L : Int) != (L : Int)) = false := by simp
  clear ha hb hl hL
  go_enter Try.func88, Try.ntmps88
  go_wp2
  go_loopw [5] (fun i wr => ∃ k n : Nat, k ≤ L ∧ i = .int .i64 k ∧ Hid (∀ j, j < k → xs.getD j 0 = ys.getD j 0) ∧ wr = w.drewN n) (fun i _ => L - (intOf i).toNat)
  case atStart => exact ⟨0, 0, Nat.zero_le _, rfl, Lib.hid (fun j h => by omega), rfl⟩
  case round =>
    obtain ⟨k, n, hk, rfl, HS, rfl⟩ := hrel
    by_cases hlt : k < L
    · have hlt' : (k : Int) < (L : Int) := by omega
      rcases HA.out with h | ⟨g, off, rfl, hg, hc⟩
      · exfalso; rw [← HLL.out, h] at hlt; simp at hlt
      rcases HB.out with h | ⟨g2, off2, rfl, hg2, hc2⟩
      · exfalso; rw [← HLL.out, HLN.out, h] at hlt; simp at hlt
      have c1 := hc k (by rw [HLL.out]; exact hlt)
      have c2 := hc2 k (by rw [← HLN.out, HLL.out]; exact hlt)
      have HE := Lib.hid (show ∀ (h : xs.getD k 0 = ys.getD k 0), ∀ j, j < k + 1 → xs.getD j 0 = ys.getD j 0 from fun h j hj => by
        by_cases e : j = k
        · rw [e]; exact h
        · exact HS.out j (by omega))
      have HF := Lib.hid (show xs.getD k 0 ≠ ys.getD k 0 → xs ≠ ys from fun h e => h (by rw [e]))
      clear hc hc2
      generalize xs.getD k 0 = x at c1 HE HF
      generalize ys.getD k 0 = y at c2 HE HF
      by_cases hxy : x = y
      · have hb : (x != y) = false := by simp [hxy]
        have HN := Lib.hid (HE.out hxy)
        clear hxy
        go_wp2
        go_quiet (fail)
        go_wp2
        go_roundw
        case rel => exact ⟨k + 1, _, by omega, by go_num, HN, rfl⟩
        case measure => simp [intOf]; omega
      · have hb : (x != y) = true := by simp [hxy]
        have hr : r0 = false := HR.out false ⟨fun h => by simp at h, fun h => absurd h (HF.out hxy)⟩
        clear hxy
        go_wp2
        go_quiet (fail)
        go_wp2
        go_ret
        exact ⟨by first | rfl | (rw [hr]; rfl), _, by rw [World.drewN_drewN]⟩
    · obtain rfl : k = L := by omega
      have hge : ¬ (k : Int) < (k : Int) := by omega
      have hr : r0 = true := HR.out true ⟨fun _ => HSL.out HS.out, fun _ => rfl⟩
      go_wp2
      go_ret
      exact ⟨by first | rfl | (rw [hr]; rfl), _, rfl⟩
theorem cntL_le : ∀ ls : List Lit, cntL ls ≤ ls.length
  | [] => Nat.le_refl _
  | l :: r => by
    have := cntL_le r
    rw [cntL, List.length_cons]
    split <;> omega
theorem cntL_nodup : ∀ ls : List Lit, cntL ls = ls.length ↔ ls.Nodup
  | [] => by simp [cntL]
  | l :: r => by
    have h1 := cntL_le r
    have h2 := cntL_nodup r
    rw [cntL, List.length_cons, List.nodup_cons]
    by_cases e : l ∈ r
    · rw [if_pos (propB_yes e)]
      constructor
      · intro h; omega
      · intro h; exact absurd e h.1
    · rw [if_neg (by rw [propB_no e]; simp)]
      constructor
      · intro h; exact ⟨e, h2.1 (by omega)⟩
      · intro h; rw [h2.2 h.2]
/-- All coins with all kinds have outcomes of their own. -/
noncomputable def tellB (zs : List Int) (n : Int) (xss : List (List Int)) : Bool := propB ((coinsB n && planB n xss) = true ∧ ((doneP zs n.toNat).map (keyP xss)).Nodup)
noncomputable def goodB (n : Int) (xss : List (List Int)) : Bool := coinsB n && planB n xss
set_option maxRecDepth 100000 in
set_option maxHeartbeats 1600000 in
theorem byOutcome_no (n : Int) (v u : Value) (xss : List (List Int)) (w : World) (hr : TabRow w v xss) (hb : SmallT xss) (h : (coinsB n && planB n xss) = false) :
    Calls Try.prog 85 #[.int .i64 n, v, u] w fun e w' => e = .returned (.tuple #[.map none, .bool false]) ∧ Below w.heap.size w w' := by
  have IP := Lib.hid (isPlan_any n v xss w hr hb)
  rw [h] at IP
  clear h hr hb
  generalize coinsB n = cb at IP
  go_enter Try.func85, Try.ntmps85
  go_wp2_with fail
  refine IP.out.mono ?_
  rintro e w1 ⟨rfl, l1⟩
  have L1 := Lib.hid l1
  clear l1 IP
  go_wp2
  try rw [Exit.noGoto_ret]
  go_ret2
  exact ⟨rfl, L1.out⟩
theorem heavyZ : ∀ j, j < ([1] : List Int).length → ([1] : List Int).getD j 0 = 1 ∨ ([1] : List Int).getD j 0 = -1 := by
  intro j hj
  match j, hj with
  | 0, _ => exact .inl rfl
theorem bothZ : ∀ j, j < ([1, -1] : List Int).length → ([1, -1] : List Int).getD j 0 = 1 ∨ ([1, -1] : List Int).getD j 0 = -1 := by
  intro j hj
  match j, hj with
  | 0, _ => exact .inl rfl
  | 1, _ => exact .inr rfl
theorem rowLit (w : World) (xs : List Int) : IntRow (w.alloc (.cells (icells xs).toArray 3)) (.slice (some ⟨w.heap.size, 0, none⟩) xs.length xs.length) xs :=
  ⟨_, _, rfl, .inr ⟨w.heap.size, 0, rfl, by simp, fun j hj => by
    rw [Nat.zero_add, World.cell?_alloc_at _ _ _ _ rfl]
    have := icells_at xs j hj
    simpa using this⟩⟩
set_option maxRecDepth 100000 in
set_option maxHeartbeats 1600000 in
theorem tellsHeavy_impl (n : Int) (v : Value) (xss : List (List Int)) (w : World) (hr : TabRow w v xss) (hb : SmallT xss) :
    Calls Try.prog 41 #[.int .i64 n, v] w fun e w' => e = .returned (.tuple #[.bool (tellB [1] n xss), .bool (goodB n xss)]) ∧ Below w.heap.size w w' := by
  by_cases hg : (coinsB n && planB n xss) = true
  · have hg' := hg
    rw [Bool.and_eq_true] at hg'
    obtain ⟨N, rfl⟩ : ∃ N : Nat, n = N := ⟨n.toNat, by have := hg'.1; unfold coinsB at this; simp at this; omega⟩
    have BY := Lib.hid (fun (w1 : World) (u : Value) (l : Below w.heap.size w w1) (hu : IntRow w1 u [1]) => byOutcome_yes N v u xss [1] w1 (hr.lo l) hb hg'.1 ((propB_iff _).1 hg'.2) hu (by simp) heavyZ)
    have U1 := Lib.hid (rowLit w [1])
    have LA := Lib.hid ((Below.refl w.heap.size w).alloc (Nat.le_refl _) (.cells #[.int .i64 1] 3))
    have HT := Lib.hid (show tellB [1] (N : Int) xss = (((cntL ((doneP [1] N).map (keyP xss)) : Nat) : Int) == (N : Int)) by
      have hl : ((doneP [1] N).map (keyP xss)).length = N := by rw [List.length_map, doneP_len]; simp
      have h1 := cntL_nodup ((doneP [1] N).map (keyP xss))
      rw [hl] at h1
      by_cases e : ((doneP [1] N).map (keyP xss)).Nodup
      · rw [tellB, propB_yes ⟨hg, by simpa using e⟩, h1.2 e]; simp
      · rw [tellB, propB_no (fun hh => e (by simpa using hh.2))]
        symm
        simp only [beq_eq_false_iff_ne, ne_eq]
        intro e2
        exact e (h1.1 (by omega)))
    have HG := Lib.hid (show goodB (N : Int) xss = true from hg)
    rw [HT.out, HG.out]
    clear hg hg' hr hb HT HG
    go_enter Try.func41, Try.ntmps41
    go_wp2_with fail
    refine (BY.out _ _ LA.out U1.out).mono ?_
    rintro e w2 ⟨b, rfl, hc, hbb, l2⟩
    have L2 := Lib.hid (LA.out.trans (l2.mono (by simp)))
    obtain ⟨D, V, hown, hsz, _⟩ := hc.ex
    have HSZ := Lib.hid hsz
    clear hsz hbb l2 BY U1
    have hlen := fun ty => hown.len Try.underlying95 ty
    go_wp2
    try rw [Exit.noGoto_ret]
    go_ret2
    exact ⟨by rw [← HSZ.out]; rfl, L2.out⟩
  · have hf : (coinsB n && planB n xss) = false := by simpa using hg
    have BY := Lib.hid (fun (w1 : World) (u : Value) (l : Below w.heap.size w w1) => byOutcome_no n v u xss w1 (hr.lo l) hb hf)
    have LA := Lib.hid ((Below.refl w.heap.size w).alloc (Nat.le_refl _) (.cells #[.int .i64 1] 3))
    rw [show tellB [1] n xss = false from propB_no (fun h => hg h.1), show goodB n xss = false from hf]
    clear hg hf hr hb
    go_enter Try.func41, Try.ntmps41
    go_wp2_with fail
    refine (BY.out _ _ LA.out).mono ?_
    rintro e w2 ⟨rfl, l2⟩
    have L2 := Lib.hid (LA.out.trans (l2.mono (by simp)))
    go_wp2
    try rw [Exit.noGoto_ret]
    go_ret2
    exact ⟨rfl, L2.out⟩
end Go.Proofs.Ytgdgiecajflmaab
