/- The walk of the law on splitting and joining. -/
import Derived.Test.YtlmnkkodfnlbmaaSJ
namespace Go.Proofs.Ytlmnkkodfnlbmaa
open Go.RowKit
theorem code_end {w : World} {a : Option Addr} {len : Nat} (h : CodeAt w w.heap.size a len) {w' : World} (l : Lo w w') : CodeAt w' w'.heap.size a len := by
  have h2 := h.lo l (Nat.le_refl _)
  rcases h2 with h2 | ⟨b, off, e, hb, hc⟩
  · exact .inl h2
  · exact .inr ⟨b, off, e, Nat.lt_of_lt_of_le hb l.size, hc⟩
theorem vBig_any (a : Option Addr) (len cap : Nat) (w : World) :
    Calls Try.prog 8 #[.slice a len cap] w fun e w' => e = .returned (.bool (decide (65536 < (len : Int)))) ∧ w = w' := by
  go_enter Try.func8, Try.ntmps8
  go_wp2
  go_ret
  exact ⟨rfl, rfl⟩
theorem implSplit_texts (s t : ByteArray) (hs : s.size ≤ 4000) (ht3 : 0 < t.size) (ht1 : t.size ≤ 1) (w : World) :
    Calls Try.prog 10 #[.string s, .string t] w fun e w' => ∃ g c, e = .returned (.tuple #[.slice (some ⟨g, 0, none⟩) (spB (t[0].toNat : Int) s).length c, .bool true]) ∧
      (spB (t[0].toNat : Int) s).length ≤ c ∧ Texts w' g 0 (spB (t[0].toNat : Int) s) ∧ Below w.heap.size w w' :=
  (implSplit_yes s t hs ht3 ht1 w).mono fun e w' ⟨v, he, ho, hv, hb⟩ => by
    have hne : spB (t[0].toNat : Int) s ≠ [] := by unfold spB; simp [sp_ne]
    rcases ho.2 with ⟨rfl, _⟩ | ⟨g, cap, cur, rfl, _, hb2, hn, _⟩
    · exact absurd (hv.1 rfl) hne
    · refine ⟨g, cap, he, hn, ⟨(Array.getElem?_eq_some_iff.1 hb2).1, fun j hj => ?_⟩, hb⟩
      rw [Nat.zero_add, ho.cellAt j (by omega), List.getElem?_map, List.getElem?_eq_getElem hj]
      simp [List.getD, List.getElem?_eq_getElem hj]
theorem joined (s t : ByteArray) (p0 : 0 < t.size) (p1 : t.size ≤ 1) : jB (spB (t[0].toNat : Int) s) t (spB (t[0].toNat : Int) s).length = s := by
  have hf : ((fun x : ByteArray => x.data.toList) ∘ baT) = id := by funext l; simp [baT]
  unfold jB jL
  rw [List.take_length]
  unfold spB
  rw [List.map_map, one_list t p0 p1, hf, List.map_id, sp_join]
  simp
theorem size_tot (xs : List ByteArray) (k : Nat) (h : k < xs.length) : (xs.getD k ByteArray.empty).size ≤ tot xs xs.length := by
  have h1 := tot_le xs (k + 1) (xs.length - (k + 1))
  rw [show k + 1 + (xs.length - (k + 1)) = xs.length by omega] at h1
  rw [tot] at h1
  omega
theorem split_back (s t : ByteArray) (hs : s.size ≤ 4000) (p0 : 0 < t.size) (p1 : t.size ≤ 1) : ∃ xs : List ByteArray, xs.length ≤ 4001 ∧
    Hid (∀ w, Calls Try.prog 10 #[.string s, .string t] w fun e w' => ∃ g c, e = .returned (.tuple #[.slice (some ⟨g, 0, none⟩) xs.length c, .bool true]) ∧ xs.length ≤ c ∧ Texts w' g 0 xs ∧ Below w.heap.size w w') ∧
    Hid (∀ g c w, xs.length ≤ c → Texts w g 0 xs → Len w → Calls Try.prog 12 #[.slice (some ⟨g, 0, none⟩) xs.length c, .string t] w fun e w' => e = .returned (.tuple #[.string s, .bool true]) ∧ Below w.heap.size w w') := by
  have ht : t.size = 1 := by omega
  have hne : spB (t[0].toNat : Int) s ≠ [] := by unfold spB; simp [sp_ne]
  have hpos : 0 < (spB (t[0].toNat : Int) s).length := List.length_pos_iff.2 hne
  have hj := joined s t p0 p1
  have hz := tot_all (spB (t[0].toNat : Int) s) t ht hpos
  rw [hj] at hz
  have hJ : Joins (spB (t[0].toNat : Int) s) t (t[0].toNat : Int) := by
    refine ⟨hpos, ht, fun k hk => ?_, by rw [hj]; exact hs⟩
    simp only [List.getD, List.getElem?_eq_getElem hk, Option.getD_some]
    obtain ⟨y, hy, e⟩ := List.mem_map.1 (show _ ∈ (sp (t[0].toNat : Int) [] s.data.toList).map baT from List.getElem_mem hk)
    rw [← e]
    simpa [baT] using sp_free _ _ [] rfl y hy
  refine ⟨spB (t[0].toNat : Int) s, by omega, Lib.hid (implSplit_texts s t hs p0 p1), Lib.hid (fun g c w hc hT hm => ?_)⟩
  refine (implJoin_any g 0 c _ t w hT hpos (by omega) hc p0 p1 (fun k hk => by have := size_tot _ k hk; omega) hm).mono fun e w' ⟨l, h⟩ => ⟨?_, l⟩
  have := (h.resolve_right (fun x => x.1 hJ)).2
  rw [hj] at this
  exact this
theorem join_both (xs : List ByteArray) (t : ByteArray) (hn2 : xs.length ≤ 2000000) (hsz : ∀ k, k < xs.length → (xs.getD k ByteArray.empty).size ≤ 1048576) : ∃ (r : ByteArray) (b : Bool),
    (∀ g c w, xs.length ≤ c → Texts w g 0 xs → Len w → Calls Try.prog 12 #[.slice (some ⟨g, 0, none⟩) xs.length c, .string t] w fun e w' => e = .returned (.tuple #[.string r, .bool b]) ∧ Below w.heap.size w w') ∧
    (∀ g c w, Texts w g 0 xs → Calls Try.prog 13 #[.slice (some ⟨g, 0, none⟩) xs.length c, .string t] w fun e w' => e = .returned (.tuple #[.string r, .bool b]) ∧ Below w.heap.size w w') := by
  by_cases hsep : ((t.size : Int) != 1) = true ∨ xs.length = 0
  · exact ⟨⟨#[]⟩, false, fun g c w _ _ _ => (bad_sep_impl _ _ c t hsep w).mono fun e w' ⟨he, hw⟩ => ⟨he, by subst hw; exact Below.refl _ _⟩,
      fun g c w _ => (bad_sep_spec _ _ c t hsep w).mono fun e w' ⟨he, hw⟩ => ⟨he, by subst hw; exact Below.refl _ _⟩⟩
  · have hs1 : t.size = 1 := by
      have : ¬ ((t.size : Int) != 1) = true := fun x => hsep (.inl x)
      simp at this; omega
    have hs2 : 0 < xs.length := by
      have : ¬ xs.length = 0 := fun x => hsep (.inr x)
      omega
    have p0 : 0 < t.size := by omega
    have p1 : t.size ≤ 1 := by omega
    by_cases hJ : Joins xs t (t[0].toNat : Int)
    · exact ⟨jB xs t xs.length, true, fun g c w hc hT hm => (implJoin_any g 0 c xs t w hT hs2 hn2 hc p0 p1 hsz hm).mono fun e w' ⟨l, h⟩ => ⟨(h.resolve_right (fun x => x.1 hJ)).2, l⟩,
        fun g c w hT => (specJoin_any g 0 c xs t w hT hs2 hn2 p0 p1 hsz).mono fun e w' ⟨l, h⟩ => ⟨(h.resolve_right (fun x => x.1 hJ)).2, l⟩⟩
    · exact ⟨⟨#[]⟩, false, fun g c w hc hT hm => (implJoin_any g 0 c xs t w hT hs2 hn2 hc p0 p1 hsz hm).mono fun e w' ⟨l, h⟩ => ⟨(h.resolve_left (fun x => hJ x.1)).2, l⟩,
        fun g c w hT => (specJoin_any g 0 c xs t w hT hs2 hn2 p0 p1 hsz).mono fun e w' ⟨l, h⟩ => ⟨(h.resolve_left (fun x => hJ x.1)).2, l⟩⟩
theorem less_all (x y : ByteArray) : ∃ q : Bool,
    Hid (∀ w, Calls Try.prog 15 #[.string x, .string y] w fun e w' => e = .returned (.bool q) ∧ w = w') ∧
    Hid (∀ w, Calls Try.prog 16 #[.string x, .string y] w fun e w' => e = .returned (.bool q) ∧ w = w') ∧
    Hid (q = true → ∀ w, Calls Try.prog 15 #[.string y, .string x] w fun e w' => e = .returned (.bool false) ∧ w = w') :=
  ⟨_, Lib.hid (implLess x y), Lib.hid (specLess x y), Lib.hid (fun h w => by have := implLess y x w; rw [less_asym _ _ h] at this; exact this)⟩
set_option maxRecDepth 100000 in
set_option maxHeartbeats 2000000 in
theorem sj_walk (a : Option Addr) (len cap : Nat) (w : World) (hcode : CodeAt w w.heap.size a len) (hm : Len w) :
    Calls Try.prog 3 #[.slice a len cap] w fun e w' => e = .returned (.bool true) ∧ Below w.heap.size w w' := by
  have HC := Lib.hid hcode
  clear hcode
  by_cases hbig : 65536 < (len : Int)
  · have VB := vBig_any a len cap w
    rw [show decide (65536 < (len : Int)) = true by simpa using hbig] at VB
    have HV := Lib.hid VB
    clear VB
    go_enter Try.func3, Try.ntmps3
    go_wp2_with fail
    refine HV.out.mono ?_
    rintro e w' ⟨rfl, rfl⟩
    go_wp2
    go_ret
    exact ⟨rfl, Below.refl _ _⟩
  have VB := vBig_any a len cap w
  rw [show decide (65536 < (len : Int)) = false by simpa using hbig] at VB
  have HV := Lib.hid VB
  clear VB
  go_enter Try.func3, Try.ntmps3
  go_wp2_with fail
  refine HV.out.mono ?_
  rintro e w' ⟨rfl, rfl⟩
  clear HV
  go_wp2_with fail
  refine (drawSplit_any a len cap w HC.out).mono ?_
  rintro e w1 ⟨s, t, rfl, hs, ht, L1⟩
  by_cases ht1 : t.size = 1
  · obtain ⟨xs, hxl, SB, JB⟩ := split_back s t (by omega) (by omega) (by omega)
    have hts : ((t.size : Int) != 1) = false := by simp; omega
    go_wp2_with fail
    refine (SB.out w1).mono ?_
    rintro e w2 ⟨g1, c1, rfl, hc1, T2, k2⟩
    have T2 := Lib.hid T2
    have L2 := lo_tr3 L1 k2
    clear SB
    go_wp2_with fail
    refine (drawJoin_any a len cap w2 (code_end HC.out L2)).mono ?_
    rintro e w3 ⟨g2, c2, ys, u, rfl, hl, hc, hsz, hu, T3, k3⟩
    have L3 := lo_tr3 L2 k3
    obtain ⟨r, b, JI, JS⟩ := join_both ys u (by omega) hsz
    have JI2 := Lib.hid (JI g2 c2 w3 hc T3 (hm.lo L3))
    have JS2 := Lib.hid (fun w' l => JS g2 c2 w' (T3.lo l))
    clear JI JS hsz T3
    go_wp2_with fail
    refine JI2.out.mono ?_
    rintro e w4 ⟨rfl, k4⟩
    have L4 := lo_tr3 L3 k4
    go_wp2_with fail
    refine (JS2.out w4 k4).mono ?_
    rintro e w5 ⟨rfl, k5⟩
    have L5 := lo_tr3 L4 k5
    clear JI2 JS2
    go_wp2_with fail
    refine (drawLess_any a len cap w5 (code_end HC.out L5)).mono ?_
    rintro e w6 ⟨x, y, rfl, k6⟩
    have L6 := lo_tr3 L5 k6
    obtain ⟨q, LI, LS, LB⟩ := less_all x y
    cases q with
    | false =>
      clear LB
      go_wp2_with fail
      refine (LI.out w6).mono ?_
      rintro e w' ⟨rfl, rfl⟩
      go_wp2_with fail
      refine (LS.out w6).mono ?_
      rintro e w' ⟨rfl, rfl⟩
      go_wp2_with fail
      refine (LI.out w6).mono ?_
      rintro e w' ⟨rfl, rfl⟩
      go_wp2_with fail
      refine (JB.out g1 c1 w6 hc1 (((T2.out.lo k3).lo k4 |>.lo k5).lo k6) (hm.lo L6)).mono ?_
      rintro e w7 ⟨rfl, k7⟩
      go_wp2
      go_ret
      exact ⟨rfl, lo_tr3 L6 k7⟩
    | true =>
      have LC := Lib.hid (LB.out rfl)
      clear LB
      go_wp2_with fail
      refine (LI.out w6).mono ?_
      rintro e w' ⟨rfl, rfl⟩
      go_wp2_with fail
      refine (LS.out w6).mono ?_
      rintro e w' ⟨rfl, rfl⟩
      go_wp2_with fail
      refine (LI.out w6).mono ?_
      rintro e w' ⟨rfl, rfl⟩
      go_wp2_with fail
      refine (LC.out w6).mono ?_
      rintro e w' ⟨rfl, rfl⟩
      go_wp2_with fail
      refine (JB.out g1 c1 w6 hc1 (((T2.out.lo k3).lo k4 |>.lo k5).lo k6) (hm.lo L6)).mono ?_
      rintro e w7 ⟨rfl, k7⟩
      go_wp2
      go_ret
      exact ⟨rfl, lo_tr3 L6 k7⟩
  · have hts : ((t.size : Int) != 1) = true := by simp; omega
    have SB := Lib.hid (implSplit_no s t (.inr hts))
    go_wp2_with fail
    refine (SB.out w1).mono ?_
    rintro e w' ⟨rfl, rfl⟩
    have L2 := L1
    clear SB
    go_wp2_with fail
    refine (drawJoin_any a len cap w1 (code_end HC.out L2)).mono ?_
    rintro e w3 ⟨g2, c2, ys, u, rfl, hl, hc, hsz, hu, T3, k3⟩
    have L3 := lo_tr3 L2 k3
    obtain ⟨r, b, JI, JS⟩ := join_both ys u (by omega) hsz
    have JI2 := Lib.hid (JI g2 c2 w3 hc T3 (hm.lo L3))
    have JS2 := Lib.hid (fun w' l => JS g2 c2 w' (T3.lo l))
    clear JI JS hsz T3
    go_wp2_with fail
    refine JI2.out.mono ?_
    rintro e w4 ⟨rfl, k4⟩
    have L4 := lo_tr3 L3 k4
    go_wp2_with fail
    refine (JS2.out w4 k4).mono ?_
    rintro e w5 ⟨rfl, k5⟩
    have L5 := lo_tr3 L4 k5
    clear JI2 JS2
    go_wp2_with fail
    refine (drawLess_any a len cap w5 (code_end HC.out L5)).mono ?_
    rintro e w6 ⟨x, y, rfl, k6⟩
    have L6 := lo_tr3 L5 k6
    obtain ⟨q, LI, LS, LB⟩ := less_all x y
    cases q with
    | false =>
      clear LB
      go_wp2_with fail
      refine (LI.out w6).mono ?_
      rintro e w' ⟨rfl, rfl⟩
      go_wp2_with fail
      refine (LS.out w6).mono ?_
      rintro e w' ⟨rfl, rfl⟩
      go_wp2_with fail
      refine (LI.out w6).mono ?_
      rintro e w' ⟨rfl, rfl⟩
      go_wp2
      go_ret
      exact ⟨rfl, L6⟩
    | true =>
      have LC := Lib.hid (LB.out rfl)
      clear LB
      go_wp2_with fail
      refine (LI.out w6).mono ?_
      rintro e w' ⟨rfl, rfl⟩
      go_wp2_with fail
      refine (LS.out w6).mono ?_
      rintro e w' ⟨rfl, rfl⟩
      go_wp2_with fail
      refine (LI.out w6).mono ?_
      rintro e w' ⟨rfl, rfl⟩
      go_wp2_with fail
      refine (LC.out w6).mono ?_
      rintro e w' ⟨rfl, rfl⟩
      go_wp2
      go_ret
      exact ⟨rfl, L6⟩
end Go.Proofs.Ytlmnkkodfnlbmaa
