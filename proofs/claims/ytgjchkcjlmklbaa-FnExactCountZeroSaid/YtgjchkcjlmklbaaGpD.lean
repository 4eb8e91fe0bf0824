/- The contract of slices.DeleteFunc at a table of lists, for any test. -/
import Derived.Test.YtgjchkcjlmklbaaTabM
import Derived.Test.YtgjchkcjlmklbaaSwP
import Derived.Test.YtgjchkcjlmklbaaIn
import Derived.Laws.IdiomCopy
import Derived.Deep.Upon
namespace Go.Proofs.Ytgjchkcjlmklbaa
open Go.RowKit
/-- The numbers below j that are kept. -/
def kpF (f : Nat → Bool) (j : Nat) : List Nat := (List.range j).filter (fun t => !f t)
theorem kp_next (f : Nat → Bool) (j : Nat) : kpF f (j + 1) = kpF f j ++ (if f j = true then [] else [j]) := by
  unfold kpF
  rw [List.range_succ, List.filter_append]
  congr 1
  cases h : f j <;> simp [h]
theorem kp_all {f : Nat → Bool} {j : Nat} (h : ∀ t, t < j → f t = false) : kpF f j = List.range j := by
  unfold kpF
  rw [List.filter_eq_self]
  intro x hx
  rw [List.mem_range] at hx
  simp [h x hx]
theorem kp_mem {f : Nat → Bool} {j x : Nat} (h : x ∈ kpF f j) : x < j := List.mem_range.1 (List.mem_filter.1 h).1
theorem kp_len (f : Nat → Bool) (j : Nat) : (kpF f j).length ≤ j := by
  have := List.length_filter_le (fun t => !f t) (List.range j)
  rw [List.length_range] at this
  exact this
theorem kp_less {f : Nat → Bool} {i j : Nat} (h : f i = true) (hi : i < j) : (kpF f j).length < j := by
  obtain ⟨d, rfl⟩ : ∃ d, j = i + 1 + d := ⟨j - (i + 1), by omega⟩
  clear hi
  induction d with
  | zero =>
    rw [Nat.add_zero, kp_next, if_pos h, List.append_nil]
    have := kp_len f i
    omega
  | succ d ih =>
    rw [show i + 1 + (d + 1) = (i + 1 + d) + 1 by omega, kp_next, List.length_append]
    split <;> simp <;> omega
theorem only_setCells (C : Nat) (vs : List Value) : ∀ (o : Nat) (w : World), Only C w (w.setCells C o vs) := by
  induction vs with
  | nil => intro o w; exact Only.refl _ _
  | cons v l ih => intro o w; exact (only_set w C o v).trans (ih (o + 1) _)
theorem lo_only {C : Nat} {a b : World} (h : Below a.heap.size a b) : Only C a b := Only.of_lo h
/-- The cells of the table while it is thinned out. -/
structure ThinT (w : World) (g n j i : Nat) (us : Nat → Value) (f : Nat → Bool) : Prop where
  done : ∀ t, t < i → w.cell? ⟨g, t, none⟩ = some (us ((kpF f j).getD t 0))
  rest : ∀ t, j ≤ t → t < n → w.cell? ⟨g, t, none⟩ = some (us t)
  there : ∀ t, t < n → ∃ x, w.cell? ⟨g, t, none⟩ = some x
  open_ : ∀ t, w.frozen? ⟨g, t, none⟩ = false
theorem ThinT.lo {w w' : World} {g n j i : Nat} {us : Nat → Value} {f : Nat → Bool} (h : ThinT w g n j i us f) (hg : g < w.heap.size) (l : Below w.heap.size w w') : ThinT w' g n j i us f :=
  ⟨fun t ht => by rw [l.cell (p := ⟨g, t, none⟩) hg]; exact h.done t ht, fun t h1 h2 => by rw [l.cell (p := ⟨g, t, none⟩) hg]; exact h.rest t h1 h2, fun t ht => by rw [l.cell (p := ⟨g, t, none⟩) hg]; exact h.there t ht, fun t => by rw [l.frozen (p := ⟨g, t, none⟩) hg]; exact h.open_ t⟩
theorem ThinT.skip {w : World} {g n j : Nat} {us : Nat → Value} {f : Nat → Bool} (h : ThinT w g n j (kpF f j).length us f) (hf : f j = true) : ThinT w g n (j + 1) (kpF f (j + 1)).length us f := by
  have e : kpF f (j + 1) = kpF f j := by rw [kp_next, if_pos hf, List.append_nil]
  refine ⟨fun t ht => ?_, fun t h1 h2 => h.rest t (by omega) h2, h.there, h.open_⟩
  rw [e] at ht ⊢
  exact h.done t ht
theorem ThinT.keep {w : World} {g n j : Nat} {us : Nat → Value} {f : Nat → Bool} (h : ThinT w g n j (kpF f j).length us f) (hf : f j = false) (hj : j < n) : ThinT (w.setCell ⟨g, (kpF f j).length, none⟩ (us j)) g n (j + 1) (kpF f (j + 1)).length us f := by
  have hl := kp_len f j
  have e : kpF f (j + 1) = kpF f j ++ [j] := by rw [kp_next, hf]; rfl
  have el : (kpF f (j + 1)).length = (kpF f j).length + 1 := by rw [e, List.length_append]; rfl
  obtain ⟨x, hx⟩ := h.there (kpF f j).length (by omega)
  have TS := one_set w g (kpF f j).length (us j) hx
  refine ⟨fun t ht => ?_, fun t h1 h2 => ?_, fun t ht => ?_, fun t => by rw [World.frozen?_setCell]; exact h.open_ t⟩
  · rw [el] at ht
    by_cases et : t = (kpF f j).length
    · subst et
      rw [TS.1, e]
      simp [List.getD]
    · rw [TS.2 _ et, h.done t (by omega), e]
      simp only [List.getD]
      rw [List.getElem?_append_left (by omega)]
  · rw [TS.2 _ (by omega)]
    exact h.rest t (by omega) h2
  · by_cases et : t = (kpF f j).length
    · subst et; exact ⟨_, TS.1⟩
    · rw [TS.2 _ et]; exact h.there t ht
set_option maxRecDepth 100000 in
set_option maxHeartbeats 3200000 in
theorem indexT_any (B1 B2 g n c : Nat) (us : Nat → Value) (f : Nat → Bool) (w : World) (hn : n ≤ 2000000) (hg : g < w.heap.size) (hc : ∀ j, j < n → w.cell? ⟨g, j, none⟩ = some (us j)) (hs : ∀ j, j < n → ∃ a l d, us j = .slice a l d)
    (K : ∀ j, j < n → ∀ w1, Only g w w1 → Calls Try.prog 204 #[us j, .pointer (some ⟨B1, 0, none⟩), .pointer (some ⟨B2, 0, none⟩)] w1 fun e w' => e = .returned (.bool (f j)) ∧ Below w1.heap.size w1 w') :
    Calls Try.prog 244 #[.slice (some ⟨g, 0, none⟩) n c, .func (.func 204) #[] #[.pointer (some ⟨B1, 0, none⟩), .pointer (some ⟨B2, 0, none⟩)]] w fun e w' => (∃ z : Int, e = .returned (.int .i64 z) ∧ ((z = -1 ∧ ∀ j, j < n → f j = false) ∨ ∃ i : Nat, z = i ∧ i < n ∧ f i = true ∧ ∀ j, j < i → f j = false)) ∧ Below w.heap.size w w' := by
  have HC := Lib.hid hc
  have HS := Lib.hid hs
  have HK := Lib.hid K
  clear hc hs K
  go_enter Try.func244, Try.ntmps244
  go_wp2
  go_loopw [8] (fun i wr => ∃ k : Nat, k ≤ n ∧ i = .int .i64 k ∧ Hid (∀ j, j < k → f j = false) ∧ Hid (Below w.heap.size w wr)) (fun i _ => n - (intOf i).toNat)
  case atStart => exact ⟨0, Nat.zero_le _, rfl, Lib.hid (fun j h => by omega), Lib.hid (Below.refl _ _)⟩
  case round =>
    obtain ⟨k, hk, rfl, HL, HB⟩ := hrel
    by_cases hlt : k < n
    · have hlt' : (k : Int) < (n : Int) := by omega
      have h1 := HC.out k hlt
      rw [← HB.out.cell (p := ⟨g, k, none⟩) hg] at h1
      have CK := Lib.hid (HK.out k hlt wr (lo_only HB.out))
      obtain ⟨a, l, d, hv⟩ := HS.out k hlt
      rw [hv] at h1 CK
      obtain ⟨b, hb⟩ : ∃ b, f k = b := ⟨_, rfl⟩
      rw [hb] at CK
      have HX := Lib.hid hb
      clear hv hb
      cases b with
      | false =>
        go_wp2_with (go_at_call 204; refine (CK.out).mono ?_; rintro e w1 ⟨rfl, l1⟩; have LL := Lib.hid (lo_on HB.out l1); clear l1 CK)
        go_roundw
        case rel =>
          refine ⟨k + 1, by omega, by go_num, Lib.hid (fun j hj => ?_), LL⟩
          by_cases e : j = k
          · subst e; exact HX.out
          · exact HL.out j (by omega)
        case measure => simp [intOf]; omega
      | true =>
        have HF := Lib.hid hlt
        go_wp2_with (go_at_call 204; refine (CK.out).mono ?_; rintro e w1 ⟨rfl, l1⟩; have LL := Lib.hid (lo_on HB.out l1); clear l1 CK)
        go_ret
        exact ⟨⟨_, rfl, .inr ⟨k, rfl, HF.out, HX.out, HL.out⟩⟩, LL.out⟩
    · obtain rfl : k = n := by omega
      have hge : ¬ (k : Int) < (k : Int) := by omega
      go_wp2
      go_ret
      exact ⟨⟨_, rfl, .inl ⟨rfl, HL.out⟩⟩, HB.out⟩
theorem zero_row (w : World) : (zeroValue 22).run Try.prog w = .ok (.slice none 0 0) w := by kernel_rfl
set_option maxRecDepth 100000 in
set_option maxHeartbeats 6400000 in
theorem deleteT_any (B1 B2 g n c : Nat) (us : Nat → Value) (f : Nat → Bool) (w : World) (hn : n ≤ 2000000) (hnc : n ≤ c) (hcm : c ≤ maxLen) (hg : g < w.heap.size) (hc : ∀ j, j < n → w.cell? ⟨g, j, none⟩ = some (us j)) (hf : ∀ j, w.frozen? ⟨g, j, none⟩ = false) (hs : ∀ j, j < n → ∃ a l d, us j = .slice a l d)
    (K : ∀ j, j < n → ∀ w1, Only g w w1 → Calls Try.prog 204 #[us j, .pointer (some ⟨B1, 0, none⟩), .pointer (some ⟨B2, 0, none⟩)] w1 fun e w' => e = .returned (.bool (f j)) ∧ Below w1.heap.size w1 w') :
    Calls Try.prog 202 #[.slice (some ⟨g, 0, none⟩) n c, .func (.func 204) #[] #[.pointer (some ⟨B1, 0, none⟩), .pointer (some ⟨B2, 0, none⟩)]] w fun e w' => e = .returned (.slice (some ⟨g, 0, none⟩) (kpF f n).length c) ∧ (∀ t, t < (kpF f n).length → w'.cell? ⟨g, t, none⟩ = some (us ((kpF f n).getD t 0))) ∧ Only g w w' := by
  have IX := Lib.hid (indexT_any B1 B2 g n c us f w hn hg hc hs K)
  have H0 := Lib.hid (fun (i : Nat) (hi : i < n) (hall : ∀ j, j < i → f j = false) (hfi : f i = true) => show ThinT w g n (i + 1) (kpF f (i + 1)).length us f from by
    have e : kpF f (i + 1) = List.range i := by rw [kp_next, if_pos hfi, List.append_nil, kp_all hall]
    refine ⟨fun t ht => ?_, fun t h1 h2 => hc t h2, fun t ht => ⟨_, hc t ht⟩, hf⟩
    rw [e, List.length_range] at ht
    rw [e, hc t (by omega)]
    simp [List.getD, ht])
  have HALL := Lib.hid (fun (hall : ∀ j, j < n → f j = false) => show (kpF f n).length = n ∧ ∀ t, t < n → (kpF f n).getD t 0 = t from by
    rw [kp_all hall]
    exact ⟨by simp, fun t ht => by simp [List.getD, ht]⟩)
  obtain ⟨N, hN⟩ : ∃ N, (kpF f n).length = N := ⟨_, rfl⟩
  rw [hN]
  have HNN := Lib.hid hN
  have HC := Lib.hid hc
  have HS := Lib.hid hs
  have HK := Lib.hid K
  unfold maxLen at hcm
  clear hc hs K hf hN
  go_enter Try.func202, Try.ntmps202
  go_wp2_with fail
  refine IX.out.mono ?_
  rintro e w1 ⟨⟨z, rfl, hz⟩, l1⟩
  rcases hz with ⟨rfl, hall⟩ | ⟨i, rfl, hi, hfi, hall⟩
  · obtain ⟨e1, e2⟩ := HALL.out hall
    have HE := Lib.hid e2
    have HNn := Lib.hid (show N = n by rw [← HNN.out]; exact e1)
    have L1 := Lib.hid (lo_only (C := g) l1)
    have CC := Lib.hid (fun t (ht : t < n) => show w1.cell? ⟨g, t, none⟩ = some (us t) by rw [l1.cell (p := ⟨g, t, none⟩) hg]; exact HC.out t ht)
    clear e1 e2 l1 IX H0 HALL HK hall
    go_wp2
    go_ret
    exact ⟨by rw [HNn.out]; rfl, fun t ht => by rw [HNn.out] at ht; rw [HE.out t ht]; exact CC.out t ht, L1.out⟩
  · have T1 := Lib.hid ((H0.out i hi hall hfi).lo hg l1)
    have L1 := Lib.hid (lo_only (C := g) l1)
    have HFI := Lib.hid hfi
    have hi1 : (kpF f (i + 1)).length = i := by rw [kp_next, if_pos hfi, List.append_nil, kp_all hall, List.length_range]
    have hne : ((i : Int) == -1) = false := by rw [beq_eq_false_iff_ne]; omega
    have HI1 := Lib.hid hi1
    have hg1 : g < w1.heap.size := Nat.lt_of_lt_of_le hg l1.size
    clear l1 IX H0 HALL hall hfi hi1
    go_wp2
    go_loopw [5, 6] (fun x y wr => ∃ j k : Nat, i < j ∧ j ≤ n ∧ k < j ∧ y = .int .i64 j ∧ x = .int .i64 k ∧ Hid (k = (kpF f j).length) ∧ Hid (ThinT wr g n j (kpF f j).length us f) ∧ Hid (Only g w wr)) (fun _ y _ => n - (intOf y).toNat)
    case atStart => exact ⟨i + 1, i, by omega, by omega, by omega, by go_num, rfl, Lib.hid HI1.out.symm, T1, L1⟩
    case round =>
      obtain ⟨j, k, hij, hj, hkj, rfl, rfl, HKL, HT, HO⟩ := hrel
      clear T1 L1 HI1
      have hgr : g < wr.heap.size := Nat.lt_of_lt_of_le hg HO.out.size
      by_cases hlt : j < n
      · have hlt' : (j : Int) < (n : Int) := by omega
        have h1 := HT.out.rest j (Nat.le_refl _) hlt
        have CK := Lib.hid (HK.out j hlt wr HO.out)
        obtain ⟨a, l, d, hv⟩ := HS.out j hlt
        have HV := Lib.hid hv
        rw [hv] at h1 CK
        obtain ⟨b, hb⟩ : ∃ b, f j = b := ⟨_, rfl⟩
        rw [hb] at CK
        have HX := Lib.hid hb
        clear hv hb
        cases b with
        | true =>
          have HTk := Lib.hid (fun w2 (l2 : Below wr.heap.size wr w2) => (HT.out.lo hgr l2).skip HX.out)
          have HLk := Lib.hid (show k = (kpF f (j + 1)).length by rw [HKL.out, kp_next, if_pos HX.out, List.append_nil])
          go_wp2_with (go_at_call 204; refine (CK.out).mono ?_; rintro e w2 ⟨rfl, l2⟩; have LL := Lib.hid (HO.out.trans (lo_only l2)); have TT := Lib.hid (HTk.out w2 l2); clear l2 CK)
          go_roundw
          case rel => exact ⟨j + 1, k, by omega, by omega, by omega, by go_num, rfl, HLk, TT, LL⟩
          case measure => simp [intOf]; omega
        | false =>
          have HTk := Lib.hid (fun w2 (l2 : Below wr.heap.size wr w2) => show ThinT (w2.setCell ⟨g, k, none⟩ (.slice a l d)) g n (j + 1) (kpF f (j + 1)).length us f ∧ ∃ x, w2.cell? ⟨g, k, none⟩ = some x by
            have h := HT.out.lo hgr l2
            have h2 := h.keep HX.out hlt
            rw [← HKL.out, HV.out] at h2
            exact ⟨h2, h.there k (by omega)⟩)
          have HLk := Lib.hid (show k + 1 = (kpF f (j + 1)).length by rw [HKL.out, kp_next, HX.out]; simp)
          have hkn : (k : Int) < (n : Int) := by omega
          go_wp2_with (go_at_call 204; refine (CK.out).mono ?_; rintro e w2 ⟨rfl, l2⟩; have LL := Lib.hid ((HO.out.trans (lo_only l2)).trans (only_set w2 g k (.slice a l d))); have TT := Lib.hid (HTk.out w2 l2).1; obtain ⟨x, hx⟩ := (HTk.out w2 l2).2; have hfz := (HT.out.lo hgr l2).open_ k; clear l2 CK HTk)
          go_roundw
          case rel => exact ⟨j + 1, k + 1, by omega, by omega, by omega, by go_num, by go_num, HLk, TT, LL⟩
          case measure => simp [intOf]; omega
      · obtain rfl : j = n := by omega
        have hge : ¬ (j : Int) < (j : Int) := by omega
        have hcl : ∀ ty, (Builtin.clear_ #[47] ty #[.slice (some ⟨g, k, none⟩) (j - k) (c - k)]).run Try.prog wr = .ok (.tuple #[]) (wr.setCells g k (List.replicate (j - k) (.slice none 0 0))) :=
          fun ty => Lib.run_clear_slice wr _ _ ty _ Try.underlying47 zero_row rfl rfl g k _ _ (by omega) (fun t ht => by obtain ⟨x, hx⟩ := HT.out.there (k + t) (by omega); rw [hx]; rfl) (fun t ht => HT.out.open_ (k + t))
        have CC := Lib.hid (fun t (ht : t < k) => show (wr.setCells g k (List.replicate (j - k) (.slice none 0 0))).cell? ⟨g, t, none⟩ = some (us ((kpF f j).getD t 0)) by
          rw [World.cell?_setCells_out g _ k wr ⟨g, t, none⟩ (fun _ _ => .inl ht)]
          exact HT.out.done t (by rw [← HKL.out]; exact ht))
        have OO := Lib.hid (HO.out.trans (only_setCells g (List.replicate (j - k) (.slice none 0 0)) k wr))
        have HE := Lib.hid HKL.out
        have hkc : k ≤ c := by omega
        go_wp2
        go_ret
        exact ⟨by rw [← HNN.out, ← HE.out]; rfl, fun t ht => CC.out t (by rw [HE.out, HNN.out]; exact ht), OO.out⟩
end Go.Proofs.Ytgjchkcjlmklbaa
