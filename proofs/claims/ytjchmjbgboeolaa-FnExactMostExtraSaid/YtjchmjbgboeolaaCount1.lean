/- The contracts of the program's counters: one more load that makes a row stand. -/
import Derived.Test.YtjchmjbgboeolaaForms6
import Derived.Test.YtjchmjbgboeolaaScan
namespace Go.Proofs.Ytjchmjbgboeolaa
open Go.RowKit
/-- With one more load: a row that stands on a base. -/
def standB (xs : List (Int × Int)) (a b : Int) (x : Int × Int) : Bool := rowB (xs ++ [x]) && baseB a b && decide (sideF a b (xs ++ [x]) = 0)
theorem rowB_app {xs ys : List (Int × Int)} (h : rowB (xs ++ ys) = true) : rowB xs = true ∧ rowB ys = true := by
  have hz := (rowB_iff _).1 h
  have hs := hz.short
  simp only [List.length_append] at hs
  exact ⟨(rowB_iff _).2 ⟨by omega, fun x hx => hz.each x (by simp [hx])⟩, (rowB_iff _).2 ⟨by omega, fun x hx => hz.each x (by simp [hx])⟩⟩
theorem sRow_new (w : World) (p q : Int) (t : TypeId) : SRow (w.alloc (.cells #[.int .i64 p, .int .i64 q] t)) (.slice (some ⟨w.heap.size, 0, none⟩) 1 1) [(p, q)] :=
  ⟨w.heap.size, 0, 1, rfl, .inr (by simp), fun j hj => by
    obtain rfl : j = 0 := by simpa using hj
    exact ⟨(World.cell?_alloc_at _ _ _ _ rfl).trans rfl, (World.cell?_alloc_at _ _ _ _ rfl).trans rfl⟩⟩
set_option maxHeartbeats 1600000 in
theorem standsWith_is (v : Value) (xs : List (Int × Int)) (p q a b : Int) (r : Bool) (hr : standB xs a b (p, q) = r) (w : World) (h : SRow w v xs) :
    Calls Try.prog 48 #[v, .agg #[.int .i64 p, .int .i64 q], .int .i64 a, .int .i64 b] w fun e w' => e = .returned (.bool r) ∧ Below w.heap.size w w' := by
  have hal : Below w.heap.size w ((w.alloc (.cells #[.int .i64 p, .int .i64 q] 46)).alloc (.cells #[.int .i64 p, .int .i64 q] 46)) := alloc_two _ _ _
  have J := JoinRows_is v _ xs [(p, q)] _ (h.lo hal) (sRow_new (w.alloc (.cells #[.int .i64 p, .int .i64 q] 46)) p q 46)
  have hs1 : (w.alloc (.cells #[.int .i64 p, .int .i64 q] 46)).heap.size = w.heap.size + 1 := by simp
  rw [hs1] at J
  have HA := Lib.hid hal
  unfold Made mkF at J
  clear h hal hs1
  cases hR : rowB (xs ++ [(p, q)]) with
  | false =>
    obtain rfl : false = r := by rw [← hr]; unfold standB; rw [hR]; rfl
    rw [hR, Bool.and_false] at J
    have JJ := Lib.hid J
    clear J hr hR
    go_enter Try.func48, Try.ntmps48
    go_wp2_with fail
    refine JJ.out.mono ?_
    rintro e w1 ⟨v1, rfl, _, l1⟩
    have LL := Lib.hid (lo_on HA.out l1)
    clear l1
    go_wp2
    go_ret
    exact ⟨rfl, LL.out⟩
  | true =>
    have hx := rowB_app hR
    rw [show (rowB xs && rowB [(p, q)]) = true by rw [hx.1, hx.2]; rfl, hR, if_pos rfl, show KeptF (xs ++ [(p, q)]) = xs ++ [(p, q)] by unfold KeptF; rw [if_pos hR], Bool.and_self] at J
    have JJ := Lib.hid J
    have hr2 : (baseB a b && decide (sideF a b (xs ++ [(p, q)]) = 0)) = r := by rw [← hr]; unfold standB; rw [hR]; rfl
    have HR := Lib.hid hR
    clear J hr hx
    cases hb : baseB a b with
    | false =>
      obtain rfl : false = r := by rw [← hr2, hb]; rfl
      go_enter Try.func48, Try.ntmps48
      go_wp2_with fail
      refine JJ.out.mono ?_
      rintro e w1 ⟨v1, rfl, o1, l1⟩
      have LL := Lib.hid (lo_on HA.out l1)
      have T := Lib.hid (tipSide_no v1 _ a b w1 (loadRow_own o1) (by rw [hb, Bool.and_false]))
      clear l1 o1 JJ hR hr2 hb
      go_wp2_with fail
      refine T.out.mono ?_
      rintro e w2 ⟨rfl, l2⟩
      go_wp2
      go_ret
      exact ⟨rfl, lo_on LL.out l2⟩
    | true =>
      rw [hb, Bool.true_and] at hr2
      obtain ⟨s, hs⟩ : ∃ s, sideF a b (xs ++ [(p, q)]) = s := ⟨_, rfl⟩
      rw [hs] at hr2
      have T0 := Lib.hid (fun v1 w1 (o1 : LoadRow w1 v1 (xs ++ [(p, q)])) => tipSide_yes v1 _ a b w1 o1 ((rowB_iff _).1 hR) hb)
      rw [hs] at T0
      clear hR hs hb
      have hsb : (s == 0) = r := by rw [← hr2]; rfl
      cases r
      all_goals
        (clear hr2
         go_enter Try.func48, Try.ntmps48
         go_wp2_with fail
         refine JJ.out.mono ?_
         rintro e w1 ⟨v1, rfl, o1, l1⟩
         have LL := Lib.hid (lo_on HA.out l1)
         have T := Lib.hid (T0.out v1 w1 (loadRow_own o1))
         clear l1 o1 JJ T0
         go_wp2_with fail
         refine T.out.mono ?_
         rintro e w2 ⟨rfl, l2⟩
         go_wp2
         go_ret
         exact ⟨rfl, lo_on LL.out l2⟩)
set_option maxHeartbeats 1600000 in
theorem standClo_is (v : Value) (xs : List (Int × Int)) (a b m : Int) (B x : Nat) (r : Bool) (hr : standB xs a b ((x : Int), m) = r) (w : World) (h : SRow w v xs)
    (c0 : w.cell? ⟨B, 0, none⟩ = some v) (c1 : w.cell? ⟨B + 1, 0, none⟩ = some (.int .i64 a)) (c2 : w.cell? ⟨B + 1 + 1, 0, none⟩ = some (.int .i64 b)) (c3 : w.cell? ⟨B + 1 + 1 + 1, 0, none⟩ = some (.int .i64 m)) :
    Calls Try.prog 47 #[.int .i64 (x : Int), .pointer (some ⟨B, 0, none⟩), .pointer (some ⟨B + 1 + 1 + 1, 0, none⟩), .pointer (some ⟨B + 1, 0, none⟩), .pointer (some ⟨B + 1 + 1, 0, none⟩)] w fun e w' => e = .returned (.bool r) ∧ Below w.heap.size w w' := by
  have SW := Lib.hid (standsWith_is v xs x m a b r hr w h)
  obtain ⟨g, o, c, rfl, _⟩ := h
  clear hr
  go_enter Try.func47, Try.ntmps47
  go_wp2_with fail
  refine SW.out.mono ?_
  rintro e w1 ⟨rfl, l1⟩
  have LL := Lib.hid l1
  clear l1 SW c0 c1 c2 c3
  go_wp2
  go_ret
  exact ⟨rfl, LL.out⟩
set_option maxRecDepth 100000 in
set_option maxHeartbeats 1600000 in
theorem spanOf_s (B : Nat) (st : Nat → Bool) (w : World) (hc : ∀ (x : Nat) (w1 : World), Below w.heap.size w w1 → Calls Try.prog 47 #[.int .i64 (x : Int), .pointer (some ⟨B, 0, none⟩), .pointer (some ⟨B + 1 + 1 + 1, 0, none⟩), .pointer (some ⟨B + 1, 0, none⟩), .pointer (some ⟨B + 1 + 1, 0, none⟩)] w1 fun e w' => e = .returned (.bool (st x)) ∧ Below w1.heap.size w1 w') :
    Calls Try.prog 46 #[.int .i64 0, .int .i64 60, .func (.func 47) #[] #[.pointer (some ⟨B, 0, none⟩), .pointer (some ⟨B + 1 + 1 + 1, 0, none⟩), .pointer (some ⟨B + 1, 0, none⟩), .pointer (some ⟨B + 1 + 1, 0, none⟩)]] w fun e w' => e = .returned (.tuple #[.int .i64 (loF st 61), .int .i64 (hiF st 61), .bool (fdF st 61)]) ∧ Below w.heap.size w w' := by
  have HC := Lib.hid hc
  clear hc
  go_enter Try.func46, Try.ntmps46
  go_wp2
  go_loopw [9, 10, 11, 12] (fun x y z i wr => ∃ k : Nat, k ≤ 61 ∧ i = .int .i64 k ∧ x = .int .i64 (loF st k) ∧ y = .int .i64 (hiF st k) ∧ z = .bool (fdF st k) ∧ Hid (Below w.heap.size w wr)) (fun _ _ _ i _ => 61 - (intOf i).toNat)
  case atStart => exact ⟨0, by omega, rfl, rfl, rfl, rfl, Lib.hid (Below.refl _ _)⟩
  case round =>
    obtain ⟨k, hk, rfl, rfl, rfl, rfl, hbl⟩ := hrel
    by_cases hlt : k < 61
    · have hlt' : (k : Int) ≤ 60 := by omega
      have CK := Lib.hid (HC.out k wr hbl.out)
      have H1 := Lib.hid (show loF st (k + 1) = if st k = true ∧ fdF st k = false then (k : Int) else loF st k from rfl)
      have H2 := Lib.hid (show hiF st (k + 1) = if st k = true then (k : Int) else hiF st k from rfl)
      have H3 := Lib.hid (show fdF st (k + 1) = (fdF st k || st k) from rfl)
      generalize loF st k = lo at *
      generalize hiF st k = hi at *
      generalize fdF st k = fd at *
      generalize st k = s at *
      cases s
      · go_wp2_with (go_at_call 47; refine (CK.out).mono ?_; rintro e w1 ⟨rfl, l1⟩; have LL := Lib.hid (lo_on hbl.out l1); clear l1 CK hbl)
        go_roundw
        case rel => exact ⟨k + 1, by omega, by go_num, by rw [H1.out]; simp, by rw [H2.out]; simp, by rw [H3.out]; simp, LL⟩
        case measure => simp [intOf]; omega
      · cases fd
        all_goals
          (go_wp2_with (go_at_call 47; refine (CK.out).mono ?_; rintro e w1 ⟨rfl, l1⟩; have LL := Lib.hid (lo_on hbl.out l1); clear l1 CK hbl)
           go_roundw
           case rel => exact ⟨k + 1, by omega, by go_num, by rw [H1.out]; simp, by rw [H2.out]; simp, by rw [H3.out]; simp, LL⟩
           case measure => simp [intOf]; omega)
    · obtain rfl : k = 61 := by omega
      clear HC
      obtain ⟨lo, hlo⟩ : ∃ x, loF st 61 = x := ⟨_, rfl⟩
      obtain ⟨hi, hhi⟩ : ∃ x, hiF st 61 = x := ⟨_, rfl⟩
      obtain ⟨fd, hfd⟩ : ∃ x, fdF st 61 = x := ⟨_, rfl⟩
      have E := Lib.hid (show Ending.returned (.tuple #[.int .i64 lo, .int .i64 hi, .bool fd]) = Ending.returned (.tuple #[.int .i64 (loF st 61), .int .i64 (hiF st 61), .bool (fdF st 61)]) by rw [hlo, hhi, hfd])
      rw [hlo, hhi, hfd]
      clear hlo hhi hfd
      go_wp2
      exact bodyPost_ret (v := .tuple #[.int .i64 lo, .int .i64 hi, .bool fd]) (by simp [results, Try.results46, go_sem]) rfl ⟨E.out, hbl.out⟩
set_option maxHeartbeats 1600000 in
theorem standPlaces_is (v : Value) (xs : List (Int × Int)) (a b m : Int) (w : World) (h : SRow w v xs) :
    Calls Try.prog 25 #[v, .int .i64 a, .int .i64 b, .int .i64 m] w fun e w' => e = .returned (.tuple #[.int .i64 (loF (fun k => standB xs a b ((k : Int), m)) 61), .int .i64 (hiF (fun k => standB xs a b ((k : Int), m)) 61), .bool (fdF (fun k => standB xs a b ((k : Int), m)) 61)]) ∧ Below w.heap.size w w' := by
  have h' := h
  obtain ⟨gv, ov, cv, rfl, _⟩ := h'
  have hw : Below w.heap.size w ((((w.alloc (.cells #[.slice (some ⟨gv, ov, none⟩) xs.length cv] 24)).alloc (.cells #[.int .i64 a] 3)).alloc (.cells #[.int .i64 b] 3)).alloc (.cells #[.int .i64 m] 3)) :=
    ((((Below.refl _ _).alloc (Nat.le_refl _) _).alloc (by simp) _).alloc (by simp <;> omega) _).alloc (by simp <;> omega) _
  have hs := h.lo hw
  obtain ⟨W, hW⟩ : ∃ W, (((w.alloc (.cells #[.slice (some ⟨gv, ov, none⟩) xs.length cv] 24)).alloc (.cells #[.int .i64 a] 3)).alloc (.cells #[.int .i64 b] 3)).alloc (.cells #[.int .i64 m] 3) = W := ⟨_, rfl⟩
  have hsz : W.heap.size = w.heap.size + 1 + 1 + 1 + 1 := by rw [← hW]; simp
  have c0 : W.cell? ⟨w.heap.size, 0, none⟩ = some (.slice (some ⟨gv, ov, none⟩) xs.length cv) := by
    rw [← hW]
    refine (World.cell?_of_block (Below.heap_alloc _ _ _ (by simp <;> omega))).trans ((World.cell?_of_block (Below.heap_alloc _ _ _ (by simp <;> omega))).trans ((World.cell?_of_block (Below.heap_alloc _ _ _ (by simp))).trans ?_))
    exact (World.cell?_alloc_at _ _ _ _ rfl).trans rfl
  have c1 : W.cell? ⟨w.heap.size + 1, 0, none⟩ = some (.int .i64 a) := by
    rw [← hW]
    refine (World.cell?_of_block (Below.heap_alloc _ _ _ (by simp <;> omega))).trans ((World.cell?_of_block (Below.heap_alloc _ _ _ (by simp))).trans ?_)
    exact (World.cell?_alloc_at _ _ _ _ (by simp)).trans rfl
  have c2 : W.cell? ⟨w.heap.size + 1 + 1, 0, none⟩ = some (.int .i64 b) := by
    rw [← hW]
    refine (World.cell?_of_block (Below.heap_alloc _ _ _ (by simp))).trans ?_
    exact (World.cell?_alloc_at _ _ _ _ (by simp)).trans rfl
  have c3 : W.cell? ⟨w.heap.size + 1 + 1 + 1, 0, none⟩ = some (.int .i64 m) := by
    rw [← hW]
    exact (World.cell?_alloc_at _ _ _ _ (by simp)).trans rfl
  rw [hW] at hw hs
  have SP := Lib.hid (spanOf_s w.heap.size (fun k => standB xs a b ((k : Int), m)) W (fun x w1 l => standClo_is _ xs a b m w.heap.size x _ rfl w1 (hs.lo l)
    ((l.cell (p := ⟨w.heap.size, 0, none⟩) (by show w.heap.size < W.heap.size; omega)).trans c0) ((l.cell (p := ⟨w.heap.size + 1, 0, none⟩) (by show w.heap.size + 1 < W.heap.size; omega)).trans c1)
    ((l.cell (p := ⟨w.heap.size + 1 + 1, 0, none⟩) (by show w.heap.size + 1 + 1 < W.heap.size; omega)).trans c2) ((l.cell (p := ⟨w.heap.size + 1 + 1 + 1, 0, none⟩) (by show w.heap.size + 1 + 1 + 1 < W.heap.size; omega)).trans c3)))
  have LW := Lib.hid hw
  clear hs h hw hsz c0 c1 c2 c3
  generalize (loF (fun k => standB xs a b ((k : Int), m)) 61) = lo at *
  generalize (hiF (fun k => standB xs a b ((k : Int), m)) 61) = hi at *
  generalize (fdF (fun k => standB xs a b ((k : Int), m)) 61) = fd at *
  go_enter Try.func25, Try.ntmps25
  go_wp2_with fail
  refine SP.out.mono ?_
  rintro e w1 ⟨rfl, l1⟩
  have LL := Lib.hid (lo_on LW.out l1)
  clear l1 SP hW
  go_wp2
  exact bodyPost_ret (v := .tuple #[.int .i64 lo, .int .i64 hi, .bool fd]) (by simp [results, Try.results25, go_sem]) rfl ⟨rfl, LL.out⟩
end Go.Proofs.Ytjchmjbgboeolaa
