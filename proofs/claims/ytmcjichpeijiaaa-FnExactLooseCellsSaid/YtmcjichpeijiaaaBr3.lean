/- The side of a body over what it rests on, and its centre, both sides. -/
import Derived.Test.YtmcjichpeijiaaaBr2
import Derived.Test.YtmcjichpeijiaaaImpl4
namespace Go.Proofs.Ytmcjichpeijiaaa
open Go.RowKit Go.Maps
theorem ft_bounds (T : Int × Int → Bool) (xs : List (Int × Int)) (h : ftB T xs = true) : 0 ≤ ftLo T xs ∧ ftLo T xs ≤ ftHi T xs ∧ ftHi T xs ≤ 12 := by
  obtain ⟨l, q, e1, e2, e3, e4, e5, e6, e7⟩ := scan_at (restB T xs) 12 h
  have b1 := e7 l (by omega) e5
  have b2 := e7 q (by omega) e6
  unfold ftLo ftHi
  rw [if_pos h, if_pos h, e1, e2]
  omega
set_option maxRecDepth 100000 in
set_option maxHeartbeats 1600000 in
theorem sideOver_gr (T : Int × Int → Bool) (v : Value) (xs : List (Int × Int)) (w : World) (hr : LoadRow w v xs) (hb : BodF xs)
    (RC : ∀ c ∈ xs, ∀ w1 : World, Below w.heap.size w w1 → Calls Try.prog 96 #[.agg #[.int .i64 c.1, .int .i64 c.2]] w1 fun e w' => e = .returned (.bool (T c)) ∧ Below w1.heap.size w1 w') :
    Calls Try.prog 98 #[v, .func (.func 96) #[] #[]] w fun e w' => e = .returned (.tuple #[.int .i64 (if ftB T xs = true then ovF (midF Prod.fst xs) xs.length (ftLo T xs) (ftHi T xs) else 0), .bool (ftB T xs)]) ∧ Below w.heap.size w w' := by
  have F := Lib.hid (footOf_gr T v xs w hr (by have := hb.short; omega) RC)
  have B := Lib.hid (ft_bounds T xs)
  have MX := Lib.hid (fun (w1 : World) (l : Below w.heap.size w w1) => middlesOf_x v xs w1 (hr.lo l) hb.sm (by have := hb.short; omega))
  have TS := Lib.hid (fun (u : Value) (w2 : World) (hu : LoadRow w2 u (midsL Prod.fst xs)) (h : ftB T xs = true) => by
    have t := tipSide_yes u (midsL Prod.fst xs) (2 * ftLo T xs) (2 * ftHi T xs) w2 hu (mids_row Prod.fst hb.short (fun c hc => by have := hb.hi c hc; omega)) ((baseB_iff _ _).2 (by have := ft_bounds T xs h; omega))
    rw [mids_side] at t
    exact t)
  generalize ovF (midF Prod.fst xs) xs.length (ftLo T xs) (ftHi T xs) = r at *
  generalize ftB T xs = fb at *
  generalize ftLo T xs = fl at *
  generalize ftHi T xs = fh at *
  obtain ⟨av, cv, rfl, _⟩ := hr
  clear RC hb
  cases fb with
  | false =>
    go_enter Try.func98, Try.ntmps98
    go_wp2_with fail
    refine F.out.mono ?_
    rintro e w1 ⟨rfl, l1⟩
    go_wp2
    go_ret2
    exact ⟨rfl, l1⟩
  | true =>
    obtain ⟨b1, b2, b3⟩ := B.out rfl
    have TT := Lib.hid (fun u w2 hu => TS.out u w2 hu rfl)
    clear B TS
    go_enter Try.func98, Try.ntmps98
    go_wp2_with fail
    refine F.out.mono ?_
    rintro e w1 ⟨rfl, l1⟩
    have M2 := Lib.hid (MX.out w1 l1)
    go_wp2_with fail
    refine M2.out.mono ?_
    rintro e w2 ⟨u, rfl, hu, l2⟩
    have T2 := Lib.hid (TT.out u w2 hu)
    have L2 := Lib.hid (lo_on l1 l2)
    clear hu
    go_wp2_with fail
    refine T2.out.mono ?_
    rintro e w3 ⟨rfl, l3⟩
    go_wp2
    go_ret2
    exact ⟨rfl, lo_on L2.out l3⟩
theorem side_gr {xs : List (Int × Int)} (h : BodF xs) : (if ftB grB xs = true then ovF (midF Prod.fst xs) xs.length (ftLo grB xs) (ftHi grB xs) else 0) = sideL xs := by
  obtain ⟨h1, h2, h3⟩ := ft_ground h
  rw [if_pos h1, h2, h3]; rfl
theorem bodySide_any (v : Value) (xs : List (Int × Int)) (w : World) (hr : LoadRow w v xs) (hw : WfL xs) (hn : xs.length ≤ 2000000) :
    Calls Try.prog 34 #[v] w fun e w' => e = .returned (.tuple #[.int .i64 (bodI (bodB xs) (sideL xs)), .bool (bodB xs)]) ∧ Below w.heap.size w w' := by
  have C := Lib.hid (isBody_any v xs w hr hw hn)
  have F := Lib.hid (fun (w1 : World) (l : Below w.heap.size w w1) (hb : bodB xs = true) => show Calls Try.prog 98 #[v, .func (.func 96) #[] #[]] w1 fun e w' => e = .returned (.tuple #[.int .i64 (sideL xs), .bool true]) ∧ Below w1.heap.size w1 w' by
    have t := sideOver_gr grB v xs w1 (hr.lo l) ((bodB_iff xs).1 hb) (fun c _ w2 _ => isOnGround_any c.1 c.2 w2)
    rw [side_gr ((bodB_iff xs).1 hb), (ft_ground ((bodB_iff xs).1 hb)).1] at t
    exact t)
  generalize bodB xs = b at *
  generalize sideL xs = s at *
  obtain ⟨a, c, rfl, _⟩ := hr
  unfold bodI
  cases b with
  | false =>
    go_enter Try.func34, Try.ntmps34
    go_wp2_with fail
    refine C.out.mono ?_
    rintro e w1 ⟨rfl, l1⟩
    go_wp2
    go_ret2
    exact ⟨rfl, l1⟩
  | true =>
    have F1 := Lib.hid (fun w1 l => F.out w1 l rfl)
    clear F
    go_enter Try.func34, Try.ntmps34
    go_wp2_with fail
    refine C.out.mono ?_
    rintro e w1 ⟨rfl, l1⟩
    have F2 := Lib.hid (F1.out w1 l1)
    go_wp2_with fail
    refine F2.out.mono ?_
    rintro e w2 ⟨rfl, l2⟩
    go_wp2
    go_ret2
    exact ⟨rfl, lo_on l1 l2⟩
/-- Does a body stand? -/
noncomputable def stanB (xs : List (Int × Int)) : Bool := bodB xs && decide (sideL xs = 0)
theorem bodyStands_any (v : Value) (xs : List (Int × Int)) (w : World) (hr : LoadRow w v xs) (hw : WfL xs) (hn : xs.length ≤ 2000000) :
    Calls Try.prog 104 #[v] w fun e w' => e = .returned (.bool (stanB xs)) ∧ Below w.heap.size w w' := by
  have C := Lib.hid (bodySide_any v xs w hr hw hn)
  unfold stanB
  generalize bodB xs = b at *
  generalize sideL xs = s at *
  obtain ⟨a, c, rfl, _⟩ := hr
  unfold bodI at C
  cases b with
  | false =>
    simp only [Bool.false_and]
    go_enter Try.func104, Try.ntmps104
    go_wp2_with fail
    refine C.out.mono ?_
    rintro e w1 ⟨rfl, l1⟩
    go_wp2
    go_ret
    exact ⟨rfl, l1⟩
  | true =>
    simp only [Bool.true_and]
    by_cases h : s = 0
    · subst h
      go_enter Try.func104, Try.ntmps104
      go_wp2_with fail
      refine C.out.mono ?_
      rintro e w1 ⟨rfl, l1⟩
      go_wp2
      go_ret
      exact ⟨rfl, l1⟩
    · have h' : (s == 0) = false := by simpa using h
      rw [decide_eq_false h]
      go_enter Try.func104, Try.ntmps104
      go_wp2_with fail
      refine C.out.mono ?_
      rintro e w1 ⟨rfl, l1⟩
      go_wp2
      go_ret
      exact ⟨rfl, l1⟩
end Go.Proofs.Ytmcjichpeijiaaa
