/- The contracts of the model's weights and seatings. -/
import Derived.Test.YtcfbnadefdcjaaaSwP
import Derived.Test.YtcfbnadefdcjaaaIn
import Derived.Test.YtcfbnadefdcjaaaIntLaw
import Derived.Deep.QuietTactic
import Derived.BigQuiet
namespace Go.Proofs.Ytcfbnadefdcjaaa
open Go.RowKit
noncomputable def arwB (xs : List Int) (k : Int) : Bool := propB (∀ i, i < xs.length → 1 ≤ xs.getD i 0 ∧ xs.getD i 0 ≤ 99) && decide ((xs.length : Int) = k)
set_option maxRecDepth 100000 in
set_option maxHeartbeats 1600000 in
theorem l5Arw_any (v : Value) (xs : List Int) (k : Int) (w : World) (hv : IntRow w v xs) (hn : xs.length ≤ 2000000) :
    Calls Try.prog 230 #[v, .int .i64 k] w fun e w' => e = .returned (.bool (arwB xs k)) ∧ w = w' := by
  obtain ⟨a, c, rfl, hr⟩ := hv
  have HR := Lib.hid hr
  have HYES := Lib.hid (fun (h : ∀ i, i < xs.length → 1 ≤ xs.getD i 0 ∧ xs.getD i 0 ≤ 99) => show arwB xs k = decide ((xs.length : Int) = k) by unfold arwB; rw [propB_yes h, Bool.true_and])
  have HNO := Lib.hid (fun i (hi : i < xs.length) (h : ¬ (1 ≤ xs.getD i 0 ∧ xs.getD i 0 ≤ 99)) => show arwB xs k = false by unfold arwB; rw [propB_no (fun f => h (f i hi)), Bool.false_and])
  obtain ⟨r, hrr⟩ : ∃ r, arwB xs k = r := ⟨_, rfl⟩
  rw [hrr] at HYES HNO ⊢
  clear hr hrr
  go_enter Try.func230, Try.ntmps230
  go_wp2
  go_loopw [5] (fun x wr => ∃ i : Nat, i ≤ xs.length ∧ x = .int .i64 i ∧ Hid (∀ j, j < i → 1 ≤ xs.getD j 0 ∧ xs.getD j 0 ≤ 99) ∧ wr = w) (fun x _ => xs.length - (intOf x).toNat)
  case atStart => exact ⟨0, Nat.zero_le _, rfl, Lib.hid (fun i h => by omega), rfl⟩
  case round =>
    obtain ⟨i, hi, rfl, HZ, rfl⟩ := hrel
    by_cases hlt : i < xs.length
    · have hlt' : (i : Int) < (xs.length : Int) := by omega
      have hr := HR.out
      rcases hr with h | ⟨g, off, rfl, hg, hc⟩
      · subst h; simp at hlt
      · have ci := hc i hlt
        have HNi := Lib.hid (HNO.out i hlt)
        have HZs := Lib.hid (fun (h : 1 ≤ xs.getD i 0 ∧ xs.getD i 0 ≤ 99) => show ∀ j, j < i + 1 → 1 ≤ xs.getD j 0 ∧ xs.getD j 0 ≤ 99 from fun j hj => by
          by_cases e : j = i
          · rw [e]; exact h
          · exact HZ.out j (by omega))
        clear hc HR
        generalize xs.getD i 0 = x at ci HNi HZs
        by_cases hx : 1 ≤ x ∧ x ≤ 99
        · have HI := Lib.hid (fun w => l1In_is x 1 99 true (by simp; omega) w)
          have HZN := Lib.hid (HZs.out hx)
          clear HNi HZs
          go_wp2_with fail
          refine (HI.out _).mono ?_
          rintro e w' ⟨rfl, rfl⟩
          go_wp2
          go_roundw
          case rel => exact ⟨i + 1, by omega, by go_num, HZN, by trivial⟩
          case measure => simp [intOf]; omega
        · have HI := Lib.hid (fun w => l1In_is x 1 99 false (by simp; omega) w)
          have hrf := HNi.out hx
          subst hrf
          clear HNi HZs
          go_wp2_with fail
          refine (HI.out _).mono ?_
          rintro e w' ⟨rfl, rfl⟩
          go_wp2
          go_ret
          exact ⟨rfl, rfl⟩
    · obtain rfl : i = xs.length := by omega
      have hge : ¬ (xs.length : Int) < (xs.length : Int) := by omega
      have HRT := Lib.hid (HYES.out HZ.out)
      clear HYES HNO
      by_cases hk : (xs.length : Int) = k
      · have hkb : ((xs.length : Int) == k) = true := by simp [hk]
        have HKD := Lib.hid (show decide ((xs.length : Int) = k) = true by simp [hk])
        clear hk
        go_wp2
        go_ret
        exact ⟨congrArg (fun b => Ending.returned (Value.bool b)) (HRT.out.trans HKD.out).symm, rfl⟩
      · have hkb : ((xs.length : Int) == k) = false := by simp [hk]
        have HKD := Lib.hid (show decide ((xs.length : Int) = k) = false by simp [hk])
        clear hk
        go_wp2
        go_ret
        exact ⟨congrArg (fun b => Ending.returned (Value.bool b)) (HRT.out.trans HKD.out).symm, rfl⟩
theorem quiet_all9 {P : Program} {f : FuncId} {args : Array Value} {w : World} {v : Value} (h : ∀ w, Calls P f args w fun e w' => e = .returned v ∧ w' = w) (n : Nat) :
    Calls P f args (w.drewN n) fun e w'' => e = .returned v ∧ ∃ m, w'' = w.drewN m :=
  (h _).mono fun _ _ ⟨he, hq⟩ => ⟨he, n, hq⟩
theorem quiet_one9 {P : Program} {f : FuncId} {args : Array Value} {w : World} {v : Value} {n : Nat} (h : Calls P f args (w.drewN n) fun e w' => e = .returned v ∧ w' = w.drewN n) :
    Calls P f args (w.drewN n) fun e w'' => e = .returned v ∧ ∃ m, w'' = w.drewN m :=
  h.mono fun _ _ ⟨he, hq⟩ => ⟨he, n, hq⟩
theorem in_yes9 {x a b : Int} (h : a ≤ x ∧ x ≤ b) : (decide (a ≤ x) && decide (x ≤ b)) = true := by simp [h]
theorem in_no9 {x a b : Int} (h : ¬ (a ≤ x ∧ x ≤ b)) : (decide (a ≤ x) && decide (x ≤ b)) = false := by simp; omega
theorem drw9 (w : World) (n : Nat) : Below w.heap.size w (w.drewN n) := ⟨rfl, rfl, rfl, Nat.le_refl _, fun _ _ => rfl⟩
theorem drw1 (w : World) : Below w.heap.size w w.drew := ⟨rfl, rfl, rfl, Nat.le_refl _, fun _ _ => rfl⟩
theorem wts_are (xs : List Int) : wtsB xs = (arwB xs xs.length && decide ((xs.length : Int) ≤ 12)) := by
  unfold wtsB arwB
  rw [decide_eq_true rfl, Bool.and_true, Bool.eq_iff_iff, propB_iff, Bool.and_eq_true, propB_iff, decide_eq_true_iff]
  exact ⟨fun h => ⟨h.each, by have := h.short; omega⟩, fun h => ⟨by omega, h.1⟩⟩
theorem l9Weights_is (v : Value) (xs : List Int) (r : Bool) (h : wtsB xs = r) (w : World) (hv : IntRow w v xs) (hn : xs.length ≤ 2000000) :
    Calls Try.prog 202 #[v] w fun e w' => e = .returned (.bool r) ∧ w = w' := by
  subst h
  rw [wts_are]
  have C := Lib.hid (l5Arw_any v xs xs.length w hv hn)
  obtain ⟨a, c, rfl, _⟩ := hv
  generalize arwB xs xs.length = b at *
  by_cases h12 : (xs.length : Int) ≤ 12
  all_goals cases b
  all_goals go_enter Try.func202, Try.ntmps202
  all_goals go_wp2_with fail
  all_goals refine C.out.mono ?_
  all_goals rintro e w' ⟨rfl, rfl⟩
  all_goals go_wp2
  all_goals go_ret
  all_goals exact ⟨by simp [h12], rfl⟩
theorem l9Ask_is (v : Value) (xs : List Int) (k : Int) (r : Bool) (h : askW xs k = r) (w : World) (hv : IntRow w v xs) (hn : xs.length ≤ 2000000) :
    Calls Try.prog 157 #[v, .int .i64 k] w fun e w' => e = .returned (.bool r) ∧ w = w' := by
  subst h
  unfold askW
  have C := Lib.hid (l9Weights_is v xs _ rfl w hv hn)
  have I := Lib.hid (fun w => l1In_is k 1 6 _ rfl w)
  clear hv
  generalize wtsB xs = b at *
  generalize (decide (1 ≤ k) && decide (k ≤ 6)) = b2 at *
  cases b with
  | false =>
    go_enter Try.func157, Try.ntmps157
    go_wp2_with fail
    refine C.out.mono ?_
    rintro e w' ⟨rfl, rfl⟩
    go_wp2
    go_ret
    exact ⟨rfl, rfl⟩
  | true =>
    go_enter Try.func157, Try.ntmps157
    go_wp2_with fail
    refine C.out.mono ?_
    rintro e w' ⟨rfl, rfl⟩
    go_wp2_with fail
    refine (I.out _).mono ?_
    rintro e w' ⟨rfl, rfl⟩
    go_wp2
    go_ret
    exact ⟨rfl, rfl⟩
theorem hasI_yes {xs : List Int} {z : Int} {k : Nat} (hk : k < xs.length) (h : xs.getD k 0 = z) : xs.contains z = true := by
  rw [List.contains_iff_mem, ← h, List.getD, List.getElem?_eq_getElem hk, Option.getD_some]
  exact List.getElem_mem _
theorem hasI_no {xs : List Int} {z : Int} (h : ∀ j, j < xs.length → xs.getD j 0 ≠ z) : xs.contains z = false := by
  rw [← Bool.not_eq_true, List.contains_iff_mem]
  intro hm
  obtain ⟨j, hj, e⟩ := List.mem_iff_getElem.1 hm
  exact h j hj (by rw [List.getD, List.getElem?_eq_getElem hj]; exact e)
set_option maxRecDepth 100000 in
set_option maxHeartbeats 1600000 in
theorem l1Has_any (v : Value) (xs : List Int) (z : Int) (w : World) (hr : IntRow w v xs) (hn : xs.length ≤ 2000000) :
    Calls Try.prog 168 #[v, .int .i64 z] w fun e w' => e = .returned (.bool (xs.contains z)) ∧ w' = w := by
  have HY := Lib.hid (fun k (hk : k < xs.length) (h : xs.getD k 0 = z) => hasI_yes hk h)
  have HN := Lib.hid (fun (h : ∀ j, j < xs.length → xs.getD j 0 ≠ z) => hasI_no h)
  generalize xs.contains z = r at *
  obtain ⟨a, c, rfl, hr⟩ := hr
  go_enter Try.func168, Try.ntmps168
  go_wp2
  go_loopw [5] (fun i wr => ∃ k : Nat, k ≤ xs.length ∧ i = .int .i64 k ∧ Hid (∀ j, j < k → xs.getD j 0 ≠ z) ∧ wr = w) (fun i _ => xs.length - (intOf i).toNat)
  case atStart => exact ⟨0, Nat.zero_le _, rfl, Lib.hid (fun j h => by omega), rfl⟩
  case round =>
    obtain ⟨k, hk, rfl, HL, rfl⟩ := hrel
    by_cases hlt : k < xs.length
    · rcases hr with h | ⟨g, off, rfl, hg, hc⟩
      · subst h; simp at hlt
      have hlt' : (k : Int) < (xs.length : Int) := by omega
      have c1 := hc k hlt
      have HYk := Lib.hid (HY.out k hlt)
      have HLk := Lib.hid (fun (h : xs.getD k 0 ≠ z) => show ∀ j, j < k + 1 → xs.getD j 0 ≠ z from fun j hj => by
        by_cases e : j = k
        · subst e; exact h
        · exact HL.out j (by omega))
      generalize xs.getD k 0 = x at c1 HYk HLk
      clear hc
      by_cases hx : x = z
      · have HF := Lib.hid (HYk.out hx)
        have hq : (x == z) = true := by simp [hx]
        clear hx
        go_wp2
        go_ret
        exact ⟨by rw [HF.out]; rfl, rfl⟩
      · have HLn := Lib.hid (HLk.out hx)
        have hq : (x == z) = false := by simpa using hx
        clear hx
        go_wp2
        go_roundw
        case rel => exact ⟨k + 1, by omega, by go_num, HLn, trivial⟩
        case measure => simp [intOf]; omega
    · obtain rfl : k = xs.length := by omega
      have hge : ¬ (xs.length : Int) < (xs.length : Int) := by omega
      have HF := Lib.hid (HN.out HL.out)
      go_wp2
      go_ret
      exact ⟨by rw [HF.out]; rfl, rfl⟩
theorem intRow_take {w : World} {a : Option Addr} {c : Nat} {xs : List Int} (h : IntRow w (.slice a xs.length c) xs) (i : Nat) (hi : i ≤ xs.length) : IntRow w (.slice a i c) (xs.take i) := by
  obtain ⟨a', c', e, h⟩ := h
  cases e
  have hl : (xs.take i).length = i := by rw [List.length_take]; omega
  refine ⟨a, c, by rw [hl], ?_⟩
  rcases h with h | ⟨g, off, e, hg, hc⟩
  · exact .inl (by rw [h]; simp)
  · refine .inr ⟨g, off, e, hg, fun j hj => ?_⟩
    rw [hl] at hj
    rw [hc j (by omega)]
    simp [List.getD, hj]
theorem seats_no {ws : List Int} {k : Int} {ss : List Int} {i : Nat} (hi : i < ss.length) (h : (seatB k (ss.getD i 0) && !(ss.take i).contains (ss.getD i 0)) = false) : seatsB ws k ss = false :=
  propB_no (fun f => by
    obtain ⟨h1, h2⟩ := f.2 i hi
    rw [h1, h2] at h
    cases h)
theorem seats_yes {ws : List Int} {k : Int} {ss : List Int} (h : ∀ i, i < ss.length → (seatB k (ss.getD i 0) && !(ss.take i).contains (ss.getD i 0)) = true) : seatsB ws k ss = ((ss.length : Int) == (ws.length : Int)) := by
  have h' : ∀ i, i < ss.length → seatB k (ss.getD i 0) = true ∧ (ss.take i).contains (ss.getD i 0) = false := fun i hi => by
    have := h i hi
    rw [Bool.and_eq_true] at this
    exact ⟨this.1, by simpa using this.2⟩
  unfold seatsB
  by_cases e : ss.length = ws.length
  · rw [propB_yes ⟨e, h'⟩]; simp [e]
  · rw [propB_no (fun f => e f.1)]
    symm
    rw [beq_eq_false_iff_ne]
    omega
end Go.Proofs.Ytcfbnadefdcjaaa
