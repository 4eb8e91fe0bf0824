/- The contracts of the model's ZeroGroups, CountZero and SplitAlike. -/
import Derived.Test.YtgjchkcjlmklbaaGpS
import Derived.Test.YtgjchkcjlmklbaaRows1
namespace Go.Proofs.Ytgjchkcjlmklbaa
open Go.RowKit
theorem below_new9 (w : World) (o : Obj) : Below w.heap.size w (w.alloc o) := (Below.refl _ _).alloc (Nat.le_refl _) o
theorem rp_rowS (row : List (Int × Int)) (p : Int) : rpB row p = (rowB row && (decide (0 ≤ p) && decide (p ≤ 60))) := by
  rw [Bool.eq_iff_iff, rpB_iff, Bool.and_eq_true, rowB_iff]
  simp
set_option maxRecDepth 100000 in
set_option maxHeartbeats 1600000 in
theorem specZero_any (v : Value) (row : List (Int × Int)) (p : Int) (w : World) (hr : LoadRow w v row) :
    Calls Try.prog 47 #[v, .int .i64 p] w fun e w' => ∃ u, e = .returned (.tuple #[u, .bool (zgB row p)]) ∧ TabRow w' u (zgR row p) ∧ Below w.heap.size w w' := by
  have R := Lib.hid (l2Row_is v row _ rfl w hr)
  have I := Lib.hid (fun w => l2In_is p _ rfl w)
  have G := Lib.hid (fun (h : rpB row p = true) w1 (l : Below w.heap.size w w1) => l9Groups_any v row p w1 (hr.lo l) ((rpB_iff row p).1 h).1 ((rpB_iff row p).1 h).2.1 ((rpB_iff row p).1 h).2.2)
  unfold zgR zgB
  have HP := Lib.hid (rp_rowS row p)
  generalize rpB row p = r at *
  generalize groupsF row p = GG at *
  generalize rowB row = b1 at *
  generalize (decide (0 ≤ p) && decide (p ≤ 60)) = b2 at *
  have hp := HP.out
  subst hp
  obtain ⟨a, c, rfl, _⟩ := hr
  cases b1 with
  | false =>
    have HN := Lib.hid (below_new9 w (.cells #[] 22))
    clear I G
    go_enter Try.func47, Try.ntmps47
    go_wp2_with fail
    refine R.out.mono ?_
    rintro e w' ⟨rfl, rfl⟩
    go_wp2
    go_ret2
    exact ⟨_, rfl, tabRow_nil _ _ _, HN.out⟩
  | true =>
    cases b2 with
    | false =>
      have HN := Lib.hid (below_new9 w (.cells #[] 22))
      clear G
      go_enter Try.func47, Try.ntmps47
      go_wp2_with fail
      refine R.out.mono ?_
      rintro e w' ⟨rfl, rfl⟩
      go_wp2_with fail
      refine (I.out _).mono ?_
      rintro e w' ⟨rfl, rfl⟩
      go_wp2
      go_ret2
      exact ⟨_, rfl, tabRow_nil _ _ _, HN.out⟩
    | true =>
      by_cases h8 : row.length ≤ 8
      · have hge : ¬ (8 : Int) < (row.length : Int) := by omega
        have GG1 := Lib.hid (fun w1 l => G.out (by rfl) w1 l)
        rw [decide_eq_true h8]
        clear h8 G
        go_enter Try.func47, Try.ntmps47
        go_wp2_with fail
        refine R.out.mono ?_
        rintro e w' ⟨rfl, rfl⟩
        go_wp2_with fail
        refine (I.out _).mono ?_
        rintro e w' ⟨rfl, rfl⟩
        go_wp2_with fail
        refine (GG1.out _ (Below.refl _ _)).mono ?_
        rintro e w1 ⟨u, rfl, t, l⟩
        have T := Lib.hid t.tab.row
        have L := Lib.hid l
        clear t l GG1
        go_wp2
        go_ret2
        exact ⟨_, rfl, by simpa using T.out, L.out⟩
      · have hge : (8 : Int) < (row.length : Int) := by omega
        have HN := Lib.hid (below_new9 w (.cells #[] 22))
        rw [decide_eq_false h8]
        clear h8 G
        go_enter Try.func47, Try.ntmps47
        go_wp2_with fail
        refine R.out.mono ?_
        rintro e w' ⟨rfl, rfl⟩
        go_wp2_with fail
        refine (I.out _).mono ?_
        rintro e w' ⟨rfl, rfl⟩
        go_wp2
        go_ret2
        exact ⟨_, rfl, by simpa using tabRow_nil _ _ _, HN.out⟩
set_option maxRecDepth 100000 in
set_option maxHeartbeats 1600000 in
theorem specCountZero_any (v : Value) (row : List (Int × Int)) (p : Int) (w : World) (hr : LoadRow w v row) :
    Calls Try.prog 53 #[v, .int .i64 p] w fun e w' => e = .returned (.tuple #[.int .i64 ((cgR row p).length : Int), .bool (rpB row p)]) ∧ Below w.heap.size w w' := by
  have R := Lib.hid (l2Row_is v row _ rfl w hr)
  have I := Lib.hid (fun w => l2In_is p _ rfl w)
  have G := Lib.hid (fun (h : rpB row p = true) w1 (l : Below w.heap.size w w1) => l9Groups_any v row p w1 (hr.lo l) ((rpB_iff row p).1 h).1 ((rpB_iff row p).1 h).2.1 ((rpB_iff row p).1 h).2.2)
  unfold cgR
  have HP := Lib.hid (rp_rowS row p)
  generalize rpB row p = r at *
  generalize groupsF row p = GG at *
  generalize rowB row = b1 at *
  generalize (decide (0 ≤ p) && decide (p ≤ 60)) = b2 at *
  have hp := HP.out
  subst hp
  clear hr
  cases b1 with
  | false =>
    clear I G
    go_enter Try.func53, Try.ntmps53
    go_wp2_with fail
    refine R.out.mono ?_
    rintro e w' ⟨rfl, rfl⟩
    go_wp2
    go_ret2
    exact ⟨rfl, Below.refl _ _⟩
  | true =>
    cases b2 with
    | false =>
      clear G
      go_enter Try.func53, Try.ntmps53
      go_wp2_with fail
      refine R.out.mono ?_
      rintro e w' ⟨rfl, rfl⟩
      go_wp2_with fail
      refine (I.out _).mono ?_
      rintro e w' ⟨rfl, rfl⟩
      go_wp2
      go_ret2
      exact ⟨rfl, Below.refl _ _⟩
    | true =>
      have GG1 := Lib.hid (fun w1 l => G.out (by rfl) w1 l)
      clear G
      go_enter Try.func53, Try.ntmps53
      go_wp2_with fail
      refine R.out.mono ?_
      rintro e w' ⟨rfl, rfl⟩
      go_wp2_with fail
      refine (I.out _).mono ?_
      rintro e w' ⟨rfl, rfl⟩
      go_wp2_with fail
      refine (GG1.out _ (Below.refl _ _)).mono ?_
      rintro e w1 ⟨u, rfl, t, l⟩
      obtain ⟨g, c, rfl⟩ := t.form
      have L := Lib.hid l
      clear t l GG1
      go_wp2
      go_ret2
      exact ⟨by simp, L.out⟩
theorem cntT_bound (K : Nat) (l : List (List Int)) (h : ∀ x, x ∈ l → x.length ≤ K) : cntT l ≤ K * l.length := by
  induction l with
  | nil => simp [cntT]
  | cons x l ih =>
    have a := h x (by simp)
    have b := ih (fun y hy => h y (by simp [hy]))
    simp only [cntT, List.length_cons, Nat.mul_succ]
    omega
theorem zgR_small (row : List (Int × Int)) (p : Int) : SmallT (zgR row p) := by
  unfold zgR
  split
  · rename_i h
    unfold zgB at h
    rw [Bool.and_eq_true, rpB_iff] at h
    have hl := groups_len h.1.1.short p
    refine ⟨by omega, ?_⟩
    have := cntT_bound 12 (groupsF row p) (fun x hx => by
      obtain ⟨m, hm, hx⟩ := groups_mem hx
      have := lev_len _ _ x hx
      have := h.1.1.short
      omega)
    omega
  · exact ⟨by simp, by simp [cntT]⟩
end Go.Proofs.Ytgjchkcjlmklbaa
