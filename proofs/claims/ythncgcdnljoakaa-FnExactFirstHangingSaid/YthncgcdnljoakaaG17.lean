/- Rod6, Rod7, LvI, as one text. -/
import Derived.Test.YthncgcdnljoakaaG16
namespace Go.Proofs.Ythncgcdnljoakaa
open Go.RowKit
theorem two_fields {fs : List Field} {a b : TypeId} {o1 o2 : Nat} (h : fs.map (fun f => (f.name == "_", f.type, f.offset)) = [(false, a, o1), (false, b, o2)]) :
    ∃ f0 f1, fs = [f0, f1] ∧ (f0.name ≠ "_" ∧ f0.type = a ∧ f0.offset = o1) ∧ f1.name ≠ "_" ∧ f1.type = b ∧ f1.offset = o2 := by
  have hl := congrArg List.length h
  rw [List.length_map] at hl
  obtain ⟨f0, f1, rfl⟩ : ∃ f0 f1, fs = [f0, f1] := by
    cases fs with
    | nil => simp at hl
    | cons f0 fs =>
      cases fs with
      | nil => simp at hl
      | cons f1 fs =>
        cases fs with
        | nil => exact ⟨f0, f1, rfl⟩
        | cons f2 fs => simp at hl
  simp at h
  obtain ⟨⟨h1, h2, h3⟩, h4, h5, h6⟩ := h
  exact ⟨f0, f1, rfl, ⟨h1, h2, h3⟩, h4, h5, h6⟩
theorem eq_end (a b c d : Int) (w : World) : (Op.equalIn 10000 143 (.agg #[.int .i64 a, .int .i64 b]) (.agg #[.int .i64 c, .int .i64 d])).run Try.prog w = .ok ((a == c) && (b == d)) w := by
  obtain ⟨f0, f1, hf, ⟨n0, t0, o0⟩, n1, t1, o1⟩ := two_fields (show (Try.prog.fieldsOf 143).toList.map (fun f => (f.name == "_", f.type, f.offset)) = [(false, 3, 0), (false, 3, 1)] by kernel_rfl)
  have hk : Try.prog.plainKey 3 = true := by kernel_rfl
  have p0 : ∀ x y : Int, (part 3 #[.int .i64 x, .int .i64 y] 0).run Try.prog w = .ok (.int .i64 x) w := fun x y => run_part_plain w hk rfl
  have p1 : ∀ x y : Int, (part 3 #[.int .i64 x, .int .i64 y] 1).run Try.prog w = .ok (.int .i64 y) w := fun x y => run_part_plain w hk rfl
  have q : ∀ x y : Int, (Op.equalIn 9999 3 (.int .i64 x) (.int .i64 y)).run Try.prog w = .ok (x == y) w := fun x y => run_equalIn_int w 9998 _ _ _ _ _ Try.underlying3
  rw [run_equalIn_struct w 9999 _ _ _ (by kernel_rfl) (by kernel_rfl), hf]
  simp only [Op.eqFields, ne_eq, n0, n1, not_false_eq_true, if_true, t0, t1, o0, o1, Sem.run_bind, p0, q, Result.andThen_ok]
  cases a == c with
  | false => simp
  | true =>
    simp only [Bool.not_true, Bool.false_eq_true, if_false, Sem.run_bind, p1, q, Result.andThen_ok]
    cases b == d <;> simp
/-- The first place of an end in a list, or -1. -/
def FirstEnd (p q : Int) (xs : List (Int × Int)) (w : World) (e : Ending) (w' : World) : Prop := ∃ z : Int, e = .returned (.int .i64 z) ∧ (0 ≤ z ↔ (p, q) ∈ xs) ∧ Below w.heap.size w w'
end Go.Proofs.Ythncgcdnljoakaa
namespace Go.Proofs.Ythncgcdnljoakaa
open Go.RowKit
theorem wt_one {m : MobV} (hf : MobF m) : ∀ k i, m.am.length ≤ i + k → i < m.am.length → 1 ≤ wtM m i := by
  intro k
  induction k with
  | zero => intro i h1 h2; omega
  | succ k ih =>
    intro i h1 hi
    rw [wtM_eq hf i hi]
    have at_one : ∀ t, t < 2 * m.am.length → t / 2 = i → 1 ≤ atM (hvM m t) (wtM m) := fun t ht hti => by
      have := (hf.ends t ht).2
      unfold atM
      split
      · exact ih _ (by omega) (by omega)
      · omega
    have h0 := at_one (2 * i) (by omega) (by omega)
    have h3 := at_one (2 * i + 1) (by omega) (by omega)
    omega
theorem atM_one {m : MobV} (hf : MobF m) (t : Nat) (ht : t < 2 * m.am.length) : 1 ≤ atM (hvM m t) (wtM m) := by
  have := (hf.ends t ht).2
  unfold atM
  split
  · exact wt_one hf m.am.length _ (by omega) (by omega)
  · omega
theorem other_is (e : Nat) (he : e < 2) (w : World) : Calls Try.prog 147 #[.int .i64 (e : Int)] w fun r w' => r = .returned (.int .i64 ((1 - e : Nat) : Int)) ∧ w' = w := by
  rcases (show e = 0 ∨ e = 1 by omega) with rfl | rfl
  all_goals go_enter Try.func147, Try.ntmps147
  all_goals go_wp2
  all_goals go_ret
  all_goals exact ⟨rfl, rfl⟩
/-- An end at which a leaf hangs. -/
theorem fix_mem {m : MobV} (hf : MobF m) (i e : Int) : (i, e) ∈ (endT (rodF m) (2 * m.am.length)).map endP2 ↔ (rodB m i e = true ∧ 0 ≤ hvM m (2 * i.toNat + e.toNat)) := by
  rw [List.mem_map]
  constructor
  · rintro ⟨t, ht, he⟩
    obtain ⟨h1, h2⟩ := endT_mem.1 ht
    unfold endP2 at he
    have e1 : ((t / 2 : Nat) : Int) = i := congrArg Prod.fst he
    have e2 : ((t % 2 : Nat) : Int) = e := congrArg Prod.snd he
    have ht2 : 2 * i.toNat + e.toNat = t := by omega
    have := (be_rodF hf t h1).1 h2
    rw [ht2]
    refine ⟨?_, by omega⟩
    unfold rodB
    rw [(goodB_iff m).2 hf]
    simp
    omega
  · rintro ⟨h1, h2⟩
    unfold rodB at h1
    simp only [Bool.and_eq_true, decide_eq_true_eq] at h1
    obtain ⟨⟨_, h3, h4⟩, h5, h6⟩ := h1
    have ht : 2 * i.toNat + e.toNat < 2 * m.am.length := by omega
    have := (hf.ends _ ht).2
    refine ⟨2 * i.toNat + e.toNat, endT_mem.2 ⟨ht, (be_rodF hf _ ht).2 (by omega)⟩, ?_⟩
    unfold endP2
    rw [show (2 * i.toNat + e.toNat) / 2 = i.toNat by omega, show (2 * i.toNat + e.toNat) % 2 = e.toNat by omega]
    exact Prod.ext (by simp only; omega) (by simp only; omega)
end Go.Proofs.Ythncgcdnljoakaa
namespace Go.Proofs.Ythncgcdnljoakaa
open Go.RowKit
/-- A weight at an end, from that of its rod. -/
def stepW (S : RodF) (T : Nat) (x : Int) : Int := Int.tdiv x (S.ar (2 * (T / 2)) + S.ar (2 * (T / 2) + 1)) * S.ar (otE T)
theorem stepW_nat {m : MobV} (hf : MobF m) (T : Nat) (hT : T < 2 * m.am.length) (x : Nat) : stepW (rodF m) T (x : Int) = ((x / bothN m (T / 2) * armN m (otE T) : Nat) : Int) := by
  show Int.tdiv (x : Int) (avM m (2 * (T / 2)) + avM m (2 * (T / 2) + 1)) * avM m (otE T) = _
  rw [both_cast hf _ (by omega), arm_cast hf _ (otE_lt hT), Int.natCast_mul, Int.ofNat_tdiv]
theorem numH_wn {m : MobV} (hf : MobF m) (P : Nat) : ∀ T, T ≤ 2 * m.am.length → ∀ j, numH (rodF m) (stepW (rodF m)) (P : Int) T j = ((wnR m P T j : Nat) : Int) := by
  intro T
  induction T with
  | zero =>
    intro _ j
    show (if j = 0 then (P : Int) else 0) = ((if j = 0 then P else 0 : Nat) : Int)
    split <;> rfl
  | succ T ih =>
    intro hT j
    have ih := ih (by omega)
    have hb := be_rodF hf T (by omega)
    have hh := (hf.ends T (by omega)).2
    rw [wnR_succ]
    by_cases h0 : (rodF m).be T = 0
    · rw [numH_none _ _ _ _ _ h0, ih j, if_neg (fun h => by have := hb.1 h0; omega)]
    · rw [numH_some _ _ _ _ _ h0]
      have hneg : hvM m T < 0 := by
        have : ¬ 0 < hvM m T := fun h => h0 (hb.2 h)
        omega
      have hbe : (rodF m).be T = (-hvM m T).toNat := rfl
      rw [hbe]
      by_cases e : j = (-hvM m T).toNat
      · rw [if_pos e, if_pos ⟨hneg, e.symm⟩]
        show stepW (rodF m) T (numH (rodF m) (stepW (rodF m)) (P : Int) T (T / 2)) = _
        rw [ih, stepW_nat hf T (by omega)]
        rfl
      · rw [if_neg e, if_neg (fun h => e h.2.symm), ih]
theorem outH_wn {m : MobV} (hf : MobF m) (P T : Nat) (hT : T < 2 * m.am.length) : outH (rodF m) (stepW (rodF m)) (P : Int) T = ((wnE m P T : Nat) : Int) := by
  show stepW (rodF m) T (numH (rodF m) (stepW (rodF m)) (P : Int) T (T / 2)) = _
  rw [numH_wn hf P T (by omega), stepW_nat hf T hT]
  rfl
set_option maxRecDepth 100000 in
theorem wClo_any (S : RodF) (n B : Nat) (b : Nat → Nat) (nu : Nat → Int) (i e : Nat) (x y : Int) (w : World) (hi : i < n) (he : e < 2) (H : RodsIn w B 0 n b nu S) (ha : ∀ t, t < 2 * n → 0 ≤ S.ar t ∧ S.ar t ≤ 24)
    (hb : 1 ≤ S.ar (2 * i) + S.ar (2 * i + 1)) (hx : 0 ≤ x ∧ x ≤ 200000000) (hy : stepW S (2 * i + e) x = y) :
    Calls Try.prog 146 #[.pointer (some ⟨b i, 0, none⟩), .int .i64 (e : Int), .int .i64 x] w fun r w' => r = .returned (.int .i64 y) ∧ ∃ d, w' = w.drewN d := by
  have ca := (H.rod i (by omega) hi).arm (1 - e) (by omega)
  have hlt := (H.rod i (by omega) hi).lt
  have ho : otE (2 * i + e) = 2 * i + (1 - e) := by unfold otE; omega
  have hay := ha (2 * i + (1 - e)) (by omega)
  have hal := ha (2 * i) (by omega)
  have har := ha (2 * i + 1) (by omega)
  have LE := Lib.hid (fun k => Calls.quiet_of (n := k) (length_any i (w.drewN k) hi ha (H.lo (drewN_lo w k))))
  have OT := Lib.hid (fun w => other_is e he w)
  unfold stepW at hy
  rw [show (2 * i + e) / 2 = i by omega, ho] at hy
  have he1 : 1 - e < 2 := by omega
  have he1' : ((1 - e : Nat) : Int) < 2 := by omega
  have hal2 : S.ar (2 * i + (1 - e)) ≤ S.ar (2 * i) + S.ar (2 * i + 1) := by
    rcases (show e = 0 ∨ e = 1 by omega) with rfl | rfl
    · simp only [Nat.sub_zero]; omega
    · simp only [Nat.sub_self, Nat.add_zero]; omega
  generalize S.ar (2 * i) + S.ar (2 * i + 1) = l at *
  generalize S.ar (2 * i + (1 - e)) = a at *
  generalize 1 - e = f at *
  obtain ⟨q, hq⟩ : ∃ q, Int.tdiv x l = q := ⟨_, rfl⟩
  rw [hq] at hy
  have hq0 : 0 ≤ q := by rw [← hq]; exact Int.tdiv_nonneg hx.1 (by omega)
  have hq1 : q ≤ x := by rw [← hq, Int.tdiv_eq_ediv_of_nonneg hx.1]; exact Int.ediv_le_self _ hx.1
  have hl0 : ¬ l = 0 := by omega
  have hy0 : 0 ≤ y := by rw [← hy]; exact Int.mul_nonneg hq0 hay.1
  have hy1 : y ≤ x := by
    rw [← hy]
    refine Int.le_trans (Int.mul_le_mul_of_nonneg_left hal2 hq0) ?_
    rw [← hq, Int.tdiv_eq_ediv_of_nonneg hx.1]
    exact Int.ediv_mul_le x hl0
  have hw1 : IntKind.i64.wrap q = q := wrap_mid q (by omega) (by omega)
  have hw2 : IntKind.i64.wrap (q * a) = y := by rw [hy]; exact wrap_mid y (by omega) (by omega)
  clear H ho
  go_enter Try.func146, Try.ntmps146
  go_wp2
  go_quiet ((first | (go_at_call 147; exact Calls.quiet_of_same (OT.out _)) | (go_at_call 144; exact LE.out _)))
  go_wp2
  go_ret
  exact ⟨rfl, nq, rfl⟩
end Go.Proofs.Ythncgcdnljoakaa
