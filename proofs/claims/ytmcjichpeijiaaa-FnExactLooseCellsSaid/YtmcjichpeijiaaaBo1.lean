/- Small functions on cells, of the model and of the program; and the library's test of an order. -/
import Derived.Test.YtmcjichpeijiaaaBoP
import Derived.Test.YtmcjichpeijiaaaCel
import Derived.Test.YtmcjichpeijiaaaFrac
import Derived.Test.YtmcjichpeijiaaaLoadLaw
namespace Go.Proofs.Ytmcjichpeijiaaa
open Go.RowKit
theorem below_new (w : World) (o : Obj) : Below w.heap.size w (w.alloc o) := (Below.refl _ _).alloc (Nat.le_refl _) o
theorem drw_b (w : World) : Below w.heap.size w w.drew := ⟨rfl, rfl, rfl, Nat.le_refl _, fun _ _ => rfl⟩
theorem quiet_all {P : Program} {f : FuncId} {args : Array Value} {w : World} {v : Value} (h : ∀ w, Calls P f args w fun e w' => e = .returned v ∧ w' = w) (n : Nat) :
    Calls P f args (w.drewN n) fun e w'' => e = .returned v ∧ ∃ m, w'' = w.drewN m :=
  (h _).mono fun _ _ ⟨he, hq⟩ => ⟨he, n, hq⟩
theorem infoInt : (Try.prog.info? 3).map (fun i => (i.zero, i.size, i.bytes)) = some (some (.int .i64 0), 1, 8) := by kernel_rfl
theorem eq_two (a b c d : Int) (w : World) : (Op.equalIn 10000 29 (.agg #[.int .i64 a, .int .i64 b]) (.agg #[.int .i64 c, .int .i64 d])).run Try.prog w = .ok ((a == c) && (b == d)) w := by
  obtain ⟨i0, hi, _⟩ := info_parts infoInt
  have hc : Try.prog.cellsOf 3 = 1 := by kernel_rfl
  have hk : Try.prog.plainKey 3 = true := by kernel_rfl
  have p0 : ∀ x y : Int, (part 3 #[.int .i64 x, .int .i64 y] (0 * 1)).run Try.prog w = .ok (.int .i64 x) w := fun x y => run_part_plain w hk rfl
  have p1 : ∀ x y : Int, (part 3 #[.int .i64 x, .int .i64 y] 1).run Try.prog w = .ok (.int .i64 y) w := fun x y => run_part_plain w hk rfl
  have q : ∀ x y : Int, (Op.equalIn 9999 3 (.int .i64 x) (.int .i64 y)).run Try.prog w = .ok (x == y) w := fun x y => run_equalIn_int w 9998 _ _ _ _ _ Try.underlying3
  rw [run_equalIn_array w 9999 _ _ Try.underlying29 hi, hc, show List.range 2 = [0, 1] from rfl]
  simp only [Op.eqItems, Sem.run_bind, p0, q, Result.andThen_ok]
  cases a == c with
  | false => simp
  | true =>
    simp only [Bool.not_true, Bool.false_eq_true, if_false, Sem.run_bind, p1, q, Result.andThen_ok]
    cases b == d <;> simp
theorem isNaN_no (x : Int) (w : World) : Calls Try.prog 170 #[.int .i64 x] w fun e w' => e = .returned (.bool false) ∧ w' = w := by
  go_enter Try.func170, Try.ntmps170
  go_wp2
  go_ret
  exact ⟨by simp, rfl⟩
def cmpZ (x y : Int) : Int := if x < y then -1 else if y < x then 1 else 0
theorem compare_any (x y : Int) (w : World) : Calls Try.prog 138 #[.int .i64 x, .int .i64 y] w fun e w' => e = .returned (.int .i64 (cmpZ x y)) ∧ w' = w := by
  unfold cmpZ
  by_cases h1 : x < y
  · rw [if_pos h1]
    go_enter Try.func138, Try.ntmps138
    go_wp2_with fail
    refine (isNaN_no x _).mono ?_
    rintro e w' ⟨rfl, rfl⟩
    go_wp2_with fail
    refine (isNaN_no y _).mono ?_
    rintro e w' ⟨rfl, rfl⟩
    go_wp2
    go_ret
    exact ⟨rfl, rfl⟩
  · rw [if_neg h1]
    by_cases h2 : y < x
    case' pos => rw [if_pos h2]
    case' neg => rw [if_neg h2]
    all_goals
      (go_enter Try.func138, Try.ntmps138
       go_wp2_with fail
       refine (isNaN_no x _).mono ?_
       rintro e w' ⟨rfl, rfl⟩
       go_wp2_with fail
       refine (isNaN_no y _).mono ?_
       rintro e w' ⟨rfl, rfl⟩
       go_wp2
       go_ret
       exact ⟨rfl, rfl⟩)

def cmpC (a b : Int × Int) : Int := if cmpZ a.1 b.1 ≠ 0 then cmpZ a.1 b.1 else cmpZ a.2 b.2
theorem cmpC_lt (a b : Int × Int) : cmpC a b < 0 ↔ bfC a b = true := by
  rw [bfC_iff]
  unfold cmpC cmpZ
  by_cases h1 : a.1 < b.1
  · simp [h1]
  · by_cases h2 : b.1 < a.1
    · simp [h1, h2]; omega
    · by_cases h3 : a.2 < b.2
      · simp [h1, h2, h3]; omega
      · by_cases h4 : b.2 < a.2
        · simp [h1, h2, h3, h4]
        · simp [h1, h2, h3, h4]
theorem or_any (b : Nat) (x y : Int) (w : World) (c0 : w.cell? ⟨b, 0, none⟩ = some (.int .i64 x)) (c1 : w.cell? ⟨b, 1, none⟩ = some (.int .i64 y)) :
    Calls Try.prog 137 #[.slice (some ⟨b, 0, none⟩) 2 2] w fun e w' => e = .returned (.int .i64 (if x ≠ 0 then x else y)) ∧ w' = w := by
  by_cases h : x = 0
  · rw [if_neg (by simp [h])]
    subst h
    by_cases h2 : y = 0
    case' pos => subst h2
    case' neg => have h2' : (y != 0) = true := bne_iff_ne.2 h2
    all_goals
      (go_enter Try.func137, Try.ntmps137
       go_wp2
       refine wp_loop_rounds 3 ?_
       rw [rounds_succ]
       go_wp2
       rw [rounds_succ]
       go_wp2)
    · go_ret
      exact ⟨rfl, rfl⟩
    · rw [rounds_succ]
      go_wp2
      go_ret
      exact ⟨rfl, rfl⟩
  · rw [if_pos h]
    have h' : (x != 0) = true := bne_iff_ne.2 h
    go_enter Try.func137, Try.ntmps137
    go_wp2
    refine wp_loop_rounds 3 ?_
    rw [rounds_succ]
    go_wp2
    go_ret
    exact ⟨rfl, rfl⟩
theorem or_new (x y : Int) (t : TypeId) (W : World) : Calls Try.prog 137 #[.slice (some ⟨W.heap.size, 0, none⟩) 2 2] (W.alloc (.cells #[.int .i64 x, .int .i64 y] t)).drew fun e w' => e = .returned (.int .i64 (if x ≠ 0 then x else y)) ∧ w' = (W.alloc (.cells #[.int .i64 x, .int .i64 y] t)).drew :=
  or_any W.heap.size x y _ (show (W.alloc (.cells #[.int .i64 x, .int .i64 y] t)).cell? ⟨W.heap.size, 0, none⟩ = _ by rw [World.cell?_alloc_at _ _ _ _ rfl]; rfl) (show (W.alloc (.cells #[.int .i64 x, .int .i64 y] t)).cell? ⟨W.heap.size, 1, none⟩ = _ by rw [World.cell?_alloc_at _ _ _ _ rfl]; rfl)
set_option maxHeartbeats 800000 in
theorem byCell_any (p q x y : Int) (w : World) : Calls Try.prog 81 #[.agg #[.int .i64 p, .int .i64 q], .agg #[.int .i64 x, .int .i64 y]] w fun e w' => e = .returned (.int .i64 (cmpC (p, q) (x, y))) ∧ Below w.heap.size w w' := by
  have C1 := Lib.hid (fun w => compare_any p x w)
  have C2 := Lib.hid (fun w => compare_any q y w)
  have O := Lib.hid (fun t W => or_new (cmpZ p x) (cmpZ q y) t W)
  rw [show cmpC (p, q) (x, y) = (if cmpZ p x ≠ 0 then cmpZ p x else cmpZ q y) from rfl]
  generalize (if cmpZ p x ≠ 0 then cmpZ p x else cmpZ q y) = r at *
  generalize cmpZ p x = u at *
  generalize cmpZ q y = v at *
  have B0 := Lib.hid (alloc_two w (.cells #[.int .i64 p, .int .i64 q] 29) (.cells #[.int .i64 x, .int .i64 y] 29))
  go_enter Try.func81, Try.ntmps81
  go_wp2_with fail
  have e0 := (box2_new w (.int .i64 p) (.int .i64 q) 29).lo ((Below.refl _ _).alloc (Nat.le_refl _) (.cells #[.int .i64 x, .int .i64 y] 29))
  have e1 := box2_new (w.alloc (.cells #[.int .i64 p, .int .i64 q] 29)) (.int .i64 x) (.int .i64 y) 29
  rw [World.size_alloc] at e1
  obtain ⟨e00, e01, e02⟩ := e0
  obtain ⟨e10, e11, e12⟩ := e1
  generalize (w.alloc (.cells #[.int .i64 p, .int .i64 q] 29)).alloc (.cells #[.int .i64 x, .int .i64 y] 29) = W at *
  go_region_held3 (fun w' => w'.cell? ⟨w.heap.size, 0, none⟩ = some (.int .i64 p) ∧ w'.cell? ⟨w.heap.size, 1, none⟩ = some (.int .i64 q) ∧ w'.cell? ⟨w.heap.size + 1, 0, none⟩ = some (.int .i64 x) ∧ w'.cell? ⟨w.heap.size + 1, 1, none⟩ = some (.int .i64 y))
    (first | exact ⟨e01, e02, e11, e12⟩ | go_keep)
    (first
      | (go_at_call 138; (first | with_reducible refine (C1.out _).mono ?_ | with_reducible refine (C2.out _).mono ?_); rintro e w1 ⟨rfl, rfl⟩)
      | (go_at_call 137; refine (O.out _ _).mono ?_; rintro e w1 ⟨rfl, rfl⟩))
  go_wp2
  go_ret
  exact ⟨rfl, B0.out.trans (((below_new W _).drew).mono B0.out.size)⟩
theorem isCellCount_any (n : Int) (w : World) : Calls Try.prog 78 #[.int .i64 n] w fun e w' => e = .returned (.bool (decide (1 ≤ n) && decide (n ≤ 12))) ∧ w = w' := by
  by_cases h1 : 1 ≤ n
  · by_cases h2 : n ≤ 12
    all_goals go_enter Try.func78, Try.ntmps78
    all_goals go_wp2
    all_goals go_ret
    all_goals exact ⟨by simp [h1, h2], rfl⟩
  · go_enter Try.func78, Try.ntmps78
    go_wp2
    go_ret
    exact ⟨by simp; omega, rfl⟩
theorem l8Before_any (p q x y : Int) (w : World) : Calls Try.prog 136 #[.agg #[.int .i64 p, .int .i64 q], .agg #[.int .i64 x, .int .i64 y]] w fun e w' => e = .returned (.bool (bfC (p, q) (x, y))) ∧ Below w.heap.size w w' := by
  by_cases h1 : p < x
  · have hb : bfC (p, q) (x, y) = true := (bfC_iff _ _).2 (.inl h1)
    rw [hb]
    go_enter Try.func136, Try.ntmps136
    go_wp2
    go_ret
    exact ⟨rfl, alloc_two _ _ _⟩
  · by_cases h2 : p = x
    · subst h2
      by_cases h3 : q < y
      case' pos => have hb : bfC (p, q) (p, y) = true := (bfC_iff _ _).2 (.inr ⟨rfl, h3⟩)
      case' neg => have hb : bfC (p, q) (p, y) = false := (bfC_not _ _).2 (.inr ⟨rfl, by simp only; omega⟩)
      all_goals
        (rw [hb]
         go_enter Try.func136, Try.ntmps136
         go_wp2
         go_ret
         exact ⟨rfl, alloc_two _ _ _⟩)
    · have hb : bfC (p, q) (x, y) = false := (bfC_not _ _).2 (.inl (by simp only; omega))
      rw [hb]
      have h2' : (p == x) = false := by simpa using h2
      go_enter Try.func136, Try.ntmps136
      go_wp2
      go_ret
      exact ⟨rfl, alloc_two _ _ _⟩
theorem l1Most_q (a b r : Int) (h : (if b < a then a else b) = r) (w : World) : Calls Try.prog 114 #[.int .i64 a, .int .i64 b] w fun e w' => e = .returned (.int .i64 r) ∧ w' = w :=
  (l1Most_any a b w).mono fun _ _ ⟨h1, h2⟩ => ⟨by rw [h1, h], h2.symm⟩
def SmC (c : Int × Int) : Prop := (-1000 ≤ c.1 ∧ c.1 ≤ 1000) ∧ -1000 ≤ c.2 ∧ c.2 ≤ 1000
theorem l8Near_any (a b : Int × Int) (w : World) (ha : SmC a) (hb : SmC b) : Calls Try.prog 154 #[.agg #[.int .i64 a.1, .int .i64 a.2], .agg #[.int .i64 b.1, .int .i64 b.2]] w fun e w' => e = .returned (.bool (nearB a b)) ∧ Below w.heap.size w w' := by
  obtain ⟨p, q⟩ := a
  obtain ⟨x, y⟩ := b
  obtain ⟨⟨a1, a2⟩, a3, a4⟩ := ha
  obtain ⟨⟨b1, b2⟩, b3, b4⟩ := hb
  simp only at a1 a2 a3 a4 b1 b2 b3 b4 ⊢
  obtain ⟨m, hm⟩ : ∃ m : Nat, (p - x).natAbs = m := ⟨_, rfl⟩
  obtain ⟨n, hn⟩ : ∃ n : Nat, (q - y).natAbs = n := ⟨_, rfl⟩
  have C1 := Lib.hid (fun w => l1Most_q (p - x) (x - p) m (by split <;> omega) w)
  have C2 := Lib.hid (fun w => l1Most_q (q - y) (y - q) n (by split <;> omega) w)
  have m1 : (m : Int) ≤ 2000 := by omega
  have n1 : (n : Int) ≤ 2000 := by omega
  have HB := Lib.hid (show nearB (p, q) (x, y) = decide ((m : Int) + n = 1) by unfold nearB; simp only [hm, hn]; congr 1; apply propext; omega)
  clear hm hn
  have B0 := Lib.hid (alloc_two w (.cells #[.int .i64 p, .int .i64 q] 29) (.cells #[.int .i64 x, .int .i64 y] 29))
  go_enter Try.func154, Try.ntmps154
  go_wp2_with fail
  have e0 := (box2_new w (.int .i64 p) (.int .i64 q) 29).lo ((Below.refl _ _).alloc (Nat.le_refl _) (.cells #[.int .i64 x, .int .i64 y] 29))
  have e1 := box2_new (w.alloc (.cells #[.int .i64 p, .int .i64 q] 29)) (.int .i64 x) (.int .i64 y) 29
  rw [World.size_alloc] at e1
  obtain ⟨e00, e01, e02⟩ := e0
  obtain ⟨e10, e11, e12⟩ := e1
  generalize (w.alloc (.cells #[.int .i64 p, .int .i64 q] 29)).alloc (.cells #[.int .i64 x, .int .i64 y] 29) = W at *
  go_quiet ((go_at_call 114; first | with_reducible exact quiet_all C1.out _ | with_reducible exact quiet_all C2.out _))
  go_wp2
  go_ret
  exact ⟨by rw [HB.out]; first | rfl | simp, lo_drewN B0.out _⟩
def SortC (cs : List (Int × Int)) : Prop := ∀ j, j + 1 < cs.length → bfC (cs.getD (j + 1) (0, 0)) (cs.getD j (0, 0)) = false
set_option maxRecDepth 100000 in
set_option maxHeartbeats 1600000 in
theorem sortedC_any (v : Value) (cs : List (Int × Int)) (w : World) (hr : LoadRow w v cs) (h1 : 1 ≤ cs.length) (hn : cs.length ≤ 2000) :
    Calls Try.prog 80 #[v, .func (.func 81) #[] #[]] w fun e w' => e = .returned (.bool (propB (SortC cs))) ∧ Below w.heap.size w w' := by
  have HY := Lib.hid (fun h : SortC cs => show propB (SortC cs) = true from propB_yes h)
  have HN := Lib.hid (fun h : ¬ SortC cs => show propB (SortC cs) = false from propB_no h)
  generalize propB (SortC cs) = r at *
  obtain ⟨av, c, rfl, hr⟩ := hr
  rcases hr with h | ⟨g, off, rfl, hg, hc⟩
  · subst h; simp at h1
  obtain ⟨m, hm⟩ : ∃ m, cs.length = m + 1 := ⟨cs.length - 1, by omega⟩
  have hL : (cs.length : Int) - 1 = (m : Int) := by omega
  have hml : m < cs.length := by omega
  have HM := Lib.hid hm
  clear hm h1
  go_enter Try.func80, Try.ntmps80
  go_wp2
  go_loopw [5] (fun i wr => ∃ k : Nat, k < cs.length ∧ i = .int .i64 k ∧ Hid (∀ j, k ≤ j → j + 1 < cs.length → bfC (cs.getD (j + 1) (0, 0)) (cs.getD j (0, 0)) = false) ∧ Hid (Below w.heap.size w wr)) (fun i _ => (intOf i).toNat)
  case atStart => exact ⟨m, hml, rfl, Lib.hid (fun j h1 h2 => by have := HM.out; omega), Lib.hid (Below.refl _ _)⟩
  case round =>
    obtain ⟨k, hk, rfl, HS, HW⟩ := hrel
    clear hL hml
    by_cases h0 : k = 0
    · subst h0
      have HF := Lib.hid (HY.out (fun j hj => HS.out j (Nat.zero_le _) hj))
      go_wp2
      go_ret
      exact ⟨by rw [HF.out]; rfl, HW.out⟩
    · obtain ⟨q, hq⟩ : ∃ q, k = q + 1 := ⟨k - 1, by omega⟩
      have hkq : (k : Int) - 1 = (q : Int) := by omega
      have hwq : IntKind.i64.wrap (q : Int) = (q : Int) := by rw [IntKind.wrap_i64]; omega
      have hwk : IntKind.i64.wrap ((k : Int) - 1) = (q : Int) := by rw [IntKind.wrap_i64]; omega
      obtain ⟨c1, c2⟩ := hc k hk
      obtain ⟨c3, c4⟩ := hc q (by omega)
      rw [← HW.out.cell (p := ⟨g, off + k * 2, none⟩) hg] at c1
      rw [← HW.out.cell (p := ⟨g, off + k * 2 + 1, none⟩) hg] at c2
      rw [← HW.out.cell (p := ⟨g, off + q * 2, none⟩) hg] at c3
      rw [← HW.out.cell (p := ⟨g, off + q * 2 + 1, none⟩) hg] at c4
      have hgr : g < wr.heap.size := Nat.lt_of_lt_of_le hg HW.out.size
      have hpos : (0 : Int) < (k : Int) := by omega
      have hlt' : (k : Int) < (cs.length : Int) := by omega
      have hlt2 : (q : Int) < (cs.length : Int) := by omega
      have HB := Lib.hid (fun p q x y w => byCell_any p q x y w)
      by_cases hb : bfC (cs.getD k (0, 0)) (cs.getD q (0, 0)) = false
      · have HSn := Lib.hid (show ∀ j, q ≤ j → j + 1 < cs.length → bfC (cs.getD (j + 1) (0, 0)) (cs.getD j (0, 0)) = false from fun j h1 h2 => by
          by_cases e : j = q
          · subst e; rw [← hq]; exact hb
          · exact HS.out j (by omega) h2)
        have hz : ¬ cmpC (cs.getD k (0, 0)) (cs.getD q (0, 0)) < 0 := fun h => by rw [cmpC_lt] at h; rw [h] at hb; cases hb
        generalize cs.getD k (0, 0) = xx at c1 c2 hz
        generalize cs.getD q (0, 0) = yy at c3 c4 hz
        obtain ⟨x1, x2⟩ := xx
        obtain ⟨y1, y2⟩ := yy
        simp only at c1 c2 c3 c4
        have CB := Lib.hid (fun w => HB.out x1 x2 y1 y2 w)
        obtain ⟨t, ht⟩ : ∃ t, cmpC (x1, x2) (y1, y2) = t := ⟨_, rfl⟩
        rw [ht] at hz CB
        have HQ := Lib.hid hq
        clear hb h0 hc HB HS ht hq
        go_wp2_with fail
        go_region_held3 (fun w' => w'.cell? ⟨g, off + k * 2, none⟩ = some (.int .i64 x1) ∧ w'.cell? ⟨g, off + k * 2 + 1, none⟩ = some (.int .i64 x2) ∧ w'.cell? ⟨g, off + q * 2, none⟩ = some (.int .i64 y1) ∧ w'.cell? ⟨g, off + q * 2 + 1, none⟩ = some (.int .i64 y2))
          (first | exact ⟨(hl.cell (p := ⟨g, off + k * 2, none⟩) hgr).trans c1, (hl.cell (p := ⟨g, off + k * 2 + 1, none⟩) hgr).trans c2, (hl.cell (p := ⟨g, off + q * 2, none⟩) hgr).trans c3, (hl.cell (p := ⟨g, off + q * 2 + 1, none⟩) hgr).trans c4⟩ | go_keep)
          (first | (go_at_call 81; refine (CB.out _).mono ?_; rintro e w1 ⟨rfl, hl⟩))
        have LN := Lib.hid (show Below w.heap.size w w1 from lo_on (lo_on HW.out (drw_b wr)) hl)
        clear hl c1 c2 c3 c4
        go_wp2
        go_roundw
        case rel => exact ⟨q, by omega, by first | rfl | go_num, HSn, LN⟩
        case measure => have := HQ.out; simp [intOf]; omega
      · have HF := Lib.hid (HN.out (fun h => hb (by have := h q (by omega); rw [← hq] at this; exact this)))
        have hz : cmpC (cs.getD k (0, 0)) (cs.getD q (0, 0)) < 0 := by rw [cmpC_lt]; simpa using hb
        generalize cs.getD k (0, 0) = xx at c1 c2 hz
        generalize cs.getD q (0, 0) = yy at c3 c4 hz
        obtain ⟨x1, x2⟩ := xx
        obtain ⟨y1, y2⟩ := yy
        simp only at c1 c2 c3 c4
        have CB := Lib.hid (fun w => HB.out x1 x2 y1 y2 w)
        obtain ⟨t, ht⟩ : ∃ t, cmpC (x1, x2) (y1, y2) = t := ⟨_, rfl⟩
        rw [ht] at hz CB
        have HQ := Lib.hid hq
        clear hb h0 hc HB HS ht hq
        go_wp2_with fail
        go_region_held3 (fun w' => w'.cell? ⟨g, off + k * 2, none⟩ = some (.int .i64 x1) ∧ w'.cell? ⟨g, off + k * 2 + 1, none⟩ = some (.int .i64 x2) ∧ w'.cell? ⟨g, off + q * 2, none⟩ = some (.int .i64 y1) ∧ w'.cell? ⟨g, off + q * 2 + 1, none⟩ = some (.int .i64 y2))
          (first | exact ⟨(hl.cell (p := ⟨g, off + k * 2, none⟩) hgr).trans c1, (hl.cell (p := ⟨g, off + k * 2 + 1, none⟩) hgr).trans c2, (hl.cell (p := ⟨g, off + q * 2, none⟩) hgr).trans c3, (hl.cell (p := ⟨g, off + q * 2 + 1, none⟩) hgr).trans c4⟩ | go_keep)
          (first | (go_at_call 81; refine (CB.out _).mono ?_; rintro e w1 ⟨rfl, hl⟩))
        have LN := Lib.hid (show Below w.heap.size w w1 from lo_on (lo_on HW.out (drw_b wr)) hl)
        clear hl c1 c2 c3 c4
        go_wp2
        go_ret
        exact ⟨by rw [HF.out]; rfl, LN.out⟩
end Go.Proofs.Ytmcjichpeijiaaa
