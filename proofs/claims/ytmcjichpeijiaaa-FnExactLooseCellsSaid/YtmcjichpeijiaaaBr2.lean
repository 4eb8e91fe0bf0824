/- The program's middles of a body, and what it rests on. -/
import Derived.Test.YtmcjichpeijiaaaBq3
import Derived.Test.YtmcjichpeijiaaaBr1
namespace Go.Proofs.Ytmcjichpeijiaaa
open Go.RowKit Go.Maps
set_option maxHeartbeats 1600000 in
theorem foot2_gr (p q x : Int) (b1 b2 : Nat) (R : Bool) (w : World) (c1 : w.cell? ⟨b1, 0, none⟩ = some (.int .i64 x)) (c2 : w.cell? ⟨b2, 0, none⟩ = some (.func (.func 96) #[] #[]))
    (RC : ∀ w1 : World, Below w.heap.size w w1 → Calls Try.prog 96 #[.agg #[.int .i64 p, .int .i64 q]] w1 fun e w' => e = .returned (.bool R) ∧ Below w1.heap.size w1 w') :
    Calls Try.prog 151 #[.agg #[.int .i64 p, .int .i64 q], .pointer (some ⟨b1, 0, none⟩), .pointer (some ⟨b2, 0, none⟩)] w fun e w' => e = .returned (.bool (decide (p = x) && R)) ∧ Below w.heap.size w w' := by
  have d1 : (w.alloc (.cells #[.int .i64 p, .int .i64 q] 29)).cell? ⟨b1, 0, none⟩ = some (.int .i64 x) := ((below_new w _).cell (p := ⟨b1, 0, none⟩) (cell_lt c1)).trans c1
  have d2 : (w.alloc (.cells #[.int .i64 p, .int .i64 q] 29)).cell? ⟨b2, 0, none⟩ = some (.func (.func 96) #[] #[]) := ((below_new w _).cell (p := ⟨b2, 0, none⟩) (cell_lt c2)).trans c2
  have RC2 := Lib.hid (RC _ (below_new w (.cells #[.int .i64 p, .int .i64 q] 29)))
  clear RC c1 c2
  by_cases h : p = x
  · subst h
    rw [show (decide (p = p) && R) = R by simp]
    go_enter Try.func151, Try.ntmps151
    go_wp2_with fail
    refine RC2.out.mono ?_
    rintro e w1 ⟨rfl, l1⟩
    go_wp2
    go_ret
    exact ⟨rfl, lo_on (below_new _ _) l1⟩
  · have h' : (p == x) = false := by simpa using h
    rw [show (decide (p = x) && R) = false by simp [h]]
    go_enter Try.func151, Try.ntmps151
    go_wp2
    go_ret
    exact ⟨rfl, below_new _ _⟩
set_option maxRecDepth 100000 in
set_option maxHeartbeats 3200000 in
theorem index_gr (b1 b2 : Nat) (T : Int × Int → Bool) (v : Value) (xs : List (Int × Int)) (w : World) (hr : LoadRow w v xs) (hn : xs.length ≤ 2000)
    (CL : ∀ c ∈ xs, ∀ w1 : World, Below w.heap.size w w1 → Calls Try.prog 151 #[.agg #[.int .i64 c.1, .int .i64 c.2], .pointer (some ⟨b1, 0, none⟩), .pointer (some ⟨b2, 0, none⟩)] w1 fun e w' => e = .returned (.bool (T c)) ∧ Below w1.heap.size w1 w') :
    Calls Try.prog 140 #[v, .func (.func 151) #[] #[.pointer (some ⟨b1, 0, none⟩), .pointer (some ⟨b2, 0, none⟩)]] w fun e w' => (∃ z : Int, e = .returned (.int .i64 z) ∧ decide (0 ≤ z) = xs.any T) ∧ Below w.heap.size w w' := by
  have HCL := Lib.hid CL
  have HY := Lib.hid (fun (h : ∀ j, j < xs.length → T (xs.getD j (0, 0)) = false) => show xs.any T = false by
    rw [List.any_eq_false]
    intro c hc
    obtain ⟨j, hj, rfl⟩ := getD_mem hc
    rw [h j hj]; simp)
  have HN := Lib.hid (fun j (hj : j < xs.length) (h : T (xs.getD j (0, 0)) = true) => show xs.any T = true by
    rw [List.any_eq_true]
    exact ⟨_, mem_getD hj, h⟩)
  generalize xs.any T = r at *
  clear CL
  obtain ⟨a, c, rfl, hr⟩ := hr
  go_enter Try.func140, Try.ntmps140
  go_wp2
  go_loopw [8] (fun i wr => ∃ k : Nat, k ≤ xs.length ∧ i = .int .i64 k ∧ Hid (∀ j, j < k → T (xs.getD j (0, 0)) = false) ∧ Hid (Below w.heap.size w wr)) (fun i _ => xs.length - (intOf i).toNat)
  case atStart => exact ⟨0, Nat.zero_le _, rfl, Lib.hid (fun j h => by omega), Lib.hid (Below.refl _ _)⟩
  case round =>
    obtain ⟨k, hk, rfl, HL, HB⟩ := hrel
    by_cases hlt : k < xs.length
    · rcases hr with h | ⟨g, off, rfl, hg, hc⟩
      · subst h; simp at hlt
      have hlt' : (k : Int) < (xs.length : Int) := by omega
      obtain ⟨c1, c2⟩ := hc k hlt
      rw [← HB.out.cell (p := ⟨g, off + k * 2, none⟩) hg] at c1
      rw [← HB.out.cell (p := ⟨g, off + k * 2 + 1, none⟩) hg] at c2
      have CC := Lib.hid (HCL.out _ (mem_getD hlt) wr HB.out)
      have HNk := Lib.hid (HN.out k hlt)
      have HLk := Lib.hid (fun (h : T (xs.getD k (0, 0)) = false) => show ∀ j, j < k + 1 → T (xs.getD j (0, 0)) = false from fun j hj => by
        by_cases e : j = k
        · subst e; exact h
        · exact HL.out j (by omega))
      generalize xs.getD k (0, 0) = x at c1 c2 CC HNk HLk
      obtain ⟨x1, x2⟩ := x
      simp only at c1 c2 CC
      obtain ⟨t, ht⟩ : ∃ t, T (x1, x2) = t := ⟨_, rfl⟩
      rw [ht] at CC HNk HLk
      clear ht hc
      cases t with
      | true =>
        have HF := Lib.hid (HNk.out rfl)
        go_wp2_with fail
        refine CC.out.mono ?_
        rintro e w1 ⟨rfl, l1⟩
        go_wp2
        go_ret
        exact ⟨⟨_, rfl, by rw [HF.out]; simp⟩, lo_on HB.out l1⟩
      | false =>
        have HLn := Lib.hid (HLk.out rfl)
        go_wp2_with fail
        refine CC.out.mono ?_
        rintro e w1 ⟨rfl, l1⟩
        have LN := Lib.hid (lo_on HB.out l1)
        go_wp2
        go_roundw
        case rel => exact ⟨k + 1, by omega, by go_num, HLn, LN⟩
        case measure => simp [intOf]; omega
    · obtain rfl : k = xs.length := by omega
      have hge : ¬ (xs.length : Int) < (xs.length : Int) := by omega
      have HF := Lib.hid (HY.out HL.out)
      go_wp2
      go_ret
      exact ⟨⟨_, rfl, by rw [HF.out]; simp⟩, HB.out⟩
set_option maxRecDepth 100000 in
set_option maxHeartbeats 1600000 in
theorem contains_gr (b1 b2 : Nat) (T : Int × Int → Bool) (v : Value) (xs : List (Int × Int)) (w : World) (hr : LoadRow w v xs) (hn : xs.length ≤ 2000)
    (CL : ∀ c ∈ xs, ∀ w1 : World, Below w.heap.size w w1 → Calls Try.prog 151 #[.agg #[.int .i64 c.1, .int .i64 c.2], .pointer (some ⟨b1, 0, none⟩), .pointer (some ⟨b2, 0, none⟩)] w1 fun e w' => e = .returned (.bool (T c)) ∧ Below w1.heap.size w1 w') :
    Calls Try.prog 85 #[v, .func (.func 151) #[] #[.pointer (some ⟨b1, 0, none⟩), .pointer (some ⟨b2, 0, none⟩)]] w fun e w' => e = .returned (.bool (xs.any T)) ∧ Below w.heap.size w w' := by
  have C := Lib.hid (index_gr b1 b2 T v xs w hr hn CL)
  obtain ⟨r, hr2⟩ : ∃ r, xs.any T = r := ⟨_, rfl⟩
  rw [hr2] at C ⊢
  obtain ⟨a, c, rfl, _⟩ := hr
  clear hr2 CL
  go_enter Try.func85, Try.ntmps85
  go_wp2_with fail
  refine C.out.mono ?_
  rintro e w1 ⟨⟨z, rfl, hz⟩, l1⟩
  have HZ := Lib.hid hz
  clear hz
  go_wp2
  go_ret
  exact ⟨by rw [← HZ.out]; rfl, l1⟩
set_option maxHeartbeats 1600000 in
theorem foot1_gr (T : Int × Int → Bool) (v : Value) (xs : List (Int × Int)) (x : Int) (b1 b2 : Nat) (w : World) (hr : LoadRow w v xs) (hn : xs.length ≤ 2000) (c1 : w.cell? ⟨b1, 0, none⟩ = some v) (c2 : w.cell? ⟨b2, 0, none⟩ = some (.func (.func 96) #[] #[]))
    (RC : ∀ c ∈ xs, ∀ w1 : World, Below w.heap.size w w1 → Calls Try.prog 96 #[.agg #[.int .i64 c.1, .int .i64 c.2]] w1 fun e w' => e = .returned (.bool (T c)) ∧ Below w1.heap.size w1 w') :
    Calls Try.prog 150 #[.int .i64 x, .pointer (some ⟨b1, 0, none⟩), .pointer (some ⟨b2, 0, none⟩)] w fun e w' => e = .returned (.bool (xs.any fun c => decide (c.1 = x) && T c)) ∧ Below w.heap.size w w' := by
  obtain ⟨W, hW⟩ : ∃ W, w.alloc (.cells #[.int .i64 x] 3) = W := ⟨_, rfl⟩
  have LW := Lib.hid (show Below w.heap.size w W by rw [← hW]; exact below_new _ _)
  have k1 : W.cell? ⟨w.heap.size, 0, none⟩ = some (.int .i64 x) := by rw [← hW, World.cell?_alloc_at _ _ _ _ rfl]; rfl
  have k2 : W.cell? ⟨b2, 0, none⟩ = some (.func (.func 96) #[] #[]) := (LW.out.cell (p := ⟨b2, 0, none⟩) (cell_lt c2)).trans c2
  have k3 : W.cell? ⟨b1, 0, none⟩ = some v := (LW.out.cell (p := ⟨b1, 0, none⟩) (cell_lt c1)).trans c1
  have CT := Lib.hid (contains_gr w.heap.size b2 (fun c => decide (c.1 = x) && T c) v xs W (hr.lo LW.out) hn (fun c hc w1 l =>
    foot2_gr c.1 c.2 x w.heap.size b2 (T c) w1 ((l.cell (p := ⟨w.heap.size, 0, none⟩) (cell_lt k1)).trans k1) ((l.cell (p := ⟨b2, 0, none⟩) (cell_lt k2)).trans k2) (fun w2 l2 => RC c hc w2 (lo_on (lo_on LW.out l) l2))))
  generalize (xs.any fun c => decide (c.1 = x) && T c) = r at *
  obtain ⟨av, cv, rfl, _⟩ := hr
  clear c1 c2 RC k2 k1
  go_enter Try.func150, Try.ntmps150
  go_wp2_with fail
  clear hW
  refine CT.out.mono ?_
  rintro e w1 ⟨rfl, l1⟩
  go_wp2
  go_ret
  exact ⟨rfl, lo_on LW.out l1⟩
set_option maxRecDepth 100000 in
set_option maxHeartbeats 1600000 in
theorem spanFoot_s (b1 b2 L : Nat) (hL : L ≤ 60) (st : Nat → Bool) (w : World) (hc : ∀ (x : Nat) (w1 : World), Below w.heap.size w w1 → Calls Try.prog 150 #[.int .i64 (x : Int), .pointer (some ⟨b1, 0, none⟩), .pointer (some ⟨b2, 0, none⟩)] w1 fun e w' => e = .returned (.bool (st x)) ∧ Below w1.heap.size w1 w') :
    Calls Try.prog 149 #[.int .i64 0, .int .i64 (L : Int), .func (.func 150) #[] #[.pointer (some ⟨b1, 0, none⟩), .pointer (some ⟨b2, 0, none⟩)]] w fun e w' => e = .returned (.tuple #[.int .i64 (loF st (L + 1)), .int .i64 (hiF st (L + 1)), .bool (fdF st (L + 1))]) ∧ Below w.heap.size w w' := by
  have HC := Lib.hid hc
  clear hc
  go_enter Try.func149, Try.ntmps149
  go_wp2
  go_loopw [9, 10, 11, 12] (fun x y z i wr => ∃ k : Nat, k ≤ L + 1 ∧ i = .int .i64 k ∧ x = .int .i64 (loF st k) ∧ y = .int .i64 (hiF st k) ∧ z = .bool (fdF st k) ∧ Hid (Below w.heap.size w wr)) (fun _ _ _ i _ => L + 1 - (intOf i).toNat)
  case atStart => exact ⟨0, by omega, rfl, rfl, rfl, rfl, Lib.hid (Below.refl _ _)⟩
  case round =>
    obtain ⟨k, hk, rfl, rfl, rfl, rfl, hbl⟩ := hrel
    by_cases hlt : k < L + 1
    · have hlt' : (k : Int) ≤ (L : Int) := by omega
      have CK := Lib.hid (HC.out k wr hbl.out)
      have H1 := Lib.hid (show loF st (k + 1) = if st k = true ∧ fdF st k = false then (k : Int) else loF st k from rfl)
      have H2 := Lib.hid (show hiF st (k + 1) = if st k = true then (k : Int) else hiF st k from rfl)
      have H3 := Lib.hid (show fdF st (k + 1) = (fdF st k || st k) from rfl)
      generalize loF st k = lo at *
      generalize hiF st k = hi at *
      generalize fdF st k = fd at *
      generalize st k = s at *
      cases s
      · go_wp2_with (go_at_call 150; refine (CK.out).mono ?_; rintro e w1 ⟨rfl, l1⟩; have LL := Lib.hid (lo_on hbl.out l1); clear l1 CK hbl)
        go_roundw
        case rel => exact ⟨k + 1, by omega, by go_num, by rw [H1.out]; simp, by rw [H2.out]; simp, by rw [H3.out]; simp, LL⟩
        case measure => simp [intOf]; omega
      · cases fd
        all_goals
          (go_wp2_with (go_at_call 150; refine (CK.out).mono ?_; rintro e w1 ⟨rfl, l1⟩; have LL := Lib.hid (lo_on hbl.out l1); clear l1 CK hbl)
           go_roundw
           case rel => exact ⟨k + 1, by omega, by go_num, by rw [H1.out]; simp, by rw [H2.out]; simp, by rw [H3.out]; simp, LL⟩
           case measure => simp [intOf]; omega)
    · obtain rfl : k = L + 1 := by omega
      clear HC
      have hge : ¬ ((L : Int) + 1 ≤ (L : Int)) := by omega
      have hge2 : ¬ (((L + 1 : Nat) : Int) ≤ (L : Int)) := by omega
      obtain ⟨lo, hlo⟩ : ∃ x, loF st (L + 1) = x := ⟨_, rfl⟩
      obtain ⟨hi, hhi⟩ : ∃ x, hiF st (L + 1) = x := ⟨_, rfl⟩
      obtain ⟨fd, hfd⟩ : ∃ x, fdF st (L + 1) = x := ⟨_, rfl⟩
      have E := Lib.hid (show Ending.returned (.tuple #[.int .i64 lo, .int .i64 hi, .bool fd]) = Ending.returned (.tuple #[.int .i64 (loF st (L + 1)), .int .i64 (hiF st (L + 1)), .bool (fdF st (L + 1))]) by rw [hlo, hhi, hfd])
      rw [hlo, hhi, hfd]
      clear hlo hhi hfd
      go_wp2
      exact bodyPost_ret (v := .tuple #[.int .i64 lo, .int .i64 hi, .bool fd]) (by simp [results, Try.results149, go_sem]) rfl ⟨E.out, hbl.out⟩
/-- Does a cell with this x rest? -/
def restB (T : Int × Int → Bool) (xs : List (Int × Int)) (k : Nat) : Bool := xs.any fun c => decide (c.1 = (k : Int)) && T c
def ftB (T : Int × Int → Bool) (xs : List (Int × Int)) : Bool := fdF (restB T xs) 12
def ftLo (T : Int × Int → Bool) (xs : List (Int × Int)) : Int := if ftB T xs = true then loF (restB T xs) 12 else 0
def ftHi (T : Int × Int → Bool) (xs : List (Int × Int)) : Int := if ftB T xs = true then hiF (restB T xs) 12 + 1 else 0
set_option maxRecDepth 100000 in
set_option maxHeartbeats 1600000 in
theorem footOf_gr (T : Int × Int → Bool) (v : Value) (xs : List (Int × Int)) (w : World) (hr : LoadRow w v xs) (hn : xs.length ≤ 2000)
    (RC : ∀ c ∈ xs, ∀ w1 : World, Below w.heap.size w w1 → Calls Try.prog 96 #[.agg #[.int .i64 c.1, .int .i64 c.2]] w1 fun e w' => e = .returned (.bool (T c)) ∧ Below w1.heap.size w1 w') :
    Calls Try.prog 95 #[v, .func (.func 96) #[] #[]] w fun e w' => e = .returned (.tuple #[.int .i64 (ftLo T xs), .int .i64 (ftHi T xs), .bool (ftB T xs)]) ∧ Below w.heap.size w w' := by
  obtain ⟨W, hW⟩ : ∃ W, (w.alloc (.cells #[v] 22)).alloc (.cells #[.func (.func 96) #[] #[]] 76) = W := ⟨_, rfl⟩
  have LW := Lib.hid (show Below w.heap.size w W by rw [← hW]; exact alloc_two _ _ _)
  have k1 : W.cell? ⟨w.heap.size, 0, none⟩ = some v := by
    rw [← hW, (below_new (w.alloc (.cells #[v] 22)) _).cell (p := ⟨w.heap.size, 0, none⟩) (by simp), World.cell?_alloc_at _ _ _ _ rfl]; rfl
  have k2 : W.cell? ⟨w.heap.size + 1, 0, none⟩ = some (.func (.func 96) #[] #[]) := by
    rw [← hW, World.cell?_alloc_at _ _ _ _ (by simp)]; rfl
  have SP := Lib.hid (spanFoot_s w.heap.size (w.heap.size + 1) 11 (by omega) (restB T xs) W (fun x w1 l => foot1_gr T v xs (x : Int) w.heap.size (w.heap.size + 1) w1 (hr.lo (lo_on LW.out l)) hn ((l.cell (p := ⟨w.heap.size, 0, none⟩) (cell_lt k1)).trans k1) ((l.cell (p := ⟨w.heap.size + 1, 0, none⟩) (cell_lt k2)).trans k2) (fun c hc w2 l2 => RC c hc w2 (lo_on (lo_on LW.out l) l2))))
  have HB := Lib.hid (scan_bounds (restB T xs) 12)
  have HD := Lib.hid (show ftLo T xs = if fdF (restB T xs) 12 = true then loF (restB T xs) 12 else 0 from rfl)
  have HE := Lib.hid (show ftHi T xs = if fdF (restB T xs) 12 = true then hiF (restB T xs) 12 + 1 else 0 from rfl)
  have HF := Lib.hid (show ftB T xs = fdF (restB T xs) 12 from rfl)
  rw [show (11 + 1 : Nat) = 12 from rfl] at SP
  generalize loF (restB T xs) 12 = lo at *
  generalize hiF (restB T xs) 12 = hi at *
  generalize fdF (restB T xs) 12 = fd at *
  have hb := HB.out
  obtain ⟨a1, a2, a3, a4⟩ := hb
  obtain ⟨av, cv, rfl, _⟩ := hr
  clear RC k1 k2
  cases fd with
  | false =>
    go_enter Try.func95, Try.ntmps95
    go_wp2_with fail
    clear hW
    refine SP.out.mono ?_
    rintro e w1 ⟨rfl, l1⟩
    go_wp2
    exact bodyPost_ret (v := .tuple #[.int .i64 0, .int .i64 0, .bool false]) (by simp [results, Try.results95, go_sem]) rfl ⟨by rw [HD.out, HE.out, HF.out]; rfl, lo_on LW.out l1⟩
  | true =>
    go_enter Try.func95, Try.ntmps95
    go_wp2_with fail
    clear hW
    refine SP.out.mono ?_
    rintro e w1 ⟨rfl, l1⟩
    go_wp2
    exact bodyPost_ret (v := .tuple #[.int .i64 lo, .int .i64 (hi + 1), .bool true]) (by simp [results, Try.results95, go_sem]) rfl ⟨by rw [HD.out, HE.out, HF.out]; rfl, lo_on LW.out l1⟩
def grB (c : Int × Int) : Bool := decide (c.2 = 0)
theorem isOnGround_any (p q : Int) (w : World) : Calls Try.prog 96 #[.agg #[.int .i64 p, .int .i64 q]] w fun e w' => e = .returned (.bool (grB (p, q))) ∧ Below w.heap.size w w' := by
  unfold grB
  by_cases h : q = 0
  · subst h
    go_enter Try.func96, Try.ntmps96
    go_wp2
    go_ret
    exact ⟨rfl, below_new _ _⟩
  · have h' : (q == 0) = false := by simpa using h
    rw [show decide ((p, q).2 = 0) = false by simpa using h]
    go_enter Try.func96, Try.ntmps96
    go_wp2
    go_ret
    exact ⟨rfl, below_new _ _⟩
theorem rest_iff (T : Int × Int → Bool) (xs : List (Int × Int)) (k : Nat) : restB T xs k = true ↔ ∃ c ∈ xs, c.1 = (k : Int) ∧ T c = true := by
  unfold restB
  rw [List.any_eq_true]
  simp only [Bool.and_eq_true, decide_eq_true_eq]
theorem fd_of (st : Nat → Bool) (j : Nat) (hs : st j = true) : ∀ n, j < n → fdF st n = true := by
  intro n
  induction n with
  | zero => intro h; omega
  | succ n ih =>
    intro h
    rw [fdF]
    by_cases e : j = n
    · subst e; rw [hs]; simp
    · rw [ih (by omega)]; rfl
/-- What a body rests on is its ground. -/
theorem ft_ground {xs : List (Int × Int)} (h : BodF xs) : ftB grB xs = true ∧ ftLo grB xs = gloF xs ∧ ftHi grB xs = ghiF xs := by
  obtain ⟨g1, g2, g3⟩ := h.ground
  obtain ⟨⟨a1, a2⟩, a3, a4⟩ := h.gro
  obtain ⟨n, hn⟩ := Int.eq_ofNat_of_zero_le a1
  obtain ⟨m, hm⟩ := Int.eq_ofNat_of_zero_le (show 0 ≤ ghiF xs - 1 by omega)
  have s1 : restB grB xs n = true := (rest_iff _ _ _).2 ⟨_, g1, hn, by unfold grB; simp⟩
  have s2 : restB grB xs m = true := (rest_iff _ _ _).2 ⟨_, g2, hm, by unfold grB; simp⟩
  have hf : ftB grB xs = true := fd_of _ n s1 12 (by omega)
  obtain ⟨l, q, e1, e2, e3, e4, e5, e6, e7⟩ := scan_at (restB grB xs) 12 hf
  have b1 := e7 n (by omega) s1
  have b2 := e7 m (by omega) s2
  obtain ⟨c, hc, c1, c2⟩ := (rest_iff _ _ _).1 e5
  obtain ⟨d, hd, d1, d2⟩ := (rest_iff _ _ _).1 e6
  have r1 := g3 c hc (by unfold grB at c2; simpa using c2)
  have r2 := g3 d hd (by unfold grB at d2; simpa using d2)
  refine ⟨hf, ?_, ?_⟩
  · unfold ftLo; rw [if_pos hf, e1]; omega
  · unfold ftHi; rw [if_pos hf, e2]; omega
theorem groundOf_any (v : Value) (xs : List (Int × Int)) (w : World) (hr : LoadRow w v xs) (hw : WfL xs) (hn : xs.length ≤ 2000000) :
    Calls Try.prog 32 #[v] w fun e w' => e = .returned (.tuple #[.int .i64 (bodI (bodB xs) (gloF xs)), .int .i64 (bodI (bodB xs) (ghiF xs)), .bool (bodB xs)]) ∧ Below w.heap.size w w' := by
  have C := Lib.hid (isBody_any v xs w hr hw hn)
  have F := Lib.hid (fun (w1 : World) (l : Below w.heap.size w w1) (hb : bodB xs = true) => footOf_gr grB v xs w1 (hr.lo l) (by have := ((bodB_iff xs).1 hb).short; omega) (fun c _ w2 _ => isOnGround_any c.1 c.2 w2))
  have G := Lib.hid (fun hb : bodB xs = true => ft_ground ((bodB_iff xs).1 hb))
  generalize bodB xs = b at *
  generalize ftB grB xs = fb at *
  generalize ftLo grB xs = fl at *
  generalize ftHi grB xs = fh at *
  generalize gloF xs = lo at *
  generalize ghiF xs = hi at *
  obtain ⟨a, c, rfl, _⟩ := hr
  unfold bodI
  cases b with
  | false =>
    go_enter Try.func32, Try.ntmps32
    go_wp2_with fail
    refine C.out.mono ?_
    rintro e w1 ⟨rfl, l1⟩
    go_wp2
    exact bodyPost_ret (v := .tuple #[.int .i64 0, .int .i64 0, .bool false]) (by simp [results, Try.results32, go_sem]) rfl ⟨rfl, l1⟩
  | true =>
    obtain ⟨rfl, rfl, rfl⟩ := G.out rfl
    go_enter Try.func32, Try.ntmps32
    go_wp2_with fail
    refine C.out.mono ?_
    rintro e w1 ⟨rfl, l1⟩
    have F2 := Lib.hid (F.out w1 l1 (by first | trivial | rfl))
    have L1 := Lib.hid l1
    clear l1 F
    go_wp2_with fail
    refine F2.out.mono ?_
    rintro e w2 ⟨rfl, l2⟩
    go_wp2
    exact bodyPost_ret (v := .tuple #[.int .i64 fl, .int .i64 fh, .bool true]) (by simp [results, Try.results32, go_sem]) rfl ⟨rfl, lo_on L1.out l2⟩
/-- The middles of all cells, as loads. -/
def midsL (f : Int × Int → Int) (xs : List (Int × Int)) : List (Int × Int) := xs.map fun c => (2 * f c + 1, 1)
theorem mids_wt (f : Int × Int → Int) (xs : List (Int × Int)) : wtF (midsL f xs) = xs.length := by
  induction xs with
  | nil => rfl
  | cons x l ih => unfold midsL at *; simp only [List.map_cons, wtF, ih, List.length_cons]; omega
theorem mids_mom (f : Int × Int → Int) (xs : List (Int × Int)) : momF 0 (midsL f xs) = midF f xs := by
  induction xs with
  | nil => rfl
  | cons x l ih => unfold midsL at *; simp only [List.map_cons, momF, midF, ih, Int.one_mul, Int.sub_zero]
theorem mids_row (f : Int × Int → Int) {xs : List (Int × Int)} (h12 : xs.length ≤ 12) (h : ∀ c ∈ xs, 0 ≤ f c ∧ f c ≤ 11) : RowF (midsL f xs) := by
  refine ⟨by unfold midsL; rw [List.length_map]; exact h12, fun x hx => ?_⟩
  obtain ⟨c, hc, rfl⟩ := List.mem_map.1 hx
  have := h c hc
  simp only; omega
theorem mids_side (xs : List (Int × Int)) (lo hi : Int) : sideF (2 * lo) (2 * hi) (midsL Prod.fst xs) = ovF (midF Prod.fst xs) xs.length lo hi := by
  unfold sideF ovF
  rw [mom_at (2 * lo), mom_at (2 * hi), mids_mom, mids_wt]
  have e1 : 2 * lo * (xs.length : Int) = 2 * (xs.length : Int) * lo := by rw [Int.mul_assoc, Int.mul_comm lo, ← Int.mul_assoc]
  have e2 : 2 * hi * (xs.length : Int) = 2 * (xs.length : Int) * hi := by rw [Int.mul_assoc, Int.mul_comm hi, ← Int.mul_assoc]
  rw [e1, e2]
  have a : (midF Prod.fst xs - 2 * (xs.length : Int) * lo < 0) = (midF Prod.fst xs < 2 * (xs.length : Int) * lo) := propext (by omega)
  have b : (0 < midF Prod.fst xs - 2 * (xs.length : Int) * hi) = (2 * (xs.length : Int) * hi < midF Prod.fst xs) := propext (by omega)
  simp only [a, b]
set_option maxRecDepth 100000 in
set_option maxHeartbeats 1600000 in
theorem middlesOf_x (v : Value) (xs : List (Int × Int)) (w : World) (hr : LoadRow w v xs) (hs : ∀ c ∈ xs, SmC c) (hn : xs.length ≤ 2000) :
    Calls Try.prog 92 #[v, .int .i64 0] w fun e w' => ∃ u, e = .returned u ∧ LoadRow w' u (midsL Prod.fst xs) ∧ Below w.heap.size w w' := by
  have HS := Lib.hid hs
  have HM := make_loads xs.length (by omega)
  obtain ⟨a, c, rfl, hr⟩ := hr
  clear hs
  go_enter Try.func92, Try.ntmps92
  go_wp2
  go_loopw [13] (fun i wr => ∃ k : Nat, k ≤ xs.length ∧ i = .int .i64 k ∧ Hid (∀ j, j < k → wr.cell? ⟨w.heap.size, j * 2, none⟩ = some (.int .i64 (2 * Prod.fst (xs.getD j (0, 0)) + 1)) ∧ wr.cell? ⟨w.heap.size, j * 2 + 1, none⟩ = some (.int .i64 1)) ∧ Hid (∀ j, k * 2 ≤ j → j < xs.length * 2 → wr.cell? ⟨w.heap.size, j, none⟩ = some (.int .i64 0)) ∧ Hid (∀ j, wr.frozen? ⟨w.heap.size, j, none⟩ = false) ∧ Below w.heap.size w wr ∧ w.heap.size + 1 ≤ wr.heap.size) (fun i _ => xs.length - (intOf i).toNat)
  case atStart => exact ⟨0, Nat.zero_le _, rfl, Lib.hid (fun j h => by omega), Lib.hid (fun j _ h => by rw [World.cell?_alloc_at _ _ _ _ rfl]; exact made_zero _ _ h), Lib.hid (fun j => World.frozen?_alloc_at _ _ _ _ rfl), (Below.refl _ _).alloc (Nat.le_refl _) _, by simp⟩
  case round =>
    obtain ⟨k, hk, rfl, H1, H2, H3, hb, hs1⟩ := hrel
    clear HM
    by_cases hlt : k < xs.length
    · rcases hr with h | ⟨g, off, rfl, hg, hc⟩
      · subst h; simp at hlt
      obtain ⟨h1, h2⟩ := hc k hlt
      rw [← hb.cell (p := ⟨g, off + k * 2, none⟩) hg] at h1
      rw [← hb.cell (p := ⟨g, off + k * 2 + 1, none⟩) hg] at h2
      have hlt' : (k : Int) < (xs.length : Int) := by omega
      have hsm := HS.out _ (mem_getD hlt)
      clear hc
      obtain ⟨x, hx⟩ : ∃ x, xs.getD k (0, 0) = x := ⟨_, rfl⟩
      rw [hx] at h1 h2 hsm
      have HX := Lib.hid hx
      clear hx
      obtain ⟨p, q⟩ := x
      obtain ⟨⟨s1, s2⟩, s3, s4⟩ := hsm
      simp only at h1 h2 s1 s2 s3 s4
      have z1 := H2.out (k * 2) (Nat.le_refl _) (by omega)
      have z2 := H2.out (k * 2 + 1) (by omega) (by omega)
      have f1 := H3.out (k * 2)
      have f2 := H3.out (k * 2 + 1)
      have hn0 : w.heap.size < wr.heap.size := by omega
      obtain ⟨w1, hw1⟩ : ∃ w1, wr.alloc (.cells #[.int .i64 p, .int .i64 q] 29) = w1 := ⟨_, rfl⟩
      have hl : Below wr.heap.size wr w1 := by rw [← hw1]; exact below_new _ _
      obtain ⟨_, b1, b2, _, _⟩ := (show Cel2 w1 wr.heap.size (p, q) by rw [← hw1]; exact cel2_new _ _ _ _)
      simp only at b1 b2
      rw [← hl.cell (p := ⟨w.heap.size, k * 2, none⟩) hn0] at z1
      rw [← hl.cell (p := ⟨w.heap.size, k * 2 + 1, none⟩) hn0] at z2
      rw [← hl.frozen (p := ⟨w.heap.size, k * 2, none⟩) hn0] at f1
      rw [← hl.frozen (p := ⟨w.heap.size, k * 2 + 1, none⟩) hn0] at f2
      have hl1 := hl.size
      have HLL := Lib.hid hl
      have TS := Lib.hid (two_set w1 w.heap.size (k * 2) (.int .i64 (2 * p + 1)) (.int .i64 1) z1 z2)
      clear hl
      go_wp2
      clear hw1
      go_roundw
      case rel =>
        obtain ⟨t1, t2, t3⟩ := TS.out
        refine ⟨k + 1, by omega, by go_num, Lib.hid (fun j hj => ?_), Lib.hid (fun j hj hjn => ?_), Lib.hid (fun j => ?_), ?_, by simp; omega⟩
        · by_cases e : j = k
          · subst e
            rw [HX.out]
            exact ⟨t1, t2⟩
          · rw [t3 _ (by omega) (by omega), t3 _ (by omega) (by omega), HLL.out.cell (p := ⟨w.heap.size, j * 2, none⟩) hn0, HLL.out.cell (p := ⟨w.heap.size, j * 2 + 1, none⟩) hn0]
            exact H1.out j (by omega)
        · rw [t3 _ (by omega) (by omega), HLL.out.cell (p := ⟨w.heap.size, j, none⟩) hn0]
          exact H2.out j (by omega) hjn
        · rw [World.frozen?_setCell, World.frozen?_setCell, HLL.out.frozen (p := ⟨w.heap.size, j, none⟩) hn0]
          exact H3.out j
        · exact ((hb.trans (HLL.out.mono hb.size)).setCell (p := ⟨w.heap.size, k * 2, none⟩) (Nat.le_refl _) _).setCell (p := ⟨w.heap.size, k * 2 + 1, none⟩) (Nat.le_refl _) _
      case measure => simp [intOf]; omega
    · obtain rfl : k = xs.length := by omega
      have hge : ¬ (xs.length : Int) < (xs.length : Int) := by omega
      go_wp2
      go_ret
      refine ⟨_, rfl, ⟨_, _, by unfold midsL; rw [List.length_map]; rfl, .inr ⟨w.heap.size, 0, rfl, by omega, fun j hj => ?_⟩⟩, hb⟩
      unfold midsL at hj ⊢
      rw [List.length_map] at hj
      have := H1.out j hj
      rw [Nat.zero_add]
      simpa [List.getD, List.getElem?_map, List.getElem?_eq_getElem hj] using this
set_option maxRecDepth 100000 in
set_option maxHeartbeats 1600000 in
theorem middlesOf_y (v : Value) (xs : List (Int × Int)) (w : World) (hr : LoadRow w v xs) (hs : ∀ c ∈ xs, SmC c) (hn : xs.length ≤ 2000) :
    Calls Try.prog 92 #[v, .int .i64 1] w fun e w' => ∃ u, e = .returned u ∧ LoadRow w' u (midsL Prod.snd xs) ∧ Below w.heap.size w w' := by
  have HS := Lib.hid hs
  have HM := make_loads xs.length (by omega)
  obtain ⟨a, c, rfl, hr⟩ := hr
  clear hs
  go_enter Try.func92, Try.ntmps92
  go_wp2
  go_loopw [13] (fun i wr => ∃ k : Nat, k ≤ xs.length ∧ i = .int .i64 k ∧ Hid (∀ j, j < k → wr.cell? ⟨w.heap.size, j * 2, none⟩ = some (.int .i64 (2 * Prod.snd (xs.getD j (0, 0)) + 1)) ∧ wr.cell? ⟨w.heap.size, j * 2 + 1, none⟩ = some (.int .i64 1)) ∧ Hid (∀ j, k * 2 ≤ j → j < xs.length * 2 → wr.cell? ⟨w.heap.size, j, none⟩ = some (.int .i64 0)) ∧ Hid (∀ j, wr.frozen? ⟨w.heap.size, j, none⟩ = false) ∧ Below w.heap.size w wr ∧ w.heap.size + 1 ≤ wr.heap.size) (fun i _ => xs.length - (intOf i).toNat)
  case atStart => exact ⟨0, Nat.zero_le _, rfl, Lib.hid (fun j h => by omega), Lib.hid (fun j _ h => by rw [World.cell?_alloc_at _ _ _ _ rfl]; exact made_zero _ _ h), Lib.hid (fun j => World.frozen?_alloc_at _ _ _ _ rfl), (Below.refl _ _).alloc (Nat.le_refl _) _, by simp⟩
  case round =>
    obtain ⟨k, hk, rfl, H1, H2, H3, hb, hs1⟩ := hrel
    clear HM
    by_cases hlt : k < xs.length
    · rcases hr with h | ⟨g, off, rfl, hg, hc⟩
      · subst h; simp at hlt
      obtain ⟨h1, h2⟩ := hc k hlt
      rw [← hb.cell (p := ⟨g, off + k * 2, none⟩) hg] at h1
      rw [← hb.cell (p := ⟨g, off + k * 2 + 1, none⟩) hg] at h2
      have hlt' : (k : Int) < (xs.length : Int) := by omega
      have hsm := HS.out _ (mem_getD hlt)
      clear hc
      obtain ⟨x, hx⟩ : ∃ x, xs.getD k (0, 0) = x := ⟨_, rfl⟩
      rw [hx] at h1 h2 hsm
      have HX := Lib.hid hx
      clear hx
      obtain ⟨p, q⟩ := x
      obtain ⟨⟨s1, s2⟩, s3, s4⟩ := hsm
      simp only at h1 h2 s1 s2 s3 s4
      have z1 := H2.out (k * 2) (Nat.le_refl _) (by omega)
      have z2 := H2.out (k * 2 + 1) (by omega) (by omega)
      have f1 := H3.out (k * 2)
      have f2 := H3.out (k * 2 + 1)
      have hn0 : w.heap.size < wr.heap.size := by omega
      obtain ⟨w1, hw1⟩ : ∃ w1, wr.alloc (.cells #[.int .i64 p, .int .i64 q] 29) = w1 := ⟨_, rfl⟩
      have hl : Below wr.heap.size wr w1 := by rw [← hw1]; exact below_new _ _
      obtain ⟨_, b1, b2, _, _⟩ := (show Cel2 w1 wr.heap.size (p, q) by rw [← hw1]; exact cel2_new _ _ _ _)
      simp only at b1 b2
      rw [← hl.cell (p := ⟨w.heap.size, k * 2, none⟩) hn0] at z1
      rw [← hl.cell (p := ⟨w.heap.size, k * 2 + 1, none⟩) hn0] at z2
      rw [← hl.frozen (p := ⟨w.heap.size, k * 2, none⟩) hn0] at f1
      rw [← hl.frozen (p := ⟨w.heap.size, k * 2 + 1, none⟩) hn0] at f2
      have hl1 := hl.size
      have HLL := Lib.hid hl
      have TS := Lib.hid (two_set w1 w.heap.size (k * 2) (.int .i64 (2 * q + 1)) (.int .i64 1) z1 z2)
      clear hl
      go_wp2
      clear hw1
      go_roundw
      case rel =>
        obtain ⟨t1, t2, t3⟩ := TS.out
        refine ⟨k + 1, by omega, by go_num, Lib.hid (fun j hj => ?_), Lib.hid (fun j hj hjn => ?_), Lib.hid (fun j => ?_), ?_, by simp; omega⟩
        · by_cases e : j = k
          · subst e
            rw [HX.out]
            exact ⟨t1, t2⟩
          · rw [t3 _ (by omega) (by omega), t3 _ (by omega) (by omega), HLL.out.cell (p := ⟨w.heap.size, j * 2, none⟩) hn0, HLL.out.cell (p := ⟨w.heap.size, j * 2 + 1, none⟩) hn0]
            exact H1.out j (by omega)
        · rw [t3 _ (by omega) (by omega), HLL.out.cell (p := ⟨w.heap.size, j, none⟩) hn0]
          exact H2.out j (by omega) hjn
        · rw [World.frozen?_setCell, World.frozen?_setCell, HLL.out.frozen (p := ⟨w.heap.size, j, none⟩) hn0]
          exact H3.out j
        · exact ((hb.trans (HLL.out.mono hb.size)).setCell (p := ⟨w.heap.size, k * 2, none⟩) (Nat.le_refl _) _).setCell (p := ⟨w.heap.size, k * 2 + 1, none⟩) (Nat.le_refl _) _
      case measure => simp [intOf]; omega
    · obtain rfl : k = xs.length := by omega
      have hge : ¬ (xs.length : Int) < (xs.length : Int) := by omega
      go_wp2
      go_ret
      refine ⟨_, rfl, ⟨_, _, by unfold midsL; rw [List.length_map]; rfl, .inr ⟨w.heap.size, 0, rfl, by omega, fun j hj => ?_⟩⟩, hb⟩
      unfold midsL at hj ⊢
      rw [List.length_map] at hj
      have := H1.out j hj
      rw [Nat.zero_add]
      simpa [List.getD, List.getElem?_map, List.getElem?_eq_getElem hj] using this
end Go.Proofs.Ytmcjichpeijiaaa
