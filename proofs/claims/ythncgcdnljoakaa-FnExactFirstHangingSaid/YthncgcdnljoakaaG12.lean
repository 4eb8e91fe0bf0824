/- LvP, MobI1, as one text. -/
import Derived.Test.YthncgcdnljoakaaG11
import Derived.Test.YthncgcdnljoakaaG7
import Derived.Test.YthncgcdnljoakaaG10
import Derived.Maps.OwnSet
import Derived.Maps.Ext
namespace Go.Proofs.Ythncgcdnljoakaa
theorem foldl_gcd_mul (a : Nat) : ∀ (xs : List Nat) (c : Nat), (xs.map (a * ·)).foldl Nat.gcd (a * c) = a * xs.foldl Nat.gcd c := by
  intro xs
  induction xs with
  | nil => intro c; rfl
  | cons x xs ih =>
    intro c
    rw [List.map_cons, List.foldl_cons, List.foldl_cons, Nat.gcd_mul_left]
    exact ih _
/-- The greatest common divisor of a list. -/
def gcdL (xs : List Nat) : Nat := xs.foldl Nat.gcd 0
def primL (xs : List Nat) : List Nat := xs.map (· / gcdL xs)
theorem gcdL_mul (a : Nat) (xs : List Nat) : gcdL (xs.map (a * ·)) = a * gcdL xs := by
  have := foldl_gcd_mul a xs 0
  rwa [Nat.mul_zero] at this
theorem primL_mul (a : Nat) (h : 0 < a) (xs : List Nat) : primL (xs.map (a * ·)) = primL xs := by
  unfold primL
  rw [gcdL_mul, List.map_map]
  refine List.map_congr_left (fun x _ => ?_)
  exact Nat.mul_div_mul_left x (gcdL xs) h
/-- Lists that are multiples of one another have the same list over the greatest common divisor. -/
theorem prim_same {L P : Nat} (hL : 0 < L) (hP : 0 < P) {v u : List Nat} (h : v.map (L * ·) = u.map (P * ·)) : primL v = primL u := by
  rw [← primL_mul L hL v, h, primL_mul P hP]
theorem foldl_gcd_dvd : ∀ (xs : List Nat) (c : Nat), xs.foldl Nat.gcd c ∣ c ∧ ∀ x, x ∈ xs → xs.foldl Nat.gcd c ∣ x := by
  intro xs
  induction xs with
  | nil => intro c; exact ⟨Nat.dvd_refl _, fun x h => by cases h⟩
  | cons y xs ih =>
    intro c
    obtain ⟨a, b⟩ := ih (Nat.gcd c y)
    rw [List.foldl_cons]
    refine ⟨Nat.dvd_trans a (Nat.gcd_dvd_left c y), fun x hx => ?_⟩
    rcases List.mem_cons.1 hx with rfl | hx
    · exact Nat.dvd_trans a (Nat.gcd_dvd_right c x)
    · exact b x hx
theorem gcdL_pos {xs : List Nat} {x : Nat} (hx : x ∈ xs) (h : 0 < x) : 0 < gcdL xs := by
  rcases Nat.eq_zero_or_pos (gcdL xs) with e | e
  · have := (foldl_gcd_dvd xs 0).2 x hx
    rw [show xs.foldl Nat.gcd 0 = 0 from e] at this
    have := Nat.eq_zero_of_zero_dvd this
    omega
  · exact e
theorem gcdL_le {xs : List Nat} {x : Nat} (hx : x ∈ xs) (h : 0 < x) : gcdL xs ≤ x := Nat.le_of_dvd h ((foldl_gcd_dvd xs 0).2 x hx)
/-- The product of the lengths of all rods. -/
def bothN (m : MobV) (i : Nat) : Nat := (avM m (2 * i) + avM m (2 * i + 1)).toNat
def prodN (m : MobV) : Nat → Nat
  | 0 => 1
  | k + 1 => prodN m k * bothN m k
theorem bothN_bnd {m : MobV} (hf : MobF m) (i : Nat) (h : i < m.am.length) : 2 ≤ bothN m i ∧ bothN m i ≤ 24 := by
  have a := (hf.ends (2 * i) (by omega)).1
  have b := (hf.ends (2 * i + 1) (by omega)).1
  unfold bothN
  omega
theorem prodN_bnd {m : MobV} (hf : MobF m) : ∀ k, k ≤ m.am.length → 1 ≤ prodN m k ∧ prodN m k ≤ 24 ^ k := by
  intro k
  induction k with
  | zero => intro _; exact ⟨Nat.le_refl _, Nat.le_refl _⟩
  | succ k ih =>
    intro hk
    obtain ⟨a, b⟩ := ih (by omega)
    obtain ⟨c, d⟩ := bothN_bnd hf k (by omega)
    rw [prodN, Nat.pow_succ]
    exact ⟨Nat.mul_pos a (by omega), Nat.mul_le_mul b d⟩
theorem prodN_all {m : MobV} (hf : MobF m) : prodN m m.am.length ≤ 191102976 := by
  have h := (prodN_bnd hf m.am.length (Nat.le_refl _)).2
  have h6 := hf.short
  exact Nat.le_trans h (Nat.le_trans (Nat.pow_le_pow_right (by omega) h6) (by decide))
end Go.Proofs.Ythncgcdnljoakaa
namespace Go.Proofs.Ythncgcdnljoakaa
open Go.RowKit Go.Maps
theorem isArm_is (p : Int) (r : Bool) (h : (decide (1 ≤ p) && decide (p ≤ 12)) = r) (w : World) : Calls Try.prog 178 #[.int .i64 p] w fun e w' => e = .returned (.bool r) ∧ w = w' := by
  subst h
  by_cases h1 : 1 ≤ p
  · by_cases h2 : p ≤ 12
    all_goals go_enter Try.func178, Try.ntmps178
    all_goals go_wp2
    all_goals go_ret
    all_goals exact ⟨by simp [h1, h2], rfl⟩
  · go_enter Try.func178, Try.ntmps178
    go_wp2
    go_ret
    exact ⟨by simp; omega, rfl⟩
theorem lawIntH : Keyed Try.prog 3 := int_keyed Try.underlying3
theorem boolElem_inv {H : Type} {P : Program} {e : TypeId} (he : P.underlying e = some .bool) {v : Value} {z : DataW H × List MemPlace} (h : plainElem P e v = some z) : ∃ b, v = .bool b ∧ z = (.lit (.bool b), []) := by
  unfold plainElem at h
  rw [he] at h
  cases v <;> simp at h
  exact ⟨_, rfl, h.symm⟩
theorem zeroBool (w : World) : (zeroValue 4).run Try.prog w = .ok (.bool false) w := by kernel_rfl
/-- The map in block b holds the rods that hang at the first T ends. -/
structure Hangs (w : World) (b n : Nat) (m : MobV) (T : Nat) (D : DataW Unit) : Prop where
  own : w.ownsMap Try.prog 3 (plainElem Try.prog 4) b T D
  at_ : ∀ j : Nat, 1 ≤ j → j < n → D.atKey (.int .i64 (j : Int)) (.lit (.bool false)) = .lit (.bool (decide (cntM m T j = 1))) ∧ Maps.has D (.int .i64 (j : Int)) = decide (cntM m T j = 1)
  one : ∀ j : Nat, 1 ≤ j → j < n → cntM m T j ≤ 1
  size : Maps.size D = negM m T
theorem Hangs.keep {w w' : World} {b n T : Nat} {m : MobV} {D : DataW Unit} (h : Hangs w b n m T D) {row : Option Nat} (hg : w.grownBy w' row) (hne : some b ≠ row) : Hangs w' b n m T D :=
  ⟨h.own.kept hg hne, h.at_, h.one, h.size⟩
theorem Hangs.same {w : World} {b n T : Nat} {m : MobV} {D : DataW Unit} (h : Hangs w b n m T D) (hp : ¬ hvM m T < 0) : Hangs w b n m (T + 1) D := by
  have e : ∀ j : Nat, 1 ≤ j → cntM m (T + 1) j = cntM m T j := fun j hj => by rw [cntM, if_neg (by omega)]; rfl
  refine ⟨h.own.mono (Nat.le_succ _), fun j h1 h2 => ?_, fun j h1 h2 => ?_, ?_⟩
  · rw [e j h1]; exact h.at_ j h1 h2
  · rw [e j h1]; exact h.one j h1 h2
  · rw [negM, if_neg hp]; exact h.size
theorem Hangs.more {w w' : World} {b n T q : Nat} {m : MobV} {D : DataW Unit} (h : Hangs w b n m T D) (hq : hvM m T = -(q : Int)) (q1 : 1 ≤ q) (qn : q < n) (h0 : cntM m T q = 0)
    (hown : w'.ownsMap Try.prog 3 (plainElem Try.prog 4) b (T + 1) (D.put (.int .i64 (q : Int)) (.lit (.bool true)))) : Hangs w' b n m (T + 1) (D.put (.int .i64 (q : Int)) (.lit (.bool true))) := by
  have e : ∀ j : Nat, cntM m (T + 1) j = cntM m T j + if j = q then 1 else 0 := fun j => by
    rw [cntM]
    by_cases hj : j = q
    · rw [if_pos hj, if_pos (by omega)]
    · rw [if_neg hj, if_neg (by omega)]
  have hm := h.own.isMap
  have hk : WideAt.IsKeyLit (Lit.int .i64 (q : Int)) := by first | exact trivial | exact ⟨_, _, rfl⟩ | simp [WideAt.IsKeyLit]
  refine ⟨hown, fun j h1 h2 => ?_, fun j h1 h2 => ?_, ?_⟩
  · rw [e j]
    by_cases hj : j = q
    · subst hj
      rw [if_pos rfl, h0, atKey_put_same hm hk, has_put_same hm hk]
      exact ⟨rfl, rfl⟩
    · have hne : Lit.int .i64 (j : Int) ≠ Lit.int .i64 (q : Int) := fun hh => hj (by cases hh; rfl)
      rw [if_neg hj, Nat.add_zero, atKey_put_other hne, has_put_other hne]
      exact h.at_ j h1 h2
  · rw [e j]
    by_cases hj : j = q
    · subst hj; rw [if_pos rfl, h0]; exact Nat.le_refl _
    · rw [if_neg hj, Nat.add_zero]; exact h.one j h1 h2
  · have hh := (h.at_ q q1 qn).2
    rw [h0] at hh
    rw [size_put (h.own.tidy lawIntH), hh, negM, if_pos (show hvM m T < 0 by omega), h.size]
    rfl
theorem hangs_start (w : World) (n : Nat) (m : MobV) : Hangs (w.alloc (.map #[] 0)) w.heap.size n m 0 (.map []) :=
  ⟨World.ownsMap_made _ _ _ _, fun _ _ _ => ⟨rfl, rfl⟩, fun _ _ _ => Nat.zero_le _, rfl⟩
theorem index_two (a b x : Int) (e : Nat) (he : e < 2) (hx : (if e = 0 then a else b) = x) (w : World) : (Instr.index 134 (.agg #[.int .i64 a, .int .i64 b]) (.int .i64 (e : Int))).run Try.prog w = .ok (.int .i64 x) w := by
  subst hx
  rcases (show e = 0 ∨ e = 1 by omega) with rfl | rfl
  · kernel_rfl
  · kernel_rfl
set_option maxRecDepth 100000 in
set_option maxHeartbeats 6400000 in
theorem isMobile_yes (v : Value) (m : MobV) (w : World) (hv : MobRow w v m) (hb : BndM m) (h1 : 1 ≤ m.am.length) (h6 : m.am.length ≤ 6) (hs : m.hu.length = m.am.length) :
    Calls Try.prog 166 #[v] w fun e w' => e = .returned (.bool (goodB m)) ∧ Below w.heap.size w w' := by
  have hmm := @run_makeMap Try.prog
  obtain ⟨av, bv, rfl, ha, hh⟩ := hv
  obtain ⟨g, off, c, rfl, hg, hca⟩ := pair_at ha (by omega)
  obtain ⟨g', off', c', rfl, hg', hch⟩ := pair_at hh (by omega)
  obtain ⟨n, hn⟩ : ∃ n, m.am.length = n := ⟨_, rfl⟩
  have EC := Lib.hid (fun i e (h1 : i < n) (h2 : e < 2) => end_cells hn (hs.trans hn) hca hch i e h1 h2)
  have HB := Lib.hid (fun t (ht : t < 2 * n) => hv_bnd hb t (by omega))
  have HNO := Lib.hid (fun t (ht : t < 2 * n) (h : ¬ EndF m t) => show goodB m = false from good_end (by omega) h)
  have HTW := Lib.hid (fun j T (h1 : 1 ≤ j) (h2 : j < n) (hT : T ≤ 2 * n) (h : 2 ≤ cntM m T j) => show goodB m = false from good_twice h1 (by omega) (by omega) h)
  have HEND := Lib.hid (fun (he : ∀ t, t < 2 * n → EndF m t) (hc : ∀ j, 1 ≤ j → j < n → cntM m (2 * n) j ≤ 1) => show goodB m = decide ((negM m (2 * n) : Int) = (n : Int) - 1) by
    have := good_by_count h1 h6 hs (by rw [hn]; exact he) (by rw [hn]; exact hc)
    rw [hn] at this; exact this)
  have HE := Lib.hid (fun t => show EndF m t ↔ (1 ≤ avM m t ∧ avM m t ≤ 12) ∧ ((1 ≤ hvM m t ∧ hvM m t ≤ 99) ∨ (hvM m t < 0 ∧ ((t / 2 : Nat) : Int) + 1 ≤ -hvM m t ∧ -hvM m t ≤ (n : Int) - 1)) by unfold EndF; rw [hn])
  obtain ⟨gb, hgb⟩ : ∃ r, goodB m = r := ⟨_, rfl⟩
  rw [hgb] at HNO HTW HEND ⊢
  obtain ⟨W, hW⟩ : ∃ W, w.alloc (.cells #[.slice (some ⟨g, off, none⟩) n c, .slice (some ⟨g', off', none⟩) n c'] 62) = W := ⟨_, rfl⟩
  have LW := Lib.hid (show Below w.heap.size w W by rw [← hW]; exact (Below.refl _ _).alloc (Nat.le_refl _) _)
  have BX := Lib.hid (show Box2 W w.heap.size (.slice (some ⟨g, off, none⟩) n c) (.slice (some ⟨g', off', none⟩) n c') by rw [← hW]; exact box2_new _ _ _ _)
  rw [hs, hn]
  rw [hn] at h1 h6
  clear hgb hb ha hh hca hch hs hn
  obtain ⟨bx, u0, u1⟩ := BX.out
  have h1' : ¬ (n : Int) < 1 := by omega
  have h6' : ¬ (6 : Int) < (n : Int) := by omega
  go_enter Try.func166, Try.ntmps166
  go_wp2
  clear hW
  have H0 := Lib.hid (hangs_start W n m)
  have L0 := Lib.hid (show Below W.heap.size W (W.alloc (.map #[] 0)) from (Below.refl _ _).alloc (Nat.le_refl _) _)
  clear u0 u1
  go_loopw [30] (fun i wr => ∃ (k : Nat) (D : DataW Unit), k ≤ n ∧ i = .int .i64 k ∧ Hid (∀ t, t < 2 * k → EndF m t) ∧ Hid (Hangs wr W.heap.size n m (2 * k) D) ∧ Hid (Below W.heap.size W wr)) (fun i _ => n - (intOf i).toNat)
  case atStart => exact ⟨0, _, Nat.zero_le _, rfl, Lib.hid (fun t h => by omega), H0, L0⟩
  case round =>
    obtain ⟨k, D, hk, rfl, HEN, HH, HW⟩ := hrel
    obtain ⟨wq, rfl⟩ : ∃ wq : World, wq = wr := ⟨_, rfl⟩
    clear H0 L0
    by_cases hlt : k < n
    · have hlt' : (k : Int) < (n : Int) := by omega
      have LX := LW.out.trans (HW.out.mono LW.out.size)
      have e0 := (EC.out k 0 hlt (by omega)).2
      have e1 := (EC.out k 1 hlt (by omega)).2
      rw [← LX.cell (p := ⟨g', off' + k * 2 + 0, none⟩) hg'] at e0
      rw [← LX.cell (p := ⟨g', off' + k * 2 + 1, none⟩) hg'] at e1
      simp only [Nat.add_zero] at e0
      obtain ⟨_, u0, u1⟩ := BX.out.lo HW.out
      go_wp2
      clear u0 u1
      obtain ⟨WB, hWB⟩ : ∃ X, wq.alloc (.cells #[.int .i64 (hvM m (2 * k)), .int .i64 (hvM m (2 * k + 1))] 134) = X := ⟨_, rfl⟩
      have HHB := Lib.hid (show Hangs WB W.heap.size n m (2 * k + 0) D by rw [← hWB]; exact HH.out.keep (World.grownBy_alloc wq _ none) (by simp))
      have HWB := Lib.hid (show Below W.heap.size W WB by rw [← hWB]; exact HW.out.alloc HW.out.size _)
      rw [hWB]
      clear hWB
      have HIX := Lib.hid (fun e (he : e < 2) w => index_two (hvM m (2 * k)) (hvM m (2 * k + 1)) (hvM m (2 * k + e)) e he (by
        rcases (show e = 0 ∨ e = 1 by omega) with rfl | rfl
        · rfl
        · rfl) w)
      generalize hvM m (2 * k) = z0 at *
      generalize hvM m (2 * k + 1) = z1 at *
      clear e0 e1
      go_loopw [36] (fun x wr => ∃ (e : Nat) (D : DataW Unit), e ≤ 2 ∧ x = .int .i64 e ∧ Hid (∀ t, t < 2 * k + e → EndF m t) ∧ Hid (Hangs wr W.heap.size n m (2 * k + e) D) ∧ Hid (Below W.heap.size W wr)) (fun x _ => 2 - (intOf x).toNat)
      case atStart => exact ⟨0, D, Nat.zero_le _, rfl, HEN, HHB, HWB⟩
      case round =>
        obtain ⟨e, D2, he, rfl, HEN2, HH2, HW2⟩ := hrel
        obtain ⟨wx, rfl⟩ : ∃ wx : World, wx = wr := ⟨_, rfl⟩
        clear HHB HWB HH HW HEN
        by_cases hel : e < 2
        · have hel' : (e : Int) < 2 := by omega
          have hkn : ((k : Nat) : Int) < (n : Int) := hlt'
          obtain ⟨_, u0, u1⟩ := BX.out.lo HW2.out
          have LX := LW.out.trans (HW2.out.mono LW.out.size)
          obtain ⟨e1, e2⟩ := EC.out k e hlt hel
          rw [← LX.cell (p := ⟨g, off + k * 2 + e, none⟩) hg] at e1
          have hix := HIX.out e hel wx
          obtain ⟨t, ht⟩ : ∃ t, 2 * k + e = t := ⟨_, rfl⟩
          rw [ht] at HEN2 HH2 e1 e2 hix
          have htn : t < 2 * n := by omega
          have htk : t / 2 = k := by omega
          have HT := Lib.hid ht
          have hbn := HB.out t htn
          have HNt := Lib.hid (HNO.out t htn)
          have HEt := Lib.hid (HE.out t)
          rw [htk] at HEt
          obtain ⟨x, hx⟩ : ∃ x, avM m t = x := ⟨_, rfl⟩
          obtain ⟨h, hh⟩ : ∃ h, hvM m t = h := ⟨_, rfl⟩
          rw [hx] at e1 HEt
          rw [hh] at hix hbn HEt
          have HHV := Lib.hid hh
          obtain ⟨hb0, hb1⟩ := hbn
          have LF := Lib.hid (LW.out.trans (HW2.out.mono LW.out.size))
          clear LX hx hh htk ht e2
          by_cases ha : 1 ≤ x ∧ x ≤ 12
          · have A := Lib.hid (fun w => isArm_is x true (by simp; omega) w)
            by_cases hp : 1 ≤ h ∧ h ≤ 99
            · have B := Lib.hid (fun w => isWeight_is h true (by simp; omega) w)
              have HENN := Lib.hid (show ∀ u, u < t + 1 → EndF m u from fun u hu => by
                by_cases e : u = t
                · rw [e]; exact HEt.out.2 ⟨ha, .inl hp⟩
                · exact HEN2.out u (by omega))
              have HHN := Lib.hid (HH2.out.same (by rw [HHV.out]; omega))
              go_wp2_with fail
              refine (A.out _).mono ?_
              rintro e' w'' ⟨rfl, rfl⟩
              go_wp2_with fail
              refine (B.out _).mono ?_
              rintro e' w'' ⟨rfl, rfl⟩
              go_wp2
              go_roundw
              case rel => exact ⟨e + 1, D2, by omega, by go_num, by rw [show 2 * k + (e + 1) = t + 1 by have := HT.out; omega]; exact HENN, by rw [show 2 * k + (e + 1) = t + 1 by have := HT.out; omega]; exact HHN, HW2⟩
              case measure => simp [intOf]; omega
            · have B := Lib.hid (fun w => isWeight_is h false (by simp; omega) w)
              by_cases hm : h < 0 ∧ (k : Int) + 1 ≤ -h ∧ -h ≤ (n : Int) - 1
              · obtain ⟨q, rfl⟩ : ∃ q : Nat, h = -(q : Int) := ⟨(-h).toNat, by omega⟩
                have HENN := Lib.hid (show ∀ u, u < t + 1 → EndF m u from fun u hu => by
                  by_cases e : u = t
                  · rw [e]; exact HEt.out.2 ⟨ha, .inr hm⟩
                  · exact HEN2.out u (by omega))
                have hq1 : 1 ≤ q := by omega
                have hqn : q < n := by omega
                have hql : ¬ (q : Int) ≤ (k : Int) := by omega
                have hqg : ¬ (n : Int) ≤ (q : Int) := by omega
                obtain ⟨vv, ps, hlook, hRv⟩ := HH2.out.own.lookup lawIntH Try.underlying175 (zeroBool wx) (plainElem_bool Try.underlying4 false) (keyOf_int_mk Try.underlying3 (a := (q : Int)) (WalkArith.wf_i64 (by omega)))
                obtain ⟨bb, rfl, hbb⟩ := boolElem_inv Try.underlying4 hRv
                rw [(HH2.out.at_ q hq1 hqn).1] at hbb
                have hbb : decide (cntM m t q = 1) = bb := by
                  simp only [Prod.mk.injEq] at hbb
                  have := hbb.1
                  cases this
                  rfl
                clear hRv
                by_cases hc : cntM m t q = 1
                · have hbt : bb = true := by rw [← hbb]; simpa using hc
                  subst hbt
                  have hgf := HTW.out q (t + 1) hq1 hqn (by omega) (by rw [cntM, if_pos HHV.out, hc]; omega)
                  subst hgf
                  clear hbb hm hp
                  go_wp2_with fail
                  refine (A.out _).mono ?_
                  rintro e' w'' ⟨rfl, rfl⟩
                  go_wp2_with fail
                  refine (B.out _).mono ?_
                  rintro e' w'' ⟨rfl, rfl⟩
                  go_wp2
                  go_ret
                  exact ⟨rfl, LF.out⟩
                · have hbt : bb = false := by rw [← hbb]; simpa using hc
                  subst hbt
                  have hc0 : cntM m t q = 0 := by have := HH2.out.one q hq1 hqn; omega
                  clear hbb hm hp
                  go_wp2_with fail
                  refine (A.out _).mono ?_
                  rintro e' w'' ⟨rfl, rfl⟩
                  go_wp2_with fail
                  refine (B.out _).mono ?_
                  rintro e' w'' ⟨rfl, rfl⟩
                  go_wp2_with (at_mapUpdate; refine wpList_mapUpdate_own _ rfl _ _ _ 175 rfl 3 4 lawIntH Try.underlying175 _ W.heap.size t _ rfl HH2.out.own (by unfold maxLen; omega) _ _ _ rfl rfl (keyOf_int_mk Try.underlying3 (a := (q : Int)) (WalkArith.wf_i64 (by omega))) _ [] (plainElem_bool Try.underlying4 true) ?_; intro w4 hown4 hgrow4)
                  have HHN := Lib.hid (HH2.out.more HHV.out hq1 hqn hc0 hown4)
                  have HWN := Lib.hid (show Below W.heap.size W w4 from HW2.out.grown hgrow4 HW2.out.size (fun j hj => by cases hj; exact Nat.le_refl _))
                  clear hown4 hgrow4 hlook
                  go_wp2
                  go_roundw
                  case rel => exact ⟨e + 1, _, by omega, by go_num, by rw [show 2 * k + (e + 1) = t + 1 by have := HT.out; omega]; exact HENN, by rw [show 2 * k + (e + 1) = t + 1 by have := HT.out; omega]; exact HHN, HWN⟩
                  case measure => simp [intOf]; omega
              · have hgf := HNt.out (fun f => by have := (HEt.out.1 f).2; omega)
                subst hgf
                by_cases hmin : h = -9223372036854775808
                · subst hmin
                  have hwm : RowKit.wrap64 (9223372036854775808 : Int) = -9223372036854775808 := by first | rfl | (simp [RowKit.wrap64]) | kernel_rfl
                  have hle : (-9223372036854775808 : Int) ≤ (k : Int) := by omega
                  go_wp2_with fail
                  refine (A.out _).mono ?_
                  rintro e' w'' ⟨rfl, rfl⟩
                  go_wp2_with fail
                  refine (B.out _).mono ?_
                  rintro e' w'' ⟨rfl, rfl⟩
                  go_wp2
                  go_ret
                  exact ⟨rfl, LF.out⟩
                · by_cases hlo : -h ≤ (k : Int)
                  · clear hm hp
                    go_wp2_with fail
                    refine (A.out _).mono ?_
                    rintro e' w'' ⟨rfl, rfl⟩
                    go_wp2_with fail
                    refine (B.out _).mono ?_
                    rintro e' w'' ⟨rfl, rfl⟩
                    go_wp2
                    go_ret
                    exact ⟨rfl, LF.out⟩
                  · have hge : (n : Int) ≤ -h := by omega
                    clear hm hp
                    go_wp2_with fail
                    refine (A.out _).mono ?_
                    rintro e' w'' ⟨rfl, rfl⟩
                    go_wp2_with fail
                    refine (B.out _).mono ?_
                    rintro e' w'' ⟨rfl, rfl⟩
                    go_wp2
                    go_ret
                    exact ⟨rfl, LF.out⟩
          · have A := Lib.hid (fun w => isArm_is x false (by simp; omega) w)
            have hgf := HNt.out (fun f => ha (HEt.out.1 f).1)
            subst hgf
            go_wp2_with fail
            refine (A.out _).mono ?_
            rintro e' w'' ⟨rfl, rfl⟩
            go_wp2
            go_ret
            exact ⟨rfl, LF.out⟩
        · obtain rfl : e = 2 := by omega
          go_wp2
          go_roundw
          case rel => exact ⟨k + 1, D2, by omega, by go_num, by rw [show 2 * (k + 1) = 2 * k + 2 by omega]; exact HEN2, by rw [show 2 * (k + 1) = 2 * k + 2 by omega]; exact HH2, HW2⟩
          case measure => simp [intOf]; omega
    · obtain rfl : k = n := by omega
      have hge : ¬ (k : Int) < (k : Int) := by omega
      have LF := Lib.hid (LW.out.trans (HW.out.mono LW.out.size))
      have hone := HH.out.one
      have hgt := HEND.out HEN.out hone
      have hsz := HH.out.size
      rw [← hsz] at hgt
      clear hsz hone
      go_wp2_with (at_len; refine wpList_len_own _ rfl _ _ rfl 3 4 Try.underlying175 _ _ _ _ rfl HH.out.own ?_)
      go_ret
      exact ⟨rfl, LF.out⟩
set_option maxRecDepth 100000 in
set_option maxHeartbeats 1600000 in
theorem isMobile_any (v : Value) (m : MobV) (w : World) (hv : MobRow w v m) (hs : SmallM m) (hb : BndM m) :
    Calls Try.prog 166 #[v] w fun e w' => e = .returned (.bool (goodB m)) ∧ Below w.heap.size w w' := by
  by_cases h : (1 ≤ m.am.length ∧ m.am.length ≤ 6) ∧ m.hu.length = m.am.length
  · exact isMobile_yes v m w hv hb h.1.1 h.1.2 h.2
  · rw [good_no h]
    obtain ⟨hs1, hs2⟩ := hs
    obtain ⟨a, b, c, d, rfl⟩ := hv.form
    generalize m.am.length = n at *
    generalize m.hu.length = k at *
    clear hv hb
    have LF := Lib.hid (show Below w.heap.size w (w.alloc (.cells #[.slice a n c, .slice b k d] 62)) from (Below.refl _ _).alloc (Nat.le_refl _) _)
    by_cases h0 : (n : Int) < 1
    · clear h
      go_enter Try.func166, Try.ntmps166
      go_wp2
      go_ret
      exact ⟨rfl, LF.out⟩
    · by_cases h6 : 6 < (n : Int)
      · clear h
        go_enter Try.func166, Try.ntmps166
        go_wp2
        go_ret
        exact ⟨rfl, LF.out⟩
      · have hne : ((k : Int) != (n : Int)) = true := by simp; omega
        have hne2 : ¬ (k : Int) = (n : Int) := by omega
        clear h
        go_enter Try.func166, Try.ntmps166
        go_wp2
        go_ret
        exact ⟨rfl, LF.out⟩
end Go.Proofs.Ythncgcdnljoakaa
