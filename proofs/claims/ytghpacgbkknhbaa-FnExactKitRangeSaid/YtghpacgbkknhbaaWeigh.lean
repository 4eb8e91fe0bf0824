/- The contract of the program's weighable: the sums in a map, collected and sorted. -/
import Derived.Test.YtghpacgbkknhbaaSumPlain
import Derived.Test.YtghpacgbkknhbaaKit2
import Derived.Test.YtghpacgbkknhbaaShelf
import Derived.Maps.OwnSet
import Derived.Maps.RangeWalk
import Derived.Maps.Ext
import Derived.Sort.OwnSortedInts
import Derived.Sort.OwnSorted
namespace Go.Proofs.Ytghpacgbkknhbaa
open Go.RowKit Go.Maps
theorem lawInt : Keyed Try.prog 3 := int_keyed Try.underlying3
/-- A map literal's entry is laid as any other. -/
theorem wpList_insert_own {H : Type} {P : Program} (w : World) {ops : Array Oper} {rest : List Oper} {o : Oper} {a : Act} {Q : Exit → Act → World → Prop}
    (hg : o.guard = none) (m x v : Operand) (t : TypeId) (hop : o.op = Op.insert t m x v)
    (k e : TypeId) (K : Keyed P k) (ht : P.underlying t = some (.map k e)) (R : Value → Option (DataW H × List MemPlace)) (b n : Nat) (D : DataW H)
    (hm : a.eval m = .map (some b)) (hown : w.ownsMap P k R b n D) (hn : n < maxLen) (key val : Value) (kl : Lit) (hx : a.eval x = key) (hv : a.eval v = val) (hkey : keyOf P k key = some kl)
    (d : DataW H) (ps : List MemPlace) (hval : R val = some (d, ps))
    (hK : ∀ w', w'.ownsMap P k R b (n + 1) (D.put kl d) → w.grownBy w' (some b) → wpList P ops Q rest (a.put o.dst undef) w') :
    wpList P ops Q (o :: rest) a w := by
  refine wpList_plain hg fun K' hK' => ?_
  obtain ⟨w', hrun, r1, r2⟩ := hown.update K ht hn hkey hval
  unfold Oper.wp
  simp [execOp, hop, hm, hx, hv, hrun, Result.andThen]
  exact hK' _ _ (hK w' r1 r2)
theorem plainElem_bool_inv {H : Type} {P : Program} {e : TypeId} (he : P.underlying e = some .bool) {v : Value} {z : DataW H × List MemPlace} (h : plainElem P e v = some z) : ∃ b, v = .bool b := by
  unfold plainElem at h
  rw [he] at h
  cases v <;> simp at h
  exact ⟨_, rfl⟩
/-- The map in block b holds just the sums that S tells. -/
def SumMap (w : World) (b n : Nat) (D : DataW Unit) (S : Int → Prop) : Prop := w.ownsMap Try.prog 3 (plainElem Try.prog 4) b n D ∧ ∀ z, has D (.int .i64 z) = true ↔ S z
/-- A range over such a map is under way. -/
def SumRange (w : World) (b r n : Nat) (D : DataW Unit) (left : Lit → Bool) (cnt : Nat) : Prop := w.ranges Try.prog 3 (plainElem Try.prog 4) b r n D left cnt ∧ r < w.heap.size ∧ ∀ z, left (.int .i64 z) = true → has D (.int .i64 z) = true
/-- What has been made of the sums that are done. -/
def Done (D : DataW Unit) (left : Lit → Bool) (lo x : Int) (D1 : DataW Unit) : Prop := ∀ z, has D1 (.int .i64 z) = true ↔ ∃ s g, (has D (.int .i64 s) = true ∧ left (.int .i64 s) = false) ∧ lo ≤ g ∧ g ≤ 1 ∧ z = s + g * x
theorem start_sums (lo : Int) (xs : List Int) : ∀ z, has ((DataW.map []).put (Lit.int .i64 0) (DataW.lit (Lit.bool true)) : DataW Unit) (.int .i64 z) = true ↔ ReachF lo xs 0 z := by
  intro z
  rw [has_put_int (D := .map []) (by first | exact ⟨_, rfl⟩ | exact trivial)]
  constructor
  · rintro (h | h)
    · exact h
    · cases h
  · intro h; exact .inl h
theorem done_start (D : DataW Unit) (lo x : Int) : Done D (has D) lo x (.map []) := by
  intro z
  constructor
  · intro h; cases h
  · rintro ⟨s, g, ⟨h1, h2⟩, _⟩
    rw [h1] at h2
    cases h2
theorem done_end {D D1 : DataW Unit} {left : Lit → Bool} {lo : Int} {xs : List Int} {k : Nat} (h : Done D left lo (xs.getD k 0) D1) (hl : ∀ kl, left kl = false) (hD : ∀ z, has D (.int .i64 z) = true ↔ ReachF lo xs k z) :
    ∀ z, has D1 (.int .i64 z) = true ↔ ReachF lo xs (k + 1) z := by
  intro z
  rw [h z]
  constructor
  · rintro ⟨s, g, ⟨h1, _⟩, h2⟩
    exact ⟨s, g, (hD s).1 h1, h2⟩
  · rintro ⟨s, g, h1, h2⟩
    exact ⟨s, g, ⟨(hD s).2 h1, hl _⟩, h2⟩
/-- The numbers collected so far. -/
def Got (D : DataW Unit) (left : Lit → Bool) (ys : List Int) : Prop := ys.Nodup ∧ ∀ z, z ∈ ys ↔ 1 ≤ z ∧ has D (.int .i64 z) = true ∧ left (.int .i64 z) = false
theorem got_start (D : DataW Unit) : Got D (has D) [] := by
  refine ⟨List.Pairwise.nil, fun z => ⟨fun h => (by cases h), ?_⟩⟩
  rintro ⟨_, h1, h2⟩
  rw [h1] at h2
  cases h2
theorem got_skip {D : DataW Unit} {left : Lit → Bool} {ys : List Int} {s0 : Int} (h : Got D left ys) (hs : s0 < 1) : Got D (fun z => left z && !z.sameKey (.int .i64 s0)) ys := by
  refine ⟨h.1, fun z => ?_⟩
  show _ ↔ 1 ≤ z ∧ has D (.int .i64 z) = true ∧ (left (.int .i64 z) && !(Lit.int .i64 z).sameKey (.int .i64 s0)) = false
  rw [h.2 z, int_same]
  constructor
  · rintro ⟨a, b, c⟩; exact ⟨a, b, by rw [c]; rfl⟩
  · rintro ⟨a, b, c⟩
    refine ⟨a, b, ?_⟩
    rw [decide_eq_false (show ¬ z = s0 by omega)] at c
    simpa using c
theorem got_more {D : DataW Unit} {left : Lit → Bool} {ys : List Int} {s0 : Int} (h : Got D left ys) (hs : 1 ≤ s0) (hd : has D (.int .i64 s0) = true) (hl : left (.int .i64 s0) = true) : Got D (fun z => left z && !z.sameKey (.int .i64 s0)) (ys ++ [s0]) := by
  have hno : s0 ∉ ys := fun hh => by have := ((h.2 s0).1 hh).2.2; rw [hl] at this; cases this
  refine ⟨List.nodup_append.2 ⟨h.1, by simp, fun a ha b hb => by simp at hb; subst hb; exact fun e => hno (e ▸ ha)⟩, fun z => ?_⟩
  show _ ↔ 1 ≤ z ∧ has D (.int .i64 z) = true ∧ (left (.int .i64 z) && !(Lit.int .i64 z).sameKey (.int .i64 s0)) = false
  rw [List.mem_append, h.2 z, int_same]
  constructor
  · rintro (⟨a, b, c⟩ | e)
    · exact ⟨a, b, by rw [c]; rfl⟩
    · simp at e; subst e; exact ⟨hs, hd, by simp⟩
  · rintro ⟨a, b, c⟩
    by_cases e : z = s0
    · subst e; exact .inr (by simp)
    · refine .inl ⟨a, b, ?_⟩
      rw [decide_eq_false e] at c
      simpa using c
theorem row_ne_map {H : Type} {P : Program} {k : TypeId} {R : Value → Option (DataW H × List MemPlace)} {w : World} {b n base : Nat} {D : DataW H} {e : TypeId} {size : Nat} {v : Value} {m : Nat} {xs : List Value}
    (h : w.ownsRow base e size v m xs) (hr : w.ownsMap P k R b n D) : some b ≠ v.ownBlock := by
  obtain ⟨es, clock, hb, _⟩ := hr
  rcases h.2 with ⟨rfl, _⟩ | ⟨g, cap, cur, rfl, _, hg, _⟩
  · simp [Value.ownBlock]
  · intro e1
    have : b = g := by simpa [Value.ownBlock] using e1
    subst this
    rw [hb] at hg
    cases hg
set_option maxRecDepth 100000 in
set_option maxHeartbeats 6400000 in
theorem weighable_one (v : Value) (xs : List Int) (w : World) (hr : IntRow w v xs) (K : KitF xs) :
    Calls Try.prog 106 #[v, .bool false] w fun e w' => ∃ u, e = .returned (.tuple #[u, .bool true]) ∧ MineI w' w.heap.size w'.heap.size u (toldF 0 xs) ∧ Below w.heap.size w w' := by
  have hmm := @run_makeMap Try.prog
  obtain ⟨i0, hi, hz0, hz1, hz2⟩ := info_parts infoInt
  have IK := Lib.hid (isKit_any v xs w hr (by have := K.short; omega))
  rw [show kitB xs = true from propB_yes K] at IK
  have HK := Lib.hid K
  have hk6 := K.short
  obtain ⟨a, c, rfl, hr⟩ := hr
  clear K
  go_enter Try.func106, Try.ntmps106
  go_wp2_with fail
  refine IK.out.mono ?_
  rintro e w1 ⟨rfl, l1⟩
  have L1 := Lib.hid l1
  clear l1 IK
  go_wp2_with (refine wpList_insert_own _ rfl _ _ _ 137 rfl 3 4 lawInt Try.underlying137 _ w1.heap.size 0 (.map []) rfl (World.ownsMap_made (H := Unit) _ _ _ _) (by decide) _ _ _ rfl rfl (keyOf_int_mk Try.underlying3 (by decide)) _ [] (plainElem_bool Try.underlying4 true) ?_; intro w2 hown2 hgrow2)
  have S2 := Lib.hid (show SumMap w2 w1.heap.size 1 _ (ReachF 0 xs 0) from ⟨hown2, start_sums 0 xs⟩)
  have L2 := Lib.hid ((L1.out.alloc L1.out.size _).grown hgrow2 (by have := L1.out.size; simp; omega) (fun j hj => by cases hj; exact L1.out.size))
  clear hown2 hgrow2
  go_loopw [7, 23] (fun m i wr => ∃ (k b n : Nat) (D : DataW Unit), k ≤ xs.length ∧ i = .int .i64 k ∧ m = .map (some b) ∧ w.heap.size ≤ b ∧ n ≤ 3 ^ k ∧ Hid (SumMap wr b n D (ReachF 0 xs k)) ∧ Hid (Below w.heap.size w wr)) (fun _ i _ => xs.length - (intOf i).toNat)
  case atStart => exact ⟨0, w1.heap.size, 1, _, Nat.zero_le _, rfl, rfl, L1.out.size, by decide, S2, L2⟩
  case round =>
    obtain ⟨k, b, n, D, hk, rfl, rfl, hbw, hn3, HS, HW⟩ := hrel
    obtain ⟨wq, rfl⟩ : ∃ wq : World, wq = wr := ⟨_, rfl⟩
    clear S2 L2
    have hpow : 3 ^ k ≤ 729 := Nat.le_trans (Nat.pow_le_pow_right (by decide) (show k ≤ 6 by omega)) (by decide)
    by_cases hlt : k < xs.length
    · rcases hr with h | ⟨g, off, rfl, hg, hc⟩
      · subst h; simp at hlt
      have h1 := hc k hlt
      rw [← HW.out.cell (p := ⟨g, off + k, none⟩) hg] at h1
      have hlt' : (k : Int) < (xs.length : Int) := by omega
      have hxx := HK.out.each k hlt
      have hown := HS.out.1
      have hbl := hown.lt
      have HSM := Lib.hid (fun z (h : has D (.int .i64 z) = true) => reach_small (show (0 : Int) = 0 ∨ (0 : Int) = -1 by omega) HK.out hk ((HS.out.2 z).1 h))
      have HDE := Lib.hid (fun (D1 : DataW Unit) (left : Lit → Bool) (h : Done D left 0 (xs.getD k 0) D1) (hl : ∀ kl, left kl = false) => done_end h hl HS.out.2)
      have HSZ := Lib.hid hown.size_le
      have e1 : (wq.alloc (.map #[] 0)).heap.size = wq.heap.size + 1 := by simp
      generalize xs.getD k 0 = x at h1 hxx HDE
      obtain ⟨x0, x1⟩ := hxx
      have hws := HW.out.size
      clear hc
      go_wp2_with (at_range; refine wpList_range_own _ rfl _ 137 rfl 3 4 lawInt Try.underlying137 _ b n D rfl (hown.alloc _) ?_; intro w3 hrg3 hg3 hs3)
      go_frame
      rw [e1] at hrg3 hs3 ⊢
      have HB3 := Lib.hid ((HW.out.alloc HW.out.size _).grown hg3 (by simp; omega) (fun j hj => by cases hj))
      have HM3 := Lib.hid ((World.ownsMap_made (H := Unit) wq Try.prog 3 (plainElem Try.prog 4)).kept hg3 (by simp))
      have HR3 := Lib.hid (show SumRange w3 b (wq.heap.size + 1) n D (has D) (Maps.size D) from ⟨hrg3, by omega, fun z h => h⟩)
      clear hown hrg3 hg3 hs3 e1
      go_loopw [11] (fun _ ws => ∃ (left : Lit → Bool) (cnt m : Nat) (D1 : DataW Unit), Hid (SumRange ws b (wq.heap.size + 1) n D left cnt) ∧ m + 3 * cnt ≤ 3 * n ∧ Hid (ws.ownsMap Try.prog 3 (plainElem Try.prog 4) wq.heap.size m D1) ∧ Hid (Done D left 0 x D1) ∧ Hid (Below w.heap.size w ws)) (fun _ ws => ws.rangeLeft b (wq.heap.size + 1))
      case atStart => exact ⟨_, _, 0, .map [], HR3, by have := HSZ.out; omega, HM3, Lib.hid (done_start D 0 x), HB3⟩
      case round =>
        obtain ⟨left, cnt, m, D1, HR, hmc, HM, HD, HB⟩ := hrel
        clear HR3 HM3 HB3
        obtain ⟨wo, rfl⟩ : ∃ wo : World, wo = wr := ⟨_, rfl⟩
        have hrg := HR.out.1
        have hrs := HR.out.2.1
        go_wp2_with (at_next; refine wpList_next_ranges _ rfl _ rfl 3 lawInt (plainElem Try.prog 4) (Value.int .i64) (fun c : Value => c) (fun key kl hkey => by obtain ⟨y, rfl, _⟩ := Maps.keyOf_int_inv Try.underlying3 hkey; exact ⟨y, rfl⟩) (fun v y hv => ⟨v, rfl⟩) b (wq.heap.size + 1) n D left cnt rfl hrg ?_ ?_)
        · intro hc0 hl0
          have HE := Lib.hid (HDE.out D1 left HD.out hl0)
          have HL0 := Lib.hid hl0
          clear hl0 hrg
          go_wp2
          go_roundw
          case rel => exact ⟨k + 1, wq.heap.size, m, D1, by omega, by go_num, rfl, by omega, by rw [Nat.pow_succ]; omega, Lib.hid ⟨HM.out, HE.out⟩, HB⟩
          case measure => simp [intOf]; omega
        · intro s0 cb kl ya yb w5 cnt5 hkey hlk hv hat hrg5 hlt5 hg5 hs5 hen
          obtain ⟨s', es, ekl, hws0⟩ := Maps.keyOf_int_inv Try.underlying3 hkey
          cases es
          subst ekl
          have hds := HR.out.2.2 s0 hlk
          have hsm := HSM.out s0 hds
          obtain ⟨sm0, sm1⟩ := hsm
          have HM5 := Lib.hid (HM.out.kept hg5 (fun e => by have := Option.some.inj e; omega))
          have HR5 := Lib.hid (show SumRange w5 b (wq.heap.size + 1) n D (fun z => left z && !z.sameKey (.int .i64 s0)) cnt5 from ⟨hrg5, by rw [hs5]; exact hrs, fun z h => by
            have h' : (left (.int .i64 z) && !(Lit.int .i64 z).sameKey (.int .i64 s0)) = true := h
            rw [Bool.and_eq_true] at h'
            exact HR.out.2.2 z h'.1⟩)
          have HB5 := Lib.hid (HB.out.grown hg5 HB.out.size (fun j hj => by cases hj; omega))
          have hLE := Lib.hid (show w5.rangeLeft b (wq.heap.size + 1) = cnt5 ∧ wo.rangeLeft b (wq.heap.size + 1) = cnt from ⟨hrg5.left_eq, hrg.left_eq⟩)
          have HDS := Lib.hid hds
          clear hkey hlk hv hat hrg5 hg5 hs5 hrg hds
          go_wp2
          go_loopw [12] (fun s wt => ∃ (g : Int) (mm : Nat) (D2 : DataW Unit), 0 ≤ g ∧ g ≤ 2 ∧ s = .int .i64 g ∧ Hid (SumRange wt b (wq.heap.size + 1) n D (fun z => left z && !z.sameKey (.int .i64 s0)) cnt5) ∧ (mm : Int) ≤ m + (g - 0) ∧ Hid (wt.ownsMap Try.prog 3 (plainElem Try.prog 4) wq.heap.size mm D2) ∧ Hid (∀ z, has D2 (.int .i64 z) = true ↔ has D1 (.int .i64 z) = true ∨ ∃ g', 0 ≤ g' ∧ g' < g ∧ z = s0 + g' * x) ∧ Hid (Below w.heap.size w wt)) (fun s _ => (2 - intOf s).toNat)
          case atStart => exact ⟨0, m, D1, by omega, by omega, rfl, HR5, by omega, HM5, Lib.hid (fun z => ⟨.inl, fun h => by rcases h with h | ⟨g', h1, h2, _⟩; exact h; omega⟩), HB5⟩
          case round =>
            obtain ⟨g', mm, D2, hg0, hg2, rfl, HRt, hmm2, HMt, HDt, HBt⟩ := hrel
            clear HR5 HM5 HB5
            obtain ⟨wv, rfl⟩ : ∃ wv : World, wv = wr := ⟨_, rfl⟩
            by_cases hgl : g' ≤ 1
            · have hgx : -99 ≤ g' * x ∧ g' * x ≤ 99 := by
                have : g' = -1 ∨ g' = 0 ∨ g' = 1 := by omega
                rcases this with e | e | e <;> rw [e] <;> omega
              obtain ⟨gx0, gx1⟩ := hgx
              have hmt := HMt.out
              have hwf : (Lit.int .i64 (s0 + g' * x)).wf = true := WalkArith.wf_i64 (by omega)
              have hmax : mm < maxLen := by unfold maxLen; omega
              go_wp2_with (at_mapUpdate; refine wpList_mapUpdate_own _ rfl _ _ _ 137 rfl 3 4 lawInt Try.underlying137 _ wq.heap.size mm D2 rfl hmt hmax _ _ _ rfl rfl (keyOf_int_mk Try.underlying3 hwf) _ [] (plainElem_bool Try.underlying4 true) ?_; intro w6 hown6 hgrow6)
              have HR6 := Lib.hid (show SumRange w6 b (wq.heap.size + 1) n D (fun z => left z && !z.sameKey (.int .i64 s0)) cnt5 from ⟨HRt.out.1.kept hgrow6 (fun e => by have := Option.some.inj e; omega) (fun e => by have := Option.some.inj e; omega), Nat.lt_of_lt_of_le HRt.out.2.1 hgrow6.size, HRt.out.2.2⟩)
              have HM6 := Lib.hid hown6
              have HB6 := Lib.hid (HBt.out.grown hgrow6 HBt.out.size (fun j hj => by cases hj; omega))
              have HD6 := Lib.hid (show ∀ z, has (D2.put (.int .i64 (s0 + g' * x)) (.lit (.bool true))) (.int .i64 z) = true ↔ has D1 (.int .i64 z) = true ∨ ∃ g1, 0 ≤ g1 ∧ g1 < g' + 1 ∧ z = s0 + g1 * x from fun z => by
                rw [has_put_int hmt.isMap, HDt.out z]
                constructor
                · rintro (e | h | ⟨g1, a1, a2, e⟩)
                  · exact .inr ⟨g', hg0, by omega, e⟩
                  · exact .inl h
                  · exact .inr ⟨g1, a1, by omega, e⟩
                · rintro (h | ⟨g1, a1, a2, e⟩)
                  · exact .inr (.inl h)
                  · by_cases eg : g1 = g'
                    · subst eg; exact .inl e
                    · exact .inr (.inr ⟨g1, a1, by omega, e⟩))
              clear hown6 hgrow6 hmt
              go_wp2
              go_roundw
              case rel => exact ⟨g' + 1, mm + 1, _, by omega, by omega, rfl, HR6, by omega, HM6, HD6, HB6⟩
              case measure => simp [intOf]; omega
            · obtain rfl : g' = 2 := by omega
              have HSS := Lib.hid (sums_step HD.out HDS.out HDt.out)
              go_wp2
              go_roundw
              case rel => exact ⟨_, cnt5, mm, D2, HRt, by omega, HMt, HSS, HBt⟩
              case measure =>
                rw [HRt.out.1.left_eq, hLE.out.2]; exact hlt5
    · obtain rfl : k = xs.length := by omega
      have hge : ¬ (xs.length : Int) < (xs.length : Int) := by omega
      have hown := HS.out.1
      have hbl := hown.lt
      have HSZ := Lib.hid hown.size_le
      have HKD := Lib.hid HS.out.2
      have hws := HW.out.size
      go_wp2_with (at_range; refine wpList_range_own _ rfl _ 137 rfl 3 4 lawInt Try.underlying137 _ b n D rfl hown ?_; intro w3 hrg3 hg3 hs3)
      try go_frame
      have HB3 := Lib.hid (HW.out.grown hg3 HW.out.size (fun j hj => by cases hj))
      have HR3 := Lib.hid (show SumRange w3 b wq.heap.size n D (has D) (Maps.size D) from ⟨hrg3, by omega, fun z h => h⟩)
      clear hown hrg3 hg3 hs3
      go_loopw [13] (fun v ws => ∃ (left : Lit → Bool) (cnt : Nat) (ys : List Int), Hid (SumRange ws b wq.heap.size n D left cnt) ∧ ys.length + cnt ≤ n ∧ Hid (OwnI ws w.heap.size v ys) ∧ Hid (Got D left ys) ∧ Hid (Below w.heap.size w ws)) (fun _ ws => ws.rangeLeft b wq.heap.size)
      case atStart => exact ⟨_, _, [], HR3, by have := HSZ.out; simpa using this, Lib.hid (ownI_nil _ _), Lib.hid (got_start D), HB3⟩
      case round =>
        obtain ⟨left, cnt, ys, HR, hyc, HO, HG, HB⟩ := hrel
        clear HR3 HB3
        obtain ⟨wo, rfl⟩ : ∃ wo : World, wo = wr := ⟨_, rfl⟩
        have hrg := HR.out.1
        have hrs := HR.out.2.1
        go_wp2_with (at_next; refine wpList_next_ranges _ rfl _ rfl 3 lawInt (plainElem Try.prog 4) (Value.int .i64) (fun c : Value => c) (fun key kl hkey => by obtain ⟨y, rfl, _⟩ := Maps.keyOf_int_inv Try.underlying3 hkey; exact ⟨y, rfl⟩) (fun v y hv => ⟨v, rfl⟩) b wq.heap.size n D left cnt rfl hrg ?_ ?_)
        · intro hc0 hl0
          have HE := Lib.hid (show ∀ z, z ∈ ys ↔ z ∈ toldF 0 xs from fun z => by
            rw [told_mem (show (0 : Int) = 0 ∨ (0 : Int) = -1 by omega) HK.out, HG.out.2 z, HKD.out z]
            exact ⟨fun h => ⟨h.1, h.2.1⟩, fun h => ⟨h.1, h.2, hl0 _⟩⟩)
          have HSo := Lib.hid (sorted_is ys (toldF 0 xs) HG.out.1 (told_rise 0 xs) HE.out)
          have hne : ys ≠ [] := fun e => by
            have hf := reach_first (xs := xs) (show (0 : Int) = 0 ∨ (0 : Int) = -1 by omega) (xs.length - 1)
            rw [show xs.length - 1 + 1 = xs.length by have := HK.out.one; omega] at hf
            have := (HE.out (xs.getD 0 0)).2 ((told_mem (show (0 : Int) = 0 ∨ (0 : Int) = -1 by omega) HK.out _).2 ⟨(HK.out.each 0 HK.out.one).1, hf⟩)
            rw [e] at this
            cases this
          have hown := HO.out
          unfold OwnI at hown
          rcases hown.2 with ⟨_, h0⟩ | ⟨g, cap, cur, rfl, hbase, hgb, hnc, hcm, hcs, htk⟩
          · exact absurd (List.length_eq_zero_iff.1 h0) hne
          have htk' : cur.toList.take ys.length = ys.map (Value.int .i64) := by rw [Nat.mul_one] at htk; exact htk
          have hgl := (Array.getElem?_eq_some_iff.1 hgb).1
          have SRT := Lib.hid (Try.slices_Sort_int g 0 cap ys wo (holds_of_blockI hgb htk') hgl (by omega))
          rw [HSo.out] at SRT
          have HLN := Lib.hid (show (toldF 0 xs).length = ys.length by rw [← HSo.out, List.length_mergeSort])
          have HFIN := Lib.hid (show ∀ (nn : Nat) (os : Array Obj), (Go.Sort.grow (Go.Sort.putRow (Value.int .i64) (Go.Sort.ahead wo nn) g 0 (toldF 0 xs).toArray) os).ownsRow w.heap.size 3 1 (.slice (some ⟨g, 0, none⟩) ys.length cap) ys.length ((toldF 0 xs).map (Value.int .i64)) ∧ wo.grownBy (Go.Sort.grow (Go.Sort.putRow (Value.int .i64) (Go.Sort.ahead wo nn) g 0 (toldF 0 xs).toArray) os) (some g) from fun nn os => ⟨ownsRow_sortedI (n := nn) (os := os) (ss := ys) (ts := toldF 0 xs) HLN.out hbase hgb hnc hcm hcs, grownBy_sortedI (n := nn) (os := os) (toldF 0 xs).toArray⟩)
          clear hrg hl0 hne hown hgb htk htk' hcs hcm
          go_wp2_with fail
          refine SRT.out.mono ?_
          rintro e w7 ⟨rfl, nn, os, rfl⟩
          obtain ⟨f1, f2⟩ := HFIN.out nn os
          have HOF := Lib.hid (show OwnI _ w.heap.size (.slice (some ⟨g, 0, none⟩) ys.length cap) (toldF 0 xs) by
            unfold OwnI
            rw [HLN.out]
            exact f1)
          have HBF := Lib.hid (HB.out.grown f2 HB.out.size (fun j hj => by cases hj; exact hbase))
          clear f1 f2 HFIN
          generalize Go.Sort.grow (Go.Sort.putRow (Value.int .i64) (Go.Sort.ahead wo nn) g 0 (toldF 0 xs).toArray) os = w8 at *
          go_wp2
          go_ret2
          exact ⟨_, rfl, HOF.out.mine, HBF.out⟩
        · intro s0 cb kl ya yb w5 cnt5 hkey hlk hv hat hrg5 hlt5 hg5 hs5 hen
          obtain ⟨s', es, ekl, hws0⟩ := Maps.keyOf_int_inv Try.underlying3 hkey
          cases es
          subst ekl
          have hds := HR.out.2.2 s0 hlk
          have HR5 := Lib.hid (show SumRange w5 b wq.heap.size n D (fun z => left z && !z.sameKey (.int .i64 s0)) cnt5 from ⟨hrg5, by rw [hs5]; exact hrs, fun z h => by
            have h' : (left (.int .i64 z) && !(Lit.int .i64 z).sameKey (.int .i64 s0)) = true := h
            rw [Bool.and_eq_true] at h'
            exact HR.out.2.2 z h'.1⟩)
          have hown := HO.out
          unfold OwnI at hown
          have hown5 := hown.kept hg5 (.inr (fun e => row_ne_iter hown hrg e.symm))
          have HB5 := Lib.hid (HB.out.grown hg5 HB.out.size (fun j hj => by cases hj; exact HW.out.size))
          have hLE := Lib.hid (show w5.rangeLeft b wq.heap.size = cnt5 ∧ wo.rangeLeft b wq.heap.size = cnt from ⟨hrg5.left_eq, hrg.left_eq⟩)
          by_cases hs1 : s0 < 1
          · have HG5 := Lib.hid (got_skip HG.out hs1)
            have hs1' : ¬ 1 ≤ s0 := by omega
            have HO5 := Lib.hid (show OwnI w5 w.heap.size u13 ys from hown5)
            clear hkey hlk hv hat hrg5 hg5 hs5 hrg hds hown hown5
            go_wp2
            go_roundw
            case rel => exact ⟨_, cnt5, ys, HR5, by omega, HO5, HG5, HB5⟩
            case measure => rw [hLE.out.1, hLE.out.2]; exact hlt5
          · have HG5 := Lib.hid (got_more HG.out (by omega) hds hlk)
            have hs1' : 1 ≤ s0 := by omega
            have hw5 := HB5.out.size
            have hnb : some b ≠ u13.ownBlock := row_ne_map hown5 HR5.out.1.owns
            have hnr : some wq.heap.size ≠ u13.ownBlock := row_ne_iter hown5 HR5.out.1
            clear hkey hlk hv hat hrg5 hg5 hs5 hrg hds hown
            go_wp2_with (at_builtin; refine wpList_append_own _ rfl _ _ 24 rfl w.heap.size 3 i0 (.int .i64 0) 1 8 Try.underlying24 hi hz0 hz1 hz2 rfl (by decide) _ _ _ rfl (hown5.alloc _) ⟨w5.heap.size, 0, none⟩ 1 1 [.int .i64 s0] rfl rfl (cell_one_new _ _ _) (fun x hx => by simp at hx; subst hx; rfl) (by unfold maxLen; omega) (by omega) (by simp; omega) ?_; intro v' w6 hown' hgrow6 hnil6)
            have HO6 := Lib.hid (show OwnI w6 w.heap.size v' (ys ++ [s0]) from ownI_snoc hown' rfl)
            have HB6 := Lib.hid ((HB5.out.alloc HB5.out.size _).grown hgrow6 (by simp; omega) (fun j hj => (hown5.lt j hj).1))
            have HR6 := Lib.hid (show SumRange w6 b wq.heap.size n D (fun z => left z && !z.sameKey (.int .i64 s0)) cnt5 from ⟨(HR5.out.1.alloc _).kept hgrow6 hnb hnr, Nat.lt_of_lt_of_le HR5.out.2.1 (by have := hgrow6.size; simp at this; omega), HR5.out.2.2⟩)
            clear hown' hgrow6 hnil6 hown5 hnb hnr
            go_wp2
            go_roundw
            case rel => exact ⟨_, cnt5, ys ++ [s0], HR6, by simp; omega, HO6, HG5, HB6⟩
            case measure => rw [HR6.out.1.left_eq, hLE.out.2]; exact hlt5
end Go.Proofs.Ytghpacgbkknhbaa
