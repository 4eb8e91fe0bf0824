/- Mobs, KitPlain, MobPlain, HangP, as one text. -/
import Derived.Test.YthncgcdnljoakaaG3
import Derived.Test.YthncgcdnljoakaaG6
import Derived.Lib.SmallJoins
import Derived.ChangeSlices
import Derived.ChangeSame
import Derived.OpenShut
import Derived.Test.YthncgcdnljoakaaProg
import Derived.Below
import Derived.Lib.Hide
namespace Go.Proofs.Ythncgcdnljoakaa
open Go.RowKit Go.ChangeShapes Go.WideShapes Go.Joins
structure MobV where
  am : List (Int × Int)
  hu : List (Int × Int)
def SmallM (m : MobV) : Prop := m.am.length ≤ 1100000 ∧ m.hu.length ≤ 1100000
def BndL (xs : List (Int × Int)) : Prop := ∀ j, j < xs.length → (-9223372036854775808 ≤ (xs.getD j (0, 0)).1 ∧ (xs.getD j (0, 0)).1 ≤ 9223372036854775807) ∧ -9223372036854775808 ≤ (xs.getD j (0, 0)).2 ∧ (xs.getD j (0, 0)).2 ≤ 9223372036854775807
def BndM (m : MobV) : Prop := BndL m.am ∧ BndL m.hu
def nilM : MobV := ⟨[], []⟩
theorem smallM_nil : SmallM nilM := ⟨by simp [nilM], by simp [nilM]⟩
theorem loadRow_nil (w : World) (a : Option Addr) (c : Nat) : LoadRow w (.slice a 0 c) [] := ⟨a, c, rfl, .inl rfl⟩
/-- The struct value v reads as the mobile m. -/
def MobRow (w : World) (v : Value) (m : MobV) : Prop := ∃ a b, v = .agg #[a, b] ∧ LoadRow w a m.am ∧ LoadRow w b m.hu
theorem MobRow.lo {w w' : World} {v : Value} {m : MobV} (h : MobRow w v m) (l : Below w.heap.size w w') : MobRow w' v m := by
  obtain ⟨a, b, e, h1, h2⟩ := h
  exact ⟨a, b, e, h1.lo l, h2.lo l⟩
theorem MobRow.form {w : World} {v : Value} {m : MobV} (h : MobRow w v m) : ∃ a b c d, v = .agg #[.slice a m.am.length c, .slice b m.hu.length d] := by
  obtain ⟨a, b, e, ⟨a1, c1, rfl, _⟩, ⟨a2, c2, rfl, _⟩⟩ := h
  exact ⟨a1, a2, c1, c2, e⟩
theorem mobRow_nil (w : World) : MobRow w (.agg #[.slice none 0 0, .slice none 0 0]) nilM := ⟨_, _, rfl, loadRow_nil _ _ _, loadRow_nil _ _ _⟩
/-- A mobile whose two slices lie in blocks of B .. E - 1, each in its own. -/
def MineMb (w : World) (B E : Nat) (v : Value) (m : MobV) : Prop := ∃ a b B1 E1 B2 E2, v = .agg #[a, b] ∧ (B ≤ B1 ∧ E1 ≤ E ∧ B ≤ B2 ∧ E2 ≤ E ∧ (E1 ≤ B2 ∨ E2 ≤ B1)) ∧ MineL w B1 E1 a m.am ∧ MineL w B2 E2 b m.hu
theorem MineMb.row {w : World} {B E : Nat} {v : Value} {m : MobV} (h : MineMb w B E v m) : MobRow w v m := by
  obtain ⟨a, b, _, _, _, _, e, _, h1, h2⟩ := h
  exact ⟨a, b, e, h1.row, h2.row⟩
theorem MineMb.part {w w' : World} {B E B' E' : Nat} {v : Value} {m : MobV} (h : MineMb w B E v m) (q : Part B' E' w w') (ho : E ≤ B' ∨ E' ≤ B) : MineMb w' B E v m := by
  obtain ⟨a, b, B1, E1, B2, E2, e, k, h1, h2⟩ := h
  exact ⟨a, b, B1, E1, B2, E2, e, k, h1.part q (by omega), h2.part q (by omega)⟩
theorem MineMb.lo {w w' : World} {B E : Nat} {v : Value} {m : MobV} (h : MineMb w B E v m) (l : Below w.heap.size w w') : MineMb w' B E v m :=
  h.part (Part.of_lo (B := E) (E := E) l) (.inl (Nat.le_refl _))
theorem minePl_nilM (w : World) (B E : Nat) (h : B ≤ E) : MineMb w B E (.agg #[.slice none 0 0, .slice none 0 0]) nilM := ⟨_, _, B, B, B, B, rfl, ⟨Nat.le_refl _, h, Nat.le_refl _, h, .inl (Nat.le_refl _)⟩, mineL_nil _ _ _ _ _, mineL_nil _ _ _ _ _⟩
theorem MineMb.mono {w : World} {B E B' E' : Nat} {v : Value} {m : MobV} (h : MineMb w B E v m) (h1 : B' ≤ B) (h2 : E ≤ E') : MineMb w B' E' v m := by
  obtain ⟨a, b, B1, E1, B2, E2, e, ⟨m1, m2, m3, m4, m5⟩, k1, k2⟩ := h
  exact ⟨a, b, B1, E1, B2, E2, e, ⟨by omega, by omega, by omega, by omega, m5⟩, k1, k2⟩
/-- The marks stand in both slices. -/
def HeldMb (w : World) (B E : Nat) (v : Value) (p : MobV) (m : Nat) : Prop := ∃ a b B1 E1 B2 E2, v = .agg #[a, b] ∧ (B ≤ B1 ∧ E1 ≤ E ∧ B ≤ B2 ∧ E2 ≤ E ∧ (E1 ≤ B2 ∨ E2 ≤ B1)) ∧ HeldL w B1 E1 a p.am m ∧ HeldL w B2 E2 b p.hu (m + p.am.length * 2)
theorem HeldMb.part {w w' : World} {B E B' E' m : Nat} {v : Value} {p : MobV} (h : HeldMb w B E v p m) (q : Part B' E' w w') (ho : E ≤ B' ∨ E' ≤ B) : HeldMb w' B E v p m := by
  obtain ⟨a, b, B1, E1, B2, E2, e, k, h1, h2⟩ := h
  exact ⟨a, b, B1, E1, B2, E2, e, k, h1.part q (by omega), h2.part q (by omega)⟩
theorem HeldMb.lo {w w' : World} {B E m : Nat} {v : Value} {p : MobV} (h : HeldMb w B E v p m) (l : Below w.heap.size w w') : HeldMb w' B E v p m :=
  h.part (Part.of_lo (B := E) (E := E) l) (.inl (Nat.le_refl _))
section
variable {H : Type} {enc : TypeId × Value → H} {P : Program} {w : World} {base : Nat} {held : Bool}
theorem trod_array2 {spare : Nat → Bool} {t e : TypeId} {fuel : Nat} {c0 c1 : Value} {x : DataW H × List MemPlace} (ht : P.underlying t = some (.array 2 e)) (hce : P.cellsOf e = 1)
    (h : DataW.trod enc P w base spare held fuel t [c0, c1] = some x) :
    ∃ y0 y1 n, DataW.trod enc P w base spare held n e [c0] = some y0 ∧ DataW.trod enc P w base spare held n e [c1] = some y1 :=
  match fuel with
  | 0 => by simp [DataW.trod] at h
  | n + 1 => by
    unfold DataW.trod at h
    rw [ht] at h
    have r2 : List.range 2 = [0, 1] := rfl
    simp [r2, hce] at h
    obtain ⟨_, h⟩ := h
    cases h0 : DataW.trod enc P w base spare held n e [c0] with
    | none => simp [h0] at h
    | some y0 =>
      cases h1 : DataW.trod enc P w base spare held n e [c1] with
      | none => simp [h0, h1] at h
      | some y1 => exact ⟨y0, y1, n, h0, h1⟩
/-- What the walk is told of a mobile that came in. -/
def MobIn (w : World) (v : Value) (m : MobV) : Prop := ∃ a b c d, v = .agg #[.slice a m.am.length c, .slice b m.hu.length d] ∧ m.am.length ≤ maxLen ∧ m.hu.length ≤ maxLen ∧ BndM m ∧ LoadRow w (.slice a m.am.length c) m.am ∧ LoadRow w (.slice b m.hu.length d) m.hu
theorem field_pairs {t e i : TypeId} {v : Value} {n : Nat} {x : DataW H × List MemPlace} (ht : P.underlying t = some (.slice e)) (he : P.underlying e = some (.array 2 i)) (hi : P.underlying i = some (.int .i64)) (c1 : P.cellsOf i = 1) (c2 : P.cellsOf e = 2)
    (h : DataW.trod enc P w base (fun _ => true) held n t [v] = some x) : ∃ a xs c, v = .slice a xs.length c ∧ xs.length ≤ maxLen ∧ BndL xs ∧ LoadRow w (.slice a xs.length c) xs := by
  rcases DataW.trod_slice ht h with ⟨hcs, _⟩ | ⟨y, l, c, elems, rest, m, _, hcs, _, _, hl, hm, hlen, hel, _, _⟩
  · simp at hcs
    subst hcs
    exact ⟨none, [], 0, rfl, Nat.zero_le _, fun j h => by simp at h, loadRow_nil _ _ _⟩
  · simp at hcs
    subst hcs
    have each : ∀ j, ∃ p : Int × Int, j < l → PairAt w .i64 y j p := by
      intro j
      by_cases hj : j < l
      · have hy := hel j hj
        rw [List.getElem?_eq_getElem (by omega), c2, Option.bind_eq_some_iff] at hy
        obtain ⟨cs, hcs, hy⟩ := hy
        obtain ⟨_, hcl, hcc⟩ := World.cells?_some hcs
        match cs, hcl with
        | [u, v], _ =>
          obtain ⟨y0, y1, m, g0, g1⟩ := trod_array2 he c1 hy
          obtain ⟨p, hp, _, wp⟩ := DataW.trod_int hi g0
          obtain ⟨q, hq, _, wq⟩ := DataW.trod_int hi g1
          simp at hp hq
          subst hp hq
          have e0 := hcc 0 (by omega)
          have e1 := hcc 1 (by omega)
          rw [add_add'] at e0 e1
          exact ⟨(p, q), fun _ => ⟨by simpa using e0, by simpa using e1, wp, wq⟩⟩
      · exact ⟨(0, 0), fun h => absurd h hj⟩
    obtain ⟨f, hf⟩ := Classical.axiomOfChoice each
    have hp : IsPairs .i64 w (some y) l c ((List.range l).map f) := by
      refine ⟨by simp, hl, hm, .inr ⟨y, rfl, fun j hj => ?_⟩⟩
      have : ((List.range l).map f).getD j (0, 0) = f j := by simp [List.getD, hj]
      rw [this]
      exact hf j hj
    obtain ⟨k1, k2, k3⟩ := pairs_row hp
    exact ⟨some y, (List.range l).map f, c, by rw [k1], by rw [k1]; exact k2, fun j hj => by
      have hj' : j < l := by rw [k1] at hj; exact hj
      have hg : ((List.range l).map f).getD j (0, 0) = f j := by simp [List.getD, hj']
      rw [hg]
      exact ⟨bounds_i64 (hf j hj').wf1, bounds_i64 (hf j hj').wf2⟩, k3⟩
theorem open_mobile {r : Reach} {b0 : Nat} {t e1 e2 i : TypeId} {f0 f1 : Field} {v : Value} {d : DataW H} {q : List MemPlace} (hs : P.underlying t = some (.struct #[f0, f1])) (hone : Deep.oneCellFields P #[f0, f1] = true) (hC : P.cellsOf t = 2)
    (u0 : P.underlying f0.type = some (.slice e1)) (u1 : P.underlying f1.type = some (.slice e2)) (i1 : P.underlying e1 = some (.array 2 i)) (i2 : P.underlying e2 = some (.array 2 i)) (ii : P.underlying i = some (.int .i64)) (c0 : P.cellsOf i = 1) (c1 : P.cellsOf e1 = 2) (c2 : P.cellsOf e2 = 2)
    (hv : Value.okWide P w r b0 t v) (h : DataW.Trod enc P w base (fun _ => true) held t v d q) : ∃ m, MobIn w v m := by
  obtain ⟨v0, v1, y0, y1, n, rfl, rfl, rfl, g0, g1⟩ := open_agg2 hs hone hC hv h
  obtain ⟨a, xs, c, rfl, l1, b1, l2⟩ := field_pairs u0 i1 ii c0 c1 g0
  obtain ⟨b, ys, dd, rfl, m1, b2, m2⟩ := field_pairs u1 i2 ii c0 c2 g1
  exact ⟨⟨xs, ys⟩, a, b, c, dd, rfl, l1, m1, ⟨b1, b2⟩, l2, m2⟩
end
end Go.Proofs.Ythncgcdnljoakaa
namespace Go.Proofs.Ythncgcdnljoakaa
structure KitF (xs : List Int) : Prop where
  one : 1 ≤ xs.length
  short : xs.length ≤ 6
  each : ∀ j, j < xs.length → 1 ≤ xs.getD j 0 ∧ xs.getD j 0 ≤ 99
  rise : ∀ j, j + 1 < xs.length → xs.getD j 0 ≤ xs.getD (j + 1) 0
noncomputable def propB (p : Prop) : Bool := @decide p (Classical.propDecidable p)
theorem propB_yes {p : Prop} (h : p) : propB p = true := by unfold propB; simp [h]
theorem propB_no {p : Prop} (h : ¬ p) : propB p = false := by unfold propB; simp [h]
theorem propB_iff (p : Prop) : propB p = true ↔ p := by unfold propB; simp
noncomputable def kitB (xs : List Int) : Bool := propB (KitF xs)
def SortF (xs : List Int) : Prop := ∀ j, j + 1 < xs.length → xs.getD j 0 ≤ xs.getD (j + 1) 0
noncomputable def sortB (xs : List Int) : Bool := propB (SortF xs)
theorem sort_le {xs : List Int} (h : SortF xs) : ∀ (n i : Nat), i + n < xs.length → xs.getD i 0 ≤ xs.getD (i + n) 0 := by
  intro n
  induction n with
  | zero => intro i _; exact Int.le_refl _
  | succ n ih =>
    intro i hi
    have h1 := ih i (by omega)
    have h2 := h (i + n) (by omega)
    rw [show i + (n + 1) = i + n + 1 by omega]
    omega
theorem kit_of_ends {xs : List Int} (h1 : 1 ≤ xs.length) (h2 : xs.length ≤ 6) (hs : SortF xs) (a : 1 ≤ xs.getD 0 0) (b : xs.getD (xs.length - 1) 0 ≤ 99) : KitF xs :=
  ⟨h1, h2, fun j hj => by
    have x := sort_le hs j 0 (by omega)
    have y := sort_le hs (xs.length - 1 - j) j (by omega)
    rw [Nat.zero_add] at x
    rw [show j + (xs.length - 1 - j) = xs.length - 1 by omega] at y
    omega, hs⟩
/-- The least k for which 3 to the power of k is at least n, as far as 81. -/
def needF (n : Int) : Nat := if n ≤ 1 then 0 else if n ≤ 3 then 1 else if n ≤ 9 then 2 else if n ≤ 27 then 3 else 4
def coinsB (n : Int) : Bool := decide (2 ≤ n) && decide (n ≤ 40)
/-- b to the power of n. -/
def powF (b : Int) : Nat → Int
  | 0 => 1
  | n + 1 => powF b n * b
def powsF (b : Int) (k : Nat) : List Int := (List.range k).map (powF b)
theorem powsF_len (b : Int) (k : Nat) : (powsF b k).length = k := by simp [powsF]
theorem powsF_snoc (b : Int) (k : Nat) : powsF b (k + 1) = powsF b k ++ [powF b k] := by simp [powsF, List.range_succ]
theorem powsF_at (b : Int) (k j : Nat) (h : j < k) : (powsF b k).getD j 0 = powF b j := by simp [powsF, List.getD, List.getElem?_map, List.getElem?_range h]
theorem powF_pos (b : Int) (hb : 1 ≤ b) : ∀ n, 1 ≤ powF b n := by
  intro n
  induction n with
  | zero => exact Int.le_refl _
  | succ n ih =>
    rw [powF]
    have := Int.mul_le_mul ih hb (by omega) (by omega)
    omega
theorem pow3 : powF 3 0 = 1 ∧ powF 3 1 = 3 ∧ powF 3 2 = 9 ∧ powF 3 3 = 27 ∧ powF 3 4 = 81 ∧ powF 3 5 = 243 ∧ powF 3 6 = 729 := by decide
/-- Powers of 2 or 3 up to the seventh are small. -/
theorem pow_small (b : Int) (hb : b = 2 ∨ b = 3) (n : Nat) (hn : n ≤ 7) : 1 ≤ powF b n ∧ powF b n ≤ 3000 := by
  have hc : n = 0 ∨ n = 1 ∨ n = 2 ∨ n = 3 ∨ n = 4 ∨ n = 5 ∨ n = 6 ∨ n = 7 := by omega
  rcases hb with rfl | rfl <;> rcases hc with rfl | rfl | rfl | rfl | rfl | rfl | rfl | rfl <;> decide
theorem need_below (n : Int) (k : Nat) (h : k < needF n) : powF 3 k < n := by
  obtain ⟨p0, p1, p2, p3, p4, _⟩ := pow3
  unfold needF at h
  have hc : k = 0 ∨ k = 1 ∨ k = 2 ∨ k = 3 := by split at h <;> (try split at h) <;> (try split at h) <;> (try split at h) <;> omega
  rcases hc with rfl | rfl | rfl | rfl <;> (split at h <;> (try split at h) <;> (try split at h) <;> (try split at h) <;> omega)
theorem need_at (n : Int) (h : n ≤ 40) : n ≤ powF 3 (needF n) := by
  obtain ⟨p0, p1, p2, p3, p4, _⟩ := pow3
  unfold needF
  split
  · omega
  · split
    · omega
    · split
      · omega
      · split <;> omega
theorem need_four (n : Int) : needF n ≤ 4 := by unfold needF; split <;> (try split) <;> (try split) <;> (try split) <;> omega
/-- Only the numbers -1, 0 and 1. -/
def SignsF (xs : List Int) : Prop := ∀ j, j < xs.length → -1 ≤ xs.getD j 0 ∧ xs.getD j 0 ≤ 1
noncomputable def signsB (xs : List Int) : Bool := propB (SignsF xs)
/-- The weights that are used, with their places. -/
def usedF : List Int → List Int → List (Int × Int)
  | k :: ks, s :: ss => (if s = 0 then [] else [(30 + s, k)]) ++ usedF ks ss
  | _, _ => []
theorem usedF_snoc (ks ss : List Int) (h : ks.length = ss.length) (k s : Int) : usedF (ks ++ [k]) (ss ++ [s]) = usedF ks ss ++ (if s = 0 then [] else [(30 + s, k)]) := by
  induction ks generalizing ss with
  | nil =>
    have : ss = [] := List.length_eq_zero_iff.1 h.symm
    subst this
    simp [usedF]
  | cons x l ih =>
    cases ss with
    | nil => simp at h
    | cons y m => simp only [List.cons_append, usedF, ih m (by simpa using h), List.append_assoc]
theorem usedF_len (ks ss : List Int) : (usedF ks ss).length ≤ ks.length := by
  induction ks generalizing ss with
  | nil => simp [usedF]
  | cons x l ih =>
    cases ss with
    | nil => simp [usedF]
    | cons y m =>
      have := ih m
      simp only [usedF, List.length_append, List.length_cons]
      split <;> simp <;> omega
def panF (ks ss : List Int) (n : Int) : List (Int × Int) := (29, n) :: usedF ks ss
theorem take_snocI (xs : List Int) (k : Nat) (h : k < xs.length) : xs.take (k + 1) = xs.take k ++ [xs.getD k 0] := by
  rw [List.take_add_one, List.getElem?_eq_getElem h, List.getD, List.getElem?_eq_getElem h]; rfl
theorem usedF_take (ks ss : List Int) (k : Nat) (h1 : k < ks.length) (h2 : k < ss.length) : usedF (ks.take (k + 1)) (ss.take (k + 1)) = usedF (ks.take k) (ss.take k) ++ (if ss.getD k 0 = 0 then [] else [(30 + ss.getD k 0, ks.getD k 0)]) := by
  rw [take_snocI ks k h1, take_snocI ss k h2]
  exact usedF_snoc _ _ (by rw [List.length_take, List.length_take]; omega) _ _
/-- The sum of numbers. -/
def sumF : List Int → Int
  | [] => 0
  | x :: l => x + sumF l
theorem sumF_snoc (xs : List Int) (x : Int) : sumF (xs ++ [x]) = sumF xs + x := by
  induction xs with
  | nil => simp [sumF]
  | cons y l ih => simp only [List.cons_append, sumF, ih]; omega
theorem sumF_take (xs : List Int) (k : Nat) (h : k < xs.length) : sumF (xs.take (k + 1)) = sumF (xs.take k) + xs.getD k 0 := by rw [take_snocI xs k h, sumF_snoc]
theorem signs_sum {xs : List Int} (h : SignsF xs) : ∀ k, k ≤ xs.length → -(k : Int) ≤ sumF (xs.take k) ∧ sumF (xs.take k) ≤ k := by
  intro k
  induction k with
  | zero => intro _; simp [sumF]
  | succ k ih =>
    intro hk
    have h1 := ih (by omega)
    have h2 := h k (by omega)
    rw [sumF_take xs k (by omega)]
    omega
end Go.Proofs.Ythncgcdnljoakaa
namespace Go.Proofs.Ythncgcdnljoakaa
/-- What hangs at end t (rod t / 2, left if t is even), and its arm. -/
def hvM (m : MobV) (t : Nat) : Int := if t % 2 = 0 then (m.hu.getD (t / 2) (0, 0)).1 else (m.hu.getD (t / 2) (0, 0)).2
def avM (m : MobV) (t : Nat) : Int := if t % 2 = 0 then (m.am.getD (t / 2) (0, 0)).1 else (m.am.getD (t / 2) (0, 0)).2
/-- How many of the first T ends have rod j. -/
def cntM (m : MobV) : Nat → Nat → Nat
  | 0, _ => 0
  | T + 1, j => cntM m T j + if hvM m T = -(j : Int) then 1 else 0
theorem cntM_le (m : MobV) (j : Nat) : ∀ T, cntM m T j ≤ T := by
  intro T
  induction T with
  | zero => exact Nat.le_refl _
  | succ T ih => rw [cntM]; split <;> omega
def EndF (m : MobV) (t : Nat) : Prop := (1 ≤ avM m t ∧ avM m t ≤ 12) ∧ ((1 ≤ hvM m t ∧ hvM m t ≤ 99) ∨ (hvM m t < 0 ∧ ((t / 2 : Nat) : Int) + 1 ≤ -hvM m t ∧ -hvM m t ≤ (m.am.length : Int) - 1))
structure MobF (m : MobV) : Prop where
  one : 1 ≤ m.am.length
  short : m.am.length ≤ 6
  same : m.hu.length = m.am.length
  ends : ∀ t, t < 2 * m.am.length → EndF m t
  once : ∀ j, 1 ≤ j → j < m.am.length → cntM m (2 * m.am.length) j = 1
noncomputable def goodB (m : MobV) : Bool := propB (MobF m)
theorem goodB_iff (m : MobV) : goodB m = true ↔ MobF m := propB_iff _
theorem MobF.small {m : MobV} (h : MobF m) : SmallM m := ⟨by have := h.short; omega, by have := h.short; have := h.same; omega⟩
/-- A rod hangs at one end before it: and only there. -/
theorem cntM_zero (m : MobV) (j : Nat) (T : Nat) (h : ∀ t, t < T → hvM m t ≠ -(j : Int)) : cntM m T j = 0 := by
  induction T with
  | zero => rfl
  | succ T ih => rw [cntM, ih (fun t ht => h t (by omega)), if_neg (h T (Nat.lt_succ_self _))]
/-- The weight that hangs at an end, when the weights of rods are told. -/
def atM (h : Int) (f : Nat → Int) : Int := if h < 0 then f (-h).toNat else h
/-- The weights of the last k rods. -/
def wsM (m : MobV) : Nat → Nat → Int
  | 0 => fun _ => 0
  | k + 1 => fun j => if j = m.am.length - 1 - k then atM (hvM m (2 * (m.am.length - 1 - k))) (wsM m k) + atM (hvM m (2 * (m.am.length - 1 - k) + 1)) (wsM m k) else wsM m k j
/-- The weight of a rod. -/
def wtM (m : MobV) : Nat → Int := wsM m m.am.length
def weightsL (m : MobV) : List Int := (List.range m.am.length).map (wtM m)
def turnM (m : MobV) (i : Nat) : Int := avM m (2 * i + 1) * atM (hvM m (2 * i + 1)) (wtM m) - avM m (2 * i) * atM (hvM m (2 * i)) (wtM m)
def turnsL (m : MobV) : List Int := (List.range m.am.length).map (turnM m)
def leavesF (m : MobV) : Nat → List Int
  | 0 => []
  | T + 1 => if 0 < hvM m T then leavesF m T ++ [hvM m T] else leavesF m T
end Go.Proofs.Ythncgcdnljoakaa
namespace Go.Proofs.Ythncgcdnljoakaa
/-- How many of the first T ends have a rod. -/
def negM (m : MobV) : Nat → Nat
  | 0 => 0
  | T + 1 => negM m T + if hvM m T < 0 then 1 else 0
def sumN (f : Nat → Nat) : Nat → Nat
  | 0 => 0
  | n + 1 => sumN f n + f n
theorem sumN_congr {f g : Nat → Nat} : ∀ n, (∀ j, j < n → f j = g j) → sumN f n = sumN g n := by
  intro n
  induction n with
  | zero => intro _; rfl
  | succ n ih => intro h; rw [sumN, sumN, ih (fun j hj => h j (by omega)), h n (by omega)]
theorem sumN_zero (n : Nat) : sumN (fun _ => 0) n = 0 := by
  induction n with
  | zero => rfl
  | succ n ih => rw [sumN, ih]
theorem sumN_add (f g : Nat → Nat) (n : Nat) : sumN (fun j => f j + g j) n = sumN f n + sumN g n := by
  induction n with
  | zero => rfl
  | succ n ih => simp only [sumN]; rw [ih]; omega
theorem sumN_one (q : Nat) : ∀ n, sumN (fun j => if j = q then 1 else 0) n = if q < n then 1 else 0 := by
  intro n
  induction n with
  | zero => rfl
  | succ n ih =>
    rw [sumN, ih]
    by_cases h : n = q
    · subst h; simp
    · by_cases h2 : q < n
      · rw [if_pos h2, if_neg h, if_pos (by omega)]
      · rw [if_neg h2, if_neg h, if_neg (by omega)]
theorem sumN_full {f : Nat → Nat} : ∀ n, (∀ j, j < n → f j ≤ 1) → sumN f n ≤ n ∧ (sumN f n = n → ∀ j, j < n → f j = 1) := by
  intro n
  induction n with
  | zero => intro _; exact ⟨Nat.le_refl _, fun _ j h => by omega⟩
  | succ n ih =>
    intro h
    obtain ⟨a, b⟩ := ih (fun j hj => h j (by omega))
    have hn := h n (by omega)
    rw [sumN]
    refine ⟨by omega, fun e j hj => ?_⟩
    by_cases e2 : j = n
    · subst e2; omega
    · exact b (by omega) j (by omega)
theorem sumN_ones {f : Nat → Nat} : ∀ n, (∀ j, j < n → f j = 1) → sumN f n = n := by
  intro n
  induction n with
  | zero => intro _; rfl
  | succ n ih => intro h; rw [sumN, ih (fun j hj => h j (by omega)), h n (by omega)]
/-- The rods that hang, told by their numbers; rod 0 counts as one. -/
def timesM (m : MobV) (T : Nat) (j : Nat) : Nat := if j = 0 then 1 else cntM m T j
theorem times_sum (m : MobV) (n : Nat) (hn : 1 ≤ n) : ∀ T, (∀ t, t < T → hvM m t < 0 → -hvM m t < (n : Int)) → sumN (timesM m T) n = negM m T + 1 := by
  intro T
  induction T with
  | zero =>
    intro _
    have : sumN (timesM m 0) n = sumN (fun j => if j = 0 then 1 else 0) n := sumN_congr n (fun j _ => by unfold timesM; by_cases e : j = 0 <;> simp [e, cntM])
    rw [this, sumN_one, if_pos (by omega)]
    rfl
  | succ T ih =>
    intro h
    have ih := ih (fun t ht => h t (by omega))
    rw [negM]
    by_cases hneg : hvM m T < 0
    · have hq := h T (by omega) hneg
      rw [if_pos hneg]
      have : sumN (timesM m (T + 1)) n = sumN (fun j => timesM m T j + if j = (-hvM m T).toNat then 1 else 0) n := sumN_congr n (fun j _ => by
        unfold timesM
        by_cases e : j = 0
        · rw [if_pos e, if_pos e, if_neg (by omega)]
        · rw [if_neg e, if_neg e, cntM]
          by_cases e2 : j = (-hvM m T).toNat
          · rw [if_pos e2, if_pos (by omega)]
          · rw [if_neg e2, if_neg (by omega)])
      rw [this, sumN_add, sumN_one, if_pos (by omega), ih]
    · rw [if_neg hneg]
      have : sumN (timesM m (T + 1)) n = sumN (timesM m T) n := sumN_congr n (fun j _ => by
        unfold timesM
        by_cases e : j = 0
        · rw [if_pos e, if_pos e]
        · rw [if_neg e, if_neg e, cntM, if_neg (by omega)]; rfl)
      rw [this, ih, Nat.add_zero]
theorem cntM_mono (m : MobV) (j : Nat) {T T' : Nat} (h : T ≤ T') : cntM m T j ≤ cntM m T' j := by
  induction T' with
  | zero => have : T = 0 := by omega
            subst this; exact Nat.le_refl _
  | succ k ih =>
    by_cases e : T = k + 1
    · subst e; exact Nat.le_refl _
    · have := ih (by omega)
      rw [cntM]; omega
/-- All ends are in order and no rod hangs twice: then it is a mobile just if as many rods hang as can. -/
theorem good_by_count {m : MobV} (h1 : 1 ≤ m.am.length) (h6 : m.am.length ≤ 6) (hs : m.hu.length = m.am.length) (he : ∀ t, t < 2 * m.am.length → EndF m t) (hc : ∀ j, 1 ≤ j → j < m.am.length → cntM m (2 * m.am.length) j ≤ 1) :
    goodB m = decide ((negM m (2 * m.am.length) : Int) = (m.am.length : Int) - 1) := by
  have hsum := times_sum m m.am.length h1 (2 * m.am.length) (fun t ht hn => by have := (he t ht).2; omega)
  have hle : ∀ j, j < m.am.length → timesM m (2 * m.am.length) j ≤ 1 := fun j hj => by
    unfold timesM
    by_cases e : j = 0
    · rw [if_pos e]; exact Nat.le_refl _
    · rw [if_neg e]; exact hc j (by omega) hj
  by_cases hn : (negM m (2 * m.am.length) : Int) = (m.am.length : Int) - 1
  · rw [decide_eq_true hn]
    refine propB_yes ⟨h1, h6, hs, he, fun j hj hjn => ?_⟩
    have := (sumN_full m.am.length hle).2 (by rw [hsum]; omega) j hjn
    unfold timesM at this
    rw [if_neg (by omega)] at this
    exact this
  · rw [decide_eq_false hn]
    refine propB_no (fun f => hn ?_)
    have := sumN_ones (f := timesM m (2 * m.am.length)) m.am.length (fun j hj => by
      unfold timesM
      by_cases e : j = 0
      · rw [if_pos e]
      · rw [if_neg e]; exact f.once j (by omega) hj)
    rw [this] at hsum
    omega
theorem good_twice {m : MobV} {j T : Nat} (hj : 1 ≤ j) (hn : j < m.am.length) (hT : T ≤ 2 * m.am.length) (h : 2 ≤ cntM m T j) : goodB m = false :=
  propB_no (fun f => by have := f.once j hj hn; have := cntM_mono m j hT; omega)
theorem good_end {m : MobV} {t : Nat} (ht : t < 2 * m.am.length) (h : ¬ EndF m t) : goodB m = false := propB_no (fun f => h (f.ends t ht))
end Go.Proofs.Ythncgcdnljoakaa
