/- Only, Ints, IntLaw, FhO, as one text. -/
import Derived.WalkKit
import Derived.WalkSmall
import Derived.Test.YthncgcdnljoakaaProg
import Derived.Lib.Hide
import Derived.Below
import Derived.OwnWalk
import Derived.Maps.AppendAt
import Derived.Lib.LaidTab
import Derived.Deep.QuietTactic
import Derived.BigQuiet
import Derived.Deep.AppendLies
namespace Go.Proofs.Ythncgcdnljoakaa
open Go.RowKit
/-- Nothing that was there turns but block C. -/
structure Only (C : Nat) (w w' : World) : Prop where
  os : w'.os = w.os
  tape : w'.tape = w.tape
  output : w'.output = w.output
  size : w.heap.size ≤ w'.heap.size
  block : ∀ k, k ≠ C → k < w.heap.size → w'.heap[k]? = w.heap[k]?
theorem Only.refl (C : Nat) (w : World) : Only C w w := ⟨rfl, rfl, rfl, Nat.le_refl _, fun _ _ _ => rfl⟩
theorem Only.trans {C : Nat} {a b c : World} (h : Only C a b) (k : Only C b c) : Only C a c :=
  ⟨k.os.trans h.os, k.tape.trans h.tape, k.output.trans h.output, Nat.le_trans h.size k.size, fun i hi hlt => (k.block i hi (Nat.lt_of_lt_of_le hlt h.size)).trans (h.block i hi hlt)⟩
theorem Only.below {C : Nat} {a b : World} (h : Only C a b) (hC : C ≤ a.heap.size) : Below C a b := ⟨h.os, h.tape, h.output, h.size, fun k hk => h.block k (by omega) (by omega)⟩
theorem Only.cell {C : Nat} {a b : World} (h : Only C a b) {p : Addr} (hp : p.block ≠ C) (hlt : p.block < a.heap.size) : b.cell? p = a.cell? p := World.cell?_of_block (h.block _ hp hlt)
theorem Only.drewN {C : Nat} {a b : World} (h : Only C a b) (n : Nat) : Only C a (b.drewN n) := ⟨h.os, h.tape, h.output, h.size, h.block⟩
theorem Only.of_lo {C : Nat} {a b : World} (h : Below a.heap.size a b) : Only C a b := ⟨h.os, h.tape, h.output, h.size, fun k _ hk => h.block k hk⟩
theorem only_set (w : World) (C j : Nat) (x : Value) : Only C w (w.setCell ⟨C, j, none⟩ x) := by
  have b := (Below.refl C w).setCell (p := ⟨C, j, none⟩) (Nat.le_refl _) x
  exact ⟨b.os, b.tape, b.output, b.size, fun k hk _ => Below.heap_setCell _ _ _ _ hk⟩
end Go.Proofs.Ythncgcdnljoakaa
namespace Go.Proofs.Ythncgcdnljoakaa
open Go.RowKit
/-- The slice value v reads as the integers xs. -/
def IntRow (w : World) (v : Value) (xs : List Int) : Prop :=
  ∃ a c, v = .slice a xs.length c ∧ (xs = [] ∨ ∃ g off, a = some ⟨g, off, none⟩ ∧ g < w.heap.size ∧ ∀ j, j < xs.length → w.cell? ⟨g, off + j, none⟩ = some (.int .i64 (xs.getD j 0)))
theorem IntRow.lo {w w' : World} {v : Value} {xs : List Int} (h : IntRow w v xs) (l : Below w.heap.size w w') : IntRow w' v xs := by
  obtain ⟨a, c, rfl, h⟩ := h
  refine ⟨a, c, rfl, ?_⟩
  rcases h with h | ⟨g, off, e, hg, hc⟩
  · exact .inl h
  · exact .inr ⟨g, off, e, Nat.lt_of_lt_of_le hg l.size, fun j hj => by rw [l.cell (p := ⟨g, off + j, none⟩) hg]; exact hc j hj⟩
theorem intRow_nil (w : World) (a : Option Addr) (c : Nat) : IntRow w (.slice a 0 c) [] := ⟨a, c, rfl, .inl rfl⟩
/-- Blocks from B on, below E, may have turned, and new ones may have come: nothing else. -/
structure Part (B E : Nat) (w w' : World) : Prop where
  os : w'.os = w.os
  tape : w'.tape = w.tape
  output : w'.output = w.output
  size : w.heap.size ≤ w'.heap.size
  block : ∀ k, k < w.heap.size → (k < B ∨ E ≤ k) → w'.heap[k]? = w.heap[k]?
theorem Part.refl (B E : Nat) (w : World) : Part B E w w := ⟨rfl, rfl, rfl, Nat.le_refl _, fun _ _ _ => rfl⟩
theorem Part.trans {B E : Nat} {a b c : World} (h : Part B E a b) (k : Part B E b c) : Part B E a c :=
  ⟨k.os.trans h.os, k.tape.trans h.tape, k.output.trans h.output, Nat.le_trans h.size k.size, fun i hi ho => (k.block i (Nat.lt_of_lt_of_le hi h.size) ho).trans (h.block i hi ho)⟩
theorem Part.below {B E : Nat} {a b : World} (h : Part B E a b) (hB : B ≤ a.heap.size) : Below B a b := ⟨h.os, h.tape, h.output, h.size, fun k hk => h.block k (by omega) (.inl hk)⟩
theorem Part.mono {B E B' E' : Nat} {a b : World} (h : Part B E a b) (h1 : B' ≤ B) (h2 : E ≤ E') : Part B' E' a b := ⟨h.os, h.tape, h.output, h.size, fun k hk ho => h.block k hk (by omega)⟩
theorem Only.part {C B E : Nat} {a b : World} (h : Only C a b) (h1 : B ≤ C) (h2 : C < E) : Part B E a b := ⟨h.os, h.tape, h.output, h.size, fun k hk ho => h.block k (by omega) hk⟩
theorem Part.of_lo {B E : Nat} {a b : World} (h : Below a.heap.size a b) : Part B E a b := ⟨h.os, h.tape, h.output, h.size, fun k hk _ => h.block k hk⟩
theorem Part.cell {B E : Nat} {a b : World} (h : Part B E a b) {p : Addr} (hlt : p.block < a.heap.size) (ho : p.block < B ∨ E ≤ p.block) : b.cell? p = a.cell? p := World.cell?_of_block (h.block _ hlt ho)
theorem Part.frozen {B E : Nat} {a b : World} (h : Part B E a b) {p : Addr} (hlt : p.block < a.heap.size) (ho : p.block < B ∨ E ≤ p.block) : b.frozen? p = a.frozen? p := World.frozen?_of_block (h.block _ hlt ho)
/-- The slice value v reads as xs, and lies, where it has elements, in a block of B .. E - 1 that can be written. -/
def MineI (w : World) (B E : Nat) (v : Value) (xs : List Int) : Prop :=
  (xs = [] ∧ ∃ a c, v = .slice a 0 c) ∨ ∃ g c, v = .slice (some ⟨g, 0, none⟩) xs.length c ∧ B ≤ g ∧ g < E ∧ E ≤ w.heap.size ∧ (∀ j, j < xs.length → w.cell? ⟨g, j, none⟩ = some (.int .i64 (xs.getD j 0))) ∧ ∀ j, w.frozen? ⟨g, j, none⟩ = false
theorem MineI.row {w : World} {B E : Nat} {v : Value} {xs : List Int} (h : MineI w B E v xs) : IntRow w v xs := by
  rcases h with ⟨rfl, a, c, rfl⟩ | ⟨g, c, rfl, _, hg, hE, hc, _⟩
  · exact intRow_nil w a c
  · exact ⟨_, _, rfl, .inr ⟨g, 0, rfl, by omega, fun j hj => by rw [Nat.zero_add]; exact hc j hj⟩⟩
theorem MineI.part {w w' : World} {B E B' E' : Nat} {v : Value} {xs : List Int} (h : MineI w B E v xs) (p : Part B' E' w w') (ho : E ≤ B' ∨ E' ≤ B) : MineI w' B E v xs := by
  rcases h with h | ⟨g, c, e, h1, h2, h3, hc, hf⟩
  · exact .inl h
  · have hb : g < B' ∨ E' ≤ g := by omega
    exact .inr ⟨g, c, e, h1, h2, Nat.le_trans h3 p.size, fun j hj => (p.cell (p := ⟨g, j, none⟩) (by simp only; omega) hb).trans (hc j hj), fun j => (p.frozen (p := ⟨g, j, none⟩) (by simp only; omega) hb).trans (hf j)⟩
theorem MineI.lo {w w' : World} {B E : Nat} {v : Value} {xs : List Int} (h : MineI w B E v xs) (l : Below w.heap.size w w') : MineI w' B E v xs :=
  h.part (Part.of_lo (B := E) (E := E) l) (.inl (Nat.le_refl _))
theorem MineI.mono {w : World} {B E B' E' : Nat} {v : Value} {xs : List Int} (h : MineI w B E v xs) (h1 : B' ≤ B) (h2 : E ≤ E') (h3 : E' ≤ w.heap.size) : MineI w B' E' v xs := by
  rcases h with h | ⟨g, c, e, k1, k2, k3, r⟩
  · exact .inl h
  · exact .inr ⟨g, c, e, by omega, by omega, h3, r⟩
theorem mineI_nil (w : World) (B E : Nat) (a : Option Addr) (c : Nat) : MineI w B E (.slice a 0 c) [] := .inl ⟨rfl, a, c, rfl⟩
/-- A list of integers as cells. -/
def icells (xs : List Int) : List Value := xs.map (Value.int .i64)
theorem icells_at (xs : List Int) (j : Nat) (hj : j < xs.length) : (icells xs)[j]? = some (.int .i64 (xs.getD j 0)) := by
  simp [icells, List.getD, List.getElem?_eq_getElem hj]
theorem icells_one (xs : List Int) : ∀ u ∈ icells xs, u.oneCell' = true := by
  intro u h
  simp only [icells, List.mem_map] at h
  obtain ⟨z, _, rfl⟩ := h
  rfl
/-- A row of integers in memory of the call's own. -/
theorem mine_own {w : World} {B : Nat} {e : TypeId} {v : Value} {xs : List Int} (h : w.ownsRow B e 1 v xs.length (icells xs)) : MineI w B w.heap.size v xs := by
  have h' := h
  rcases h.2 with ⟨rfl, h0⟩ | ⟨g, cap, cur, rfl, hb, hg, _⟩
  · exact .inl ⟨List.length_eq_zero_iff.1 h0, none, 0, rfl⟩
  · exact .inr ⟨g, cap, rfl, hb, (Array.getElem?_eq_some_iff.1 hg).1, Nat.le_refl _, fun j hj => by rw [h'.cellAt j (by omega)]; exact icells_at xs j hj, fun j => h'.frozenAt j⟩
/-- What the walk is told of a slice of integers that came in. -/
def IntsIn (w : World) (a : Option Addr) (len cap : Nat) (zs : List Int) : Prop :=
  (a = none ∧ len = 0 ∧ cap = 0 ∧ zs = []) ∨
  ∃ x, a = some x ∧ len ≤ cap ∧ cap ≤ maxLen ∧ zs.length = cap ∧ (∀ i, i < zs.length → w.cell? (x.add i) = some (.int .i64 (zs.getD i 0))) ∧ ∀ n ∈ zs, (Lit.int .i64 n).wf = true
theorem cellI_lt {w : World} {p : Addr} {v : Value} (h : w.cell? p = some v) : p.block < w.heap.size := by
  rcases Nat.lt_or_ge p.block w.heap.size with h' | h'
  · exact h'
  · simp [World.cell?, Array.getElem?_eq_none h'] at h
theorem ints_row {w : World} {a : Option Addr} {len cap : Nat} {zs : List Int} (h : IntsIn w a len cap zs) : ∃ xs : List Int, xs.length = len ∧ len ≤ maxLen ∧ IntRow w (.slice a len cap) xs ∧ ∀ n ∈ xs, (Lit.int .i64 n).wf = true := by
  rcases h with ⟨rfl, rfl, rfl, rfl⟩ | ⟨⟨b, off, spot⟩, rfl, hl, hm, hz, hc, hw⟩
  · exact ⟨[], rfl, Nat.zero_le _, intRow_nil _ _ _, fun n h => by cases h⟩
  · have hxl : (zs.take len).length = len := by rw [List.length_take]; omega
    refine ⟨zs.take len, hxl, by omega, ⟨_, cap, by rw [hxl], ?_⟩, fun n hn => hw n (List.mem_of_mem_take hn)⟩
    by_cases h0 : len = 0
    · subst h0; exact .inl (by simp)
    · have hc0 := hc 0 (by omega)
      have hs : spot = none := by simpa [Addr.add] using World.cell?_spot hc0
      subst hs
      rw [Go.WideShapes.add_plain] at hc0
      refine .inr ⟨b, off, rfl, cellI_lt hc0, fun j hj => ?_⟩
      have h1 := hc j (by omega)
      rw [Go.WideShapes.add_plain] at h1
      rw [h1]
      have : (zs.take len).getD j 0 = zs.getD j 0 := by simp [List.getD, show j < len by omega]
      rw [this]
/-- The marks are in the row, which lies in a block of B .. E - 1: n of them, from m on. -/
def HeldI (w : World) (B E : Nat) (v : Value) (n m : Nat) : Prop := (n = 0 ∧ ∃ a c, v = .slice a 0 c) ∨ ∃ g c, v = .slice (some ⟨g, 0, none⟩) n c ∧ B ≤ g ∧ g < E ∧ E ≤ w.heap.size ∧ ∀ j, j < n → w.cell? ⟨g, j, none⟩ = some (.int .i64 (m + j : Nat))
theorem HeldI.part {w w' : World} {v : Value} {n m B E B' E' : Nat} (h : HeldI w B E v n m) (p : Part B' E' w w') (ho : E ≤ B' ∨ E' ≤ B) : HeldI w' B E v n m := by
  rcases h with h | ⟨g, c, e, h1, h2, h3, hm⟩
  · exact .inl h
  · exact .inr ⟨g, c, e, h1, h2, Nat.le_trans h3 p.size, fun j hj => by rw [p.cell (p := ⟨g, j, none⟩) (by simp only; omega) (by simp only; omega)]; exact hm j hj⟩
theorem HeldI.lo {w w' : World} {v : Value} {n m B E : Nat} (h : HeldI w B E v n m) (l : Below w.heap.size w w') : HeldI w' B E v n m :=
  h.part (Part.of_lo (B := E) (E := E) l) (.inl (Nat.le_refl _))
end Go.Proofs.Ythncgcdnljoakaa
namespace Go.Proofs.Ythncgcdnljoakaa
open Go.RowKit
theorem infoInt : (Try.prog.info? 3).map (fun i => (i.zero, i.size, i.bytes)) = some (some (.int .i64 0), 1, 8) := by kernel_rfl
theorem make_ints (n : Nat) (hn : n ≤ 2000000) (u : World) :
    (Instr.makeSlice 38 (.int .i64 (n : Int)) (.int .i64 (n : Int))).run Try.prog u = .ok (.slice (some ⟨u.heap.size, 0, none⟩) n n) (u.alloc (.cells (madeCells #[.int .i64 0] n) 3)) := by
  obtain ⟨i0, hi, hz0, hz1, hz2⟩ := info_parts infoInt
  have h := run_make (P := Try.prog) u 38 3 i0 (.int .i64 0) Try.underlying38 hi hz0 .i64 .i64 (n : Int) (n : Int) (by omega) (Int.le_refl _) (by rw [hz2]; omega) (by omega)
  simpa [hz1, Value.cells] using h
theorem made_int (m j : Nat) (h : j < m) : (madeCells #[.int .i64 0] m)[j]? = some (.int .i64 0) := by
  rw [← Array.getElem?_toList, toList_madeCells_one]; simp [h]
theorem one_set (w : World) (b o : Nat) (u : Value) {x : Value} (h1 : w.cell? ⟨b, o, none⟩ = some x) :
    (w.setCell ⟨b, o, none⟩ u).cell? ⟨b, o, none⟩ = some u ∧ ∀ j, j ≠ o → (w.setCell ⟨b, o, none⟩ u).cell? ⟨b, j, none⟩ = w.cell? ⟨b, j, none⟩ := by
  refine ⟨World.cell?_setCell_same' _ _ _ (by rw [h1]; rfl), fun j hj => ?_⟩
  rw [World.cell?_setCell_other _ _ _ _ (fun hh => hj (congrArg Addr.off hh).symm)]
set_option maxRecDepth 100000 in
set_option maxHeartbeats 800000 in
theorem toInts_at (a : Option Addr) (c : Nat) (xs : List Int) (w : World) (hr : IntRow w (.slice a xs.length c) xs) (hn : xs.length ≤ 2000000) :
    Calls Try.prog 61 #[.slice a xs.length c] w fun e w' => e = .returned (.slice (some ⟨w.heap.size, 0, none⟩) xs.length xs.length) ∧ MineI w' w.heap.size w'.heap.size (.slice (some ⟨w.heap.size, 0, none⟩) xs.length xs.length) xs ∧ Below w.heap.size w w' := by
  have HM := make_ints xs.length hn
  have HR := Lib.hid hr
  clear hr
  go_enter Try.func61, Try.ntmps61
  go_wp2
  go_loopw [4] (fun i wr => ∃ k : Nat, k ≤ xs.length ∧ i = .int .i64 k ∧ Hid (∀ j, j < k → wr.cell? ⟨w.heap.size, j, none⟩ = some (.int .i64 (xs.getD j 0))) ∧ Hid (∀ j, k ≤ j → j < xs.length → wr.cell? ⟨w.heap.size, j, none⟩ = some (.int .i64 0)) ∧ Hid (∀ j, wr.frozen? ⟨w.heap.size, j, none⟩ = false) ∧ Below w.heap.size w wr ∧ w.heap.size + 1 ≤ wr.heap.size) (fun i _ => xs.length - (intOf i).toNat)
  case atStart => exact ⟨0, Nat.zero_le _, rfl, Lib.hid (fun j h => by omega), Lib.hid (fun j _ h => by rw [World.cell?_alloc_at _ _ _ _ rfl]; exact made_int _ _ h), Lib.hid (fun j => World.frozen?_alloc_at _ _ _ _ rfl), (Below.refl _ _).alloc (Nat.le_refl _) _, by simp⟩
  case round =>
    obtain ⟨k, hk, rfl, H1, H2, H3, hb, hs1⟩ := hrel
    clear HM
    by_cases hlt : k < xs.length
    · obtain ⟨a', c', he, hrr⟩ := HR.out
      cases he
      rcases hrr with h | ⟨g, off, rfl, hg, hc⟩
      · subst h; simp at hlt
      have hck : wr.cell? ⟨g, off + k, none⟩ = some (.int .i64 (xs.getD k 0)) := by rw [hb.cell (p := ⟨g, off + k, none⟩) hg]; exact hc k hlt
      have hcw := H2.out k (Nat.le_refl _) hlt
      have hfw := H3.out k
      have hlt' : (k : Int) < (xs.length : Int) := by omega
      have hne : g ≠ w.heap.size := by omega
      have TS := Lib.hid (fun u => one_set wr w.heap.size k u hcw)
      clear hc
      obtain ⟨x, hx⟩ : ∃ x, xs.getD k 0 = x := ⟨_, rfl⟩
      rw [hx] at hck
      have HX := Lib.hid hx
      clear hx
      go_wp2
      go_roundw
      case rel =>
        refine ⟨k + 1, by omega, by go_num, Lib.hid (fun j hj => ?_), Lib.hid (fun j hj hn => ?_), Lib.hid (fun j => ?_), hb.setCell (p := ⟨w.heap.size, k, none⟩) (Nat.le_refl _) _, by simp; omega⟩
        · by_cases e : j = k
          · subst e; rw [HX.out]; exact (TS.out _).1
          · rw [(TS.out _).2 _ e]; exact H1.out j (by omega)
        · rw [(TS.out _).2 _ (by omega)]; exact H2.out j (by omega) hn
        · rw [World.frozen?_setCell]; exact H3.out j
      case measure => simp [intOf]; omega
    · obtain rfl : k = xs.length := by omega
      have hge : ¬ (xs.length : Int) < (xs.length : Int) := by omega
      go_wp2
      go_ret
      exact ⟨rfl, .inr ⟨_, _, rfl, Nat.le_refl _, by omega, Nat.le_refl _, H1.out, H3.out⟩, hb⟩
theorem toInts_any (a : Option Addr) (c : Nat) (xs : List Int) (w : World) (hr : IntRow w (.slice a xs.length c) xs) (hn : xs.length ≤ 2000000) :
    Calls Try.prog 61 #[.slice a xs.length c] w fun e w' => ∃ v, e = .returned v ∧ MineI w' w.heap.size w'.heap.size v xs ∧ Below w.heap.size w w' :=
  (toInts_at a c xs w hr hn).mono fun _ _ ⟨h1, h2, h3⟩ => ⟨_, h1, h2, h3⟩
set_option maxHeartbeats 800000 in
theorem eqInts_same (va vb : Value) (xs : List Int) (w : World) (ha : IntRow w va xs) (hb : IntRow w vb xs) (hn : xs.length ≤ 2000000) :
    Calls Try.prog 32 #[va, vb] w fun e w' => e = .returned (.bool true) ∧ Below w.heap.size w w' := by
  obtain ⟨a, c, rfl, ha⟩ := ha
  obtain ⟨a', c', rfl, hb⟩ := hb
  go_enter Try.func32, Try.ntmps32
  go_wp2
  go_loopw [5] (fun i wr => ∃ k : Nat, k ≤ xs.length ∧ i = .int .i64 k ∧ Below w.heap.size w wr) (fun i _ => xs.length - (intOf i).toNat)
  case atStart => exact ⟨0, Nat.zero_le _, rfl, Below.refl _ _⟩
  case round =>
    obtain ⟨k, hk, rfl, hw⟩ := hrel
    by_cases hlt : k < xs.length
    · rcases ha with h | ⟨g, off, rfl, hg, hc⟩
      · subst h; simp at hlt
      rcases hb with h | ⟨g', off', rfl, hg', hc'⟩
      · subst h; simp at hlt
      have h1 := hc k hlt
      have h2 := hc' k hlt
      have hlt' : (k : Int) < (xs.length : Int) := by omega
      rw [← hw.cell (p := ⟨g, off + k, none⟩) hg] at h1
      rw [← hw.cell (p := ⟨g', off' + k, none⟩) hg'] at h2
      clear hc hc'
      generalize xs.getD k 0 = x at h1 h2
      have HW := Lib.hid hw
      clear hw
      go_wp2
      first
        | (go_quiet (fail)
           go_wp2
           go_roundw
           case rel => exact ⟨k + 1, by omega, by go_num, HW.out.trans ⟨rfl, rfl, rfl, Nat.le_refl _, fun _ _ => rfl⟩⟩
           case measure => simp [intOf]; omega)
        | (go_roundw
           case rel => exact ⟨k + 1, by omega, by go_num, HW.out⟩
           case measure => simp [intOf]; omega)
    · have hge : ¬ (k : Int) < (xs.length : Int) := by omega
      go_wp2
      go_ret
      exact ⟨rfl, hw⟩
theorem markI_nil (a : Option Addr) (c m : Nat) (w : World) : Calls Try.prog 34 #[.slice a 0 c, .int .i64 m] w fun e w' => e = .returned (.int .i64 m) ∧ w = w' := by
  go_enter Try.func34, Try.ntmps34
  go_wp2
  refine wp_loop_rounds 1 ?_
  rw [rounds_succ]
  go_wp2
  go_ret
  exact ⟨rfl, rfl⟩
theorem heldI_nil (a : Option Addr) (c m : Nat) (w : World) : Calls Try.prog 35 #[.slice a 0 c, .int .i64 m] w fun e w' => e = .returned (.int .i64 m) ∧ w = w' := by
  go_enter Try.func35, Try.ntmps35
  go_wp2
  refine wp_loop_rounds 1 ?_
  rw [rounds_succ]
  go_wp2
  go_ret
  exact ⟨rfl, rfl⟩
set_option maxHeartbeats 800000 in
theorem markI_any (g n c m : Nat) (w : World) (hn : n ≤ 2000000) (hm : m ≤ 40000000)
    (hc : ∀ j, j < n → ∃ z, w.cell? ⟨g, j, none⟩ = some (.int .i64 z)) (hf : ∀ j, w.frozen? ⟨g, j, none⟩ = false) :
    Calls Try.prog 34 #[.slice (some ⟨g, 0, none⟩) n c, .int .i64 m] w fun e w' => e = .returned (.int .i64 (m + n : Nat)) ∧ Only g w w' ∧ ∀ j, j < n → w'.cell? ⟨g, j, none⟩ = some (.int .i64 (m + j : Nat)) := by
  have HC := Lib.hid hc
  have HF := Lib.hid hf
  clear hc hf
  go_enter Try.func34, Try.ntmps34
  go_wp2
  go_loopw [1, 5] (fun x i wr => ∃ k : Nat, k ≤ n ∧ x = .int .i64 (m + k : Nat) ∧ i = .int .i64 k ∧ Hid (∀ j, j < k → wr.cell? ⟨g, j, none⟩ = some (.int .i64 (m + j : Nat))) ∧ Hid (∀ j, k ≤ j → j < n → ∃ z, wr.cell? ⟨g, j, none⟩ = some (.int .i64 z)) ∧ Hid (∀ j, wr.frozen? ⟨g, j, none⟩ = false) ∧ Hid (Only g w wr)) (fun _ i _ => n - (intOf i).toNat)
  case atStart => exact ⟨0, Nat.zero_le _, rfl, rfl, Lib.hid (fun j h => by omega), Lib.hid (fun j _ h => HC.out j h), HF, Lib.hid (Only.refl _ _)⟩
  case round =>
    obtain ⟨k, hk, rfl, rfl, H1, H2, H3, ho⟩ := hrel
    by_cases hlt : k < n
    · obtain ⟨t, c1⟩ := H2.out k (Nat.le_refl _) hlt
      have f1 := H3.out k
      have hlt' : (k : Int) < (n : Int) := by omega
      have TS := Lib.hid (one_set wr g k (.int .i64 ((m : Int) + (k : Int))) c1)
      go_wp2
      go_roundw
      case rel =>
        obtain ⟨t1, t3⟩ := TS.out
        refine ⟨k + 1, by omega, by go_num, by go_num, Lib.hid (fun j hj => ?_), Lib.hid (fun j hj hjn => ?_), Lib.hid (fun j => ?_), Lib.hid (ho.out.trans (only_set _ _ _ _))⟩
        · by_cases e : j = k
          · subst e
            rw [t1, show ((m + j : Nat) : Int) = (m : Int) + (j : Int) by omega]
          · rw [t3 _ e]
            exact H1.out j (by omega)
        · rw [t3 _ (by omega)]
          exact H2.out j (by omega) hjn
        · rw [World.frozen?_setCell]
          exact H3.out j
      case measure => simp [intOf]; omega
    · obtain rfl : k = n := by omega
      have hge : ¬ (k : Int) < (k : Int) := by omega
      go_wp2
      go_ret
      exact ⟨rfl, ho.out, H1.out⟩
set_option maxHeartbeats 800000 in
theorem heldI_any (g n c m : Nat) (w : World) (hn : n ≤ 2000000) (hm : m ≤ 40000000) (hc : ∀ j, j < n → w.cell? ⟨g, j, none⟩ = some (.int .i64 (m + j : Nat))) :
    Calls Try.prog 35 #[.slice (some ⟨g, 0, none⟩) n c, .int .i64 m] w fun e w' => e = .returned (.int .i64 (m + n : Nat)) ∧ w = w' := by
  have HC := Lib.hid hc
  clear hc
  go_enter Try.func35, Try.ntmps35
  go_wp2
  go_loopw [1, 5] (fun x i wr => ∃ k : Nat, k ≤ n ∧ x = .int .i64 (m + k : Nat) ∧ i = .int .i64 k ∧ wr = w) (fun _ i _ => n - (intOf i).toNat)
  case atStart => exact ⟨0, Nat.zero_le _, rfl, rfl, rfl⟩
  case round =>
    obtain ⟨k, hk, rfl, rfl, rfl⟩ := hrel
    by_cases hlt : k < n
    · have c1 := HC.out k hlt
      have hlt' : (k : Int) < (n : Int) := by omega
      rw [show ((m + k : Nat) : Int) = (m : Int) + (k : Int) by omega] at c1
      go_wp2
      go_roundw
      case rel => exact ⟨k + 1, by omega, by go_num, by go_num, trivial⟩
      case measure => simp [intOf]; omega
    · obtain rfl : k = n := by omega
      have hge : ¬ (k : Int) < (k : Int) := by omega
      go_wp2
      go_ret
      exact ⟨rfl, rfl⟩
/-- A slice of a call's own is marked: nothing else turns, and the marks stand in it. -/
theorem markI_mine (B E : Nat) (v : Value) (xs : List Int) (m : Nat) (w : World) (h : MineI w B E v xs) (hn : xs.length ≤ 2000000) (hm : m ≤ 40000000) :
    Calls Try.prog 34 #[v, .int .i64 m] w fun e w' => e = .returned (.int .i64 (m + xs.length : Nat)) ∧ Part B E w w' ∧ HeldI w' B E v xs.length m := by
  rcases h with ⟨rfl, a, c, rfl⟩ | ⟨g, c, rfl, hB, hE, hs, hc, hf⟩
  · refine (markI_nil a c m w).mono ?_
    rintro e w' ⟨rfl, rfl⟩
    exact ⟨rfl, Part.refl _ _ _, .inl ⟨rfl, a, c, rfl⟩⟩
  · refine (markI_any g xs.length c m w hn hm (fun j hj => ⟨_, hc j hj⟩) hf).mono ?_
    rintro e w' ⟨rfl, ho, hh⟩
    exact ⟨rfl, ho.part hB hE, .inr ⟨g, c, rfl, hB, hE, Nat.le_trans hs ho.size, hh⟩⟩
theorem heldI_held (B E : Nat) (v : Value) (n m : Nat) (w : World) (h : HeldI w B E v n m) (hn : n ≤ 2000000) (hm : m ≤ 40000000) :
    Calls Try.prog 35 #[v, .int .i64 m] w fun e w' => e = .returned (.int .i64 (m + n : Nat)) ∧ w = w' := by
  rcases h with ⟨rfl, a, c, rfl⟩ | ⟨g, c, rfl, _, _, _, hc⟩
  · exact heldI_nil a c m w
  · exact heldI_any g n c m w hn hm hc
/-- A row of integers in memory of the call's own. -/
def OwnI (w : World) (B : Nat) (v : Value) (xs : List Int) : Prop := w.ownsRow B 3 1 v xs.length (icells xs)
theorem OwnI.mine {w : World} {B : Nat} {v : Value} {xs : List Int} (h : OwnI w B v xs) : MineI w B w.heap.size v xs := mine_own h
theorem ownI_snoc {w : World} {B k : Nat} {v : Value} {ys : List Int} {x : Int} (h : w.ownsRow B 3 1 v (k + 1) (icells ys ++ [.int .i64 x])) (hk : ys.length = k) : OwnI w B v (ys ++ [x]) := by
  unfold OwnI
  rw [List.length_append, hk]
  unfold icells at *
  rw [List.map_append]
  exact h
theorem ownI_lit1 (w : World) (x : Int) (B : Nat) (hB : B ≤ w.heap.size) : OwnI (w.alloc (.cells #[.int .i64 x] 3)) B (.slice (some ⟨w.heap.size, 0, none⟩) 1 1) [x] := World.ownsRow_lit w #[.int .i64 x] 1 hB (by decide) rfl
theorem ownI_lit0 (w : World) (B : Nat) (hB : B ≤ w.heap.size) : OwnI (w.alloc (.cells #[] 3)) B (.slice (some ⟨w.heap.size, 0, none⟩) 0 0) [] := World.ownsRow_lit w #[] 0 hB (by decide) rfl
theorem ownI_nil (w : World) (B : Nat) : OwnI w B (.slice none 0 0) [] := World.ownsRow_nil _ _ _ _
/-- The number of elements of a slice. -/
def lenOf : Value → Nat
  | .slice _ l _ => l
  | _ => 0
end Go.Proofs.Ythncgcdnljoakaa
namespace Go.Proofs.Ythncgcdnljoakaa
open Go.RowKit
def RowS (w : World) (u : Value) (xs : List Int) : Prop :=
  ∃ g off c, u = .slice (some ⟨g, off, none⟩) xs.length c ∧ g < w.heap.size ∧ ∀ j, j < xs.length → w.cell? ⟨g, off + j, none⟩ = some (.int .i64 (xs.getD j 0))
theorem RowS.row {w : World} {u : Value} {xs : List Int} (h : RowS w u xs) : IntRow w u xs := by
  obtain ⟨g, off, c, e, h1, h2⟩ := h
  exact ⟨_, c, e, .inr ⟨g, off, rfl, h1, h2⟩⟩
theorem RowS.lo {w w' : World} {u : Value} {xs : List Int} (h : RowS w u xs) (l : Below w.heap.size w w') : RowS w' u xs := by
  obtain ⟨g, off, c, e, h1, h2⟩ := h
  exact ⟨g, off, c, e, Nat.lt_of_lt_of_le h1 l.size, fun j hj => by rw [l.cell (p := ⟨g, off + j, none⟩) h1]; exact h2 j hj⟩
theorem icells_len (xs : List Int) : (icells xs).length = xs.length := by simp [icells]
theorem icells_get (xs : List Int) (j : Nat) (u : Value) (h : (icells xs)[j]? = some u) : j < xs.length ∧ u = .int .i64 (xs.getD j 0) := by
  have hj : j < xs.length := by
    have := (List.getElem?_eq_some_iff.1 h).1
    simpa [icells] using this
  rw [icells_at _ _ hj] at h
  exact ⟨hj, (Option.some.inj h).symm⟩
set_option maxRecDepth 100000 in
set_option maxHeartbeats 800000 in
theorem l1Own_any (u : Value) (xs : List Int) (w : World) (hr : RowS w u xs) (hn : xs.length ≤ 2000000) :
    Calls Try.prog 139 #[u] w fun e w' => ∃ v', e = .returned v' ∧ OwnI w' w.heap.size v' xs ∧ Below w.heap.size w w' := by
  obtain ⟨g, off, c, rfl, hg, hc⟩ := hr
  obtain ⟨i0, hi, hz0, hz1, hz2⟩ := info_parts infoInt
  have hrow0 := ownI_lit0 w w.heap.size (Nat.le_refl _)
  have HN := Lib.hid (show ∀ j u, (icells xs)[j]? = some u → (w.alloc (.cells #[] 3)).cell? ((⟨g, off, none⟩ : Addr).add j) = some u from fun j u hj => by
    obtain ⟨hl, rfl⟩ := icells_get xs j u hj
    rw [Go.WideShapes.add_plain, World.cell?_of_block (Below.heap_alloc _ _ _ hg)]
    exact hc j hl)
  unfold OwnI icells at hrow0
  clear hc
  go_enter Try.func139, Try.ntmps139
  go_wp2_with (at_builtin; refine wpList_append_own _ rfl _ _ 38 rfl w.heap.size 3 i0 (.int .i64 0) 1 8 Try.underlying38 hi hz0 hz1 hz2 rfl (by decide) _ _ _ rfl hrow0 ⟨g, off, none⟩ xs.length c (icells xs) rfl (by rw [icells_len, Nat.mul_one]) HN.out (icells_one xs) (by unfold maxLen; simp only [List.length_nil]; omega) (by simp only [List.length_nil]; omega) (by simp) ?_; intro v' w3 hown' hgrow3 hnil3)
  have HO := Lib.hid (show OwnI w3 w.heap.size v' xs by
    unfold OwnI
    simpa using hown')
  have HL := Lib.hid (show Below w.heap.size w w3 from ((Below.refl _ _).alloc (Nat.le_refl _) _).grown hgrow3 (by simp) (fun j hj => by cases hj; exact Nat.le_refl _))
  clear hown' hgrow3 hnil3 hrow0
  go_wp2
  go_ret
  exact ⟨v', rfl, HO.out, HL.out⟩
/-- A part of a row of its own. -/
theorem own_part {w : World} {B g n c : Nat} {ys : List Int} (h : w.ownsRow B 3 1 (.slice (some ⟨g, 0, none⟩) n c) n (icells ys)) (hl : ys.length = n) (j : Nat) (hj : j < n) : w.cell? ⟨g, j, none⟩ = some (.int .i64 (ys.getD j 0)) := by
  rw [h.cellAt j (by omega), icells_at _ j (by omega)]
end Go.Proofs.Ythncgcdnljoakaa
