/- The contracts of the law's own functions on slices of integers: copied, compared, marked, and the marks looked at again. -/
import Derived.Test.YtcfbnadefdcjaaaInts
import Derived.Lib.LaidTab
import Derived.Deep.QuietTactic
import Derived.BigQuiet
namespace Go.Proofs.Ytcfbnadefdcjaaa
open Go.RowKit
theorem infoInt : (Try.prog.info? 3).map (fun i => (i.zero, i.size, i.bytes)) = some (some (.int .i64 0), 1, 8) := by kernel_rfl
theorem make_ints (n : Nat) (hn : n ≤ 2000000) (u : World) :
    (Instr.makeSlice 29 (.int .i64 (n : Int)) (.int .i64 (n : Int))).run Try.prog u = .ok (.slice (some ⟨u.heap.size, 0, none⟩) n n) (u.alloc (.cells (madeCells #[.int .i64 0] n) 3)) := by
  obtain ⟨i0, hi, hz0, hz1, hz2⟩ := info_parts infoInt
  have h := run_make (P := Try.prog) u 29 3 i0 (.int .i64 0) Try.underlying29 hi hz0 .i64 .i64 (n : Int) (n : Int) (by omega) (Int.le_refl _) (by rw [hz2]; omega) (by omega)
  simpa [hz1, Value.cells] using h
theorem made_int (m j : Nat) (h : j < m) : (madeCells #[.int .i64 0] m)[j]? = some (.int .i64 0) := by
  rw [← Array.getElem?_toList, toList_madeCells_one]; simp [h]
theorem one_set (w : World) (b o : Nat) (u : Value) {x : Value} (h1 : w.cell? ⟨b, o, none⟩ = some x) :
    (w.setCell ⟨b, o, none⟩ u).cell? ⟨b, o, none⟩ = some u ∧ ∀ j, j ≠ o → (w.setCell ⟨b, o, none⟩ u).cell? ⟨b, j, none⟩ = w.cell? ⟨b, j, none⟩ := by
  refine ⟨World.cell?_setCell_same' _ _ _ (by rw [h1]; rfl), fun j hj => ?_⟩
  rw [World.cell?_setCell_other _ _ _ _ (fun hh => hj (congrArg Addr.off hh).symm)]
set_option maxRecDepth 100000 in
set_option maxHeartbeats 800000 in
theorem toInts_at (a : Option Addr) (c : Nat) (xs : List Int) (w : World) (hr : IntRow w (.slice a xs.length c) xs) (hn : xs.length ≤ 2000000) :
    Calls Try.prog 27 #[.slice a xs.length c] w fun e w' => e = .returned (.slice (some ⟨w.heap.size, 0, none⟩) xs.length xs.length) ∧ MineI w' w.heap.size w'.heap.size (.slice (some ⟨w.heap.size, 0, none⟩) xs.length xs.length) xs ∧ Below w.heap.size w w' := by
  have HM := make_ints xs.length hn
  have HR := Lib.hid hr
  clear hr
  go_enter Try.func27, Try.ntmps27
  go_wp2
  go_loopw [4] (fun i wr => ∃ k : Nat, k ≤ xs.length ∧ i = .int .i64 k ∧ Hid (∀ j, j < k → wr.cell? ⟨w.heap.size, j, none⟩ = some (.int .i64 (xs.getD j 0))) ∧ Hid (∀ j, k ≤ j → j < xs.length → wr.cell? ⟨w.heap.size, j, none⟩ = some (.int .i64 0)) ∧ Hid (∀ j, wr.frozen? ⟨w.heap.size, j, none⟩ = false) ∧ Below w.heap.size w wr ∧ w.heap.size + 1 ≤ wr.heap.size) (fun i _ => xs.length - (intOf i).toNat)
  case atStart => exact ⟨0, Nat.zero_le _, rfl, Lib.hid (fun j h => by omega), Lib.hid (fun j _ h => by rw [World.cell?_alloc_at _ _ _ _ rfl]; exact made_int _ _ h), Lib.hid (fun j => World.frozen?_alloc_at _ _ _ _ rfl), (Below.refl _ _).alloc (Nat.le_refl _) _, by simp⟩
  case round =>
    obtain ⟨k, hk, rfl, H1, H2, H3, hb, hs1⟩ := hrel
    clear HM
    by_cases hlt : k < xs.length
    · obtain ⟨a', c', he, hrr⟩ := HR.out
      cases he
      rcases hrr with h | ⟨g, off, rfl, hg, hc⟩
      · subst h; simp at hlt
      have hck : wr.cell? ⟨g, off + k, none⟩ = some (.int .i64 (xs.getD k 0)) := by rw [hb.cell (p := ⟨g, off + k, none⟩) hg]; exact hc k hlt
      have hcw := H2.out k (Nat.le_refl _) hlt
      have hfw := H3.out k
      have hlt' : (k : Int) < (xs.length : Int) := by omega
      have hne : g ≠ w.heap.size := by omega
      have TS := Lib.hid (fun u => one_set wr w.heap.size k u hcw)
      clear hc
      obtain ⟨x, hx⟩ : ∃ x, xs.getD k 0 = x := ⟨_, rfl⟩
      rw [hx] at hck
      have HX := Lib.hid hx
      clear hx
      go_wp2
      go_roundw
      case rel =>
        refine ⟨k + 1, by omega, by go_num, Lib.hid (fun j hj => ?_), Lib.hid (fun j hj hn => ?_), Lib.hid (fun j => ?_), hb.setCell (p := ⟨w.heap.size, k, none⟩) (Nat.le_refl _) _, by simp; omega⟩
        · by_cases e : j = k
          · subst e; rw [HX.out]; exact (TS.out _).1
          · rw [(TS.out _).2 _ e]; exact H1.out j (by omega)
        · rw [(TS.out _).2 _ (by omega)]; exact H2.out j (by omega) hn
        · rw [World.frozen?_setCell]; exact H3.out j
      case measure => simp [intOf]; omega
    · obtain rfl : k = xs.length := by omega
      have hge : ¬ (xs.length : Int) < (xs.length : Int) := by omega
      go_wp2
      go_ret
      exact ⟨rfl, .inr ⟨_, _, rfl, Nat.le_refl _, by omega, Nat.le_refl _, H1.out, H3.out⟩, hb⟩
theorem toInts_any (a : Option Addr) (c : Nat) (xs : List Int) (w : World) (hr : IntRow w (.slice a xs.length c) xs) (hn : xs.length ≤ 2000000) :
    Calls Try.prog 27 #[.slice a xs.length c] w fun e w' => ∃ v, e = .returned v ∧ MineI w' w.heap.size w'.heap.size v xs ∧ Below w.heap.size w w' :=
  (toInts_at a c xs w hr hn).mono fun _ _ ⟨h1, h2, h3⟩ => ⟨_, h1, h2, h3⟩
set_option maxHeartbeats 800000 in
theorem eqInts_same (va vb : Value) (xs : List Int) (w : World) (ha : IntRow w va xs) (hb : IntRow w vb xs) (hn : xs.length ≤ 2000000) :
    Calls Try.prog 30 #[va, vb] w fun e w' => e = .returned (.bool true) ∧ Below w.heap.size w w' := by
  obtain ⟨a, c, rfl, ha⟩ := ha
  obtain ⟨a', c', rfl, hb⟩ := hb
  go_enter Try.func30, Try.ntmps30
  go_wp2
  go_loopw [5] (fun i wr => ∃ k : Nat, k ≤ xs.length ∧ i = .int .i64 k ∧ Below w.heap.size w wr) (fun i _ => xs.length - (intOf i).toNat)
  case atStart => exact ⟨0, Nat.zero_le _, rfl, Below.refl _ _⟩
  case round =>
    obtain ⟨k, hk, rfl, hw⟩ := hrel
    by_cases hlt : k < xs.length
    · rcases ha with h | ⟨g, off, rfl, hg, hc⟩
      · subst h; simp at hlt
      rcases hb with h | ⟨g', off', rfl, hg', hc'⟩
      · subst h; simp at hlt
      have h1 := hc k hlt
      have h2 := hc' k hlt
      have hlt' : (k : Int) < (xs.length : Int) := by omega
      rw [← hw.cell (p := ⟨g, off + k, none⟩) hg] at h1
      rw [← hw.cell (p := ⟨g', off' + k, none⟩) hg'] at h2
      clear hc hc'
      generalize xs.getD k 0 = x at h1 h2
      have HW := Lib.hid hw
      clear hw
      go_wp2
      first
        | (go_quiet (fail)
           go_wp2
           go_roundw
           case rel => exact ⟨k + 1, by omega, by go_num, HW.out.trans ⟨rfl, rfl, rfl, Nat.le_refl _, fun _ _ => rfl⟩⟩
           case measure => simp [intOf]; omega)
        | (go_roundw
           case rel => exact ⟨k + 1, by omega, by go_num, HW.out⟩
           case measure => simp [intOf]; omega)
    · have hge : ¬ (k : Int) < (xs.length : Int) := by omega
      go_wp2
      go_ret
      exact ⟨rfl, hw⟩
theorem markI_nil (a : Option Addr) (c m : Nat) (w : World) : Calls Try.prog 44 #[.slice a 0 c, .int .i64 m] w fun e w' => e = .returned (.int .i64 m) ∧ w = w' := by
  go_enter Try.func44, Try.ntmps44
  go_wp2
  refine wp_loop_rounds 1 ?_
  rw [rounds_succ]
  go_wp2
  go_ret
  exact ⟨rfl, rfl⟩
theorem heldI_nil (a : Option Addr) (c m : Nat) (w : World) : Calls Try.prog 45 #[.slice a 0 c, .int .i64 m] w fun e w' => e = .returned (.int .i64 m) ∧ w = w' := by
  go_enter Try.func45, Try.ntmps45
  go_wp2
  refine wp_loop_rounds 1 ?_
  rw [rounds_succ]
  go_wp2
  go_ret
  exact ⟨rfl, rfl⟩
set_option maxHeartbeats 800000 in
theorem markI_any (g n c m : Nat) (w : World) (hn : n ≤ 2000000) (hm : m ≤ 40000000)
    (hc : ∀ j, j < n → ∃ z, w.cell? ⟨g, j, none⟩ = some (.int .i64 z)) (hf : ∀ j, w.frozen? ⟨g, j, none⟩ = false) :
    Calls Try.prog 44 #[.slice (some ⟨g, 0, none⟩) n c, .int .i64 m] w fun e w' => e = .returned (.int .i64 (m + n : Nat)) ∧ Only g w w' ∧ ∀ j, j < n → w'.cell? ⟨g, j, none⟩ = some (.int .i64 (m + j : Nat)) := by
  have HC := Lib.hid hc
  have HF := Lib.hid hf
  clear hc hf
  go_enter Try.func44, Try.ntmps44
  go_wp2
  go_loopw [1, 5] (fun x i wr => ∃ k : Nat, k ≤ n ∧ x = .int .i64 (m + k : Nat) ∧ i = .int .i64 k ∧ Hid (∀ j, j < k → wr.cell? ⟨g, j, none⟩ = some (.int .i64 (m + j : Nat))) ∧ Hid (∀ j, k ≤ j → j < n → ∃ z, wr.cell? ⟨g, j, none⟩ = some (.int .i64 z)) ∧ Hid (∀ j, wr.frozen? ⟨g, j, none⟩ = false) ∧ Hid (Only g w wr)) (fun _ i _ => n - (intOf i).toNat)
  case atStart => exact ⟨0, Nat.zero_le _, rfl, rfl, Lib.hid (fun j h => by omega), Lib.hid (fun j _ h => HC.out j h), HF, Lib.hid (Only.refl _ _)⟩
  case round =>
    obtain ⟨k, hk, rfl, rfl, H1, H2, H3, ho⟩ := hrel
    by_cases hlt : k < n
    · obtain ⟨t, c1⟩ := H2.out k (Nat.le_refl _) hlt
      have f1 := H3.out k
      have hlt' : (k : Int) < (n : Int) := by omega
      have TS := Lib.hid (one_set wr g k (.int .i64 ((m : Int) + (k : Int))) c1)
      go_wp2
      go_roundw
      case rel =>
        obtain ⟨t1, t3⟩ := TS.out
        refine ⟨k + 1, by omega, by go_num, by go_num, Lib.hid (fun j hj => ?_), Lib.hid (fun j hj hjn => ?_), Lib.hid (fun j => ?_), Lib.hid (ho.out.trans (only_set _ _ _ _))⟩
        · by_cases e : j = k
          · subst e
            rw [t1, show ((m + j : Nat) : Int) = (m : Int) + (j : Int) by omega]
          · rw [t3 _ e]
            exact H1.out j (by omega)
        · rw [t3 _ (by omega)]
          exact H2.out j (by omega) hjn
        · rw [World.frozen?_setCell]
          exact H3.out j
      case measure => simp [intOf]; omega
    · obtain rfl : k = n := by omega
      have hge : ¬ (k : Int) < (k : Int) := by omega
      go_wp2
      go_ret
      exact ⟨rfl, ho.out, H1.out⟩
set_option maxHeartbeats 800000 in
theorem heldI_any (g n c m : Nat) (w : World) (hn : n ≤ 2000000) (hm : m ≤ 40000000) (hc : ∀ j, j < n → w.cell? ⟨g, j, none⟩ = some (.int .i64 (m + j : Nat))) :
    Calls Try.prog 45 #[.slice (some ⟨g, 0, none⟩) n c, .int .i64 m] w fun e w' => e = .returned (.int .i64 (m + n : Nat)) ∧ w = w' := by
  have HC := Lib.hid hc
  clear hc
  go_enter Try.func45, Try.ntmps45
  go_wp2
  go_loopw [1, 5] (fun x i wr => ∃ k : Nat, k ≤ n ∧ x = .int .i64 (m + k : Nat) ∧ i = .int .i64 k ∧ wr = w) (fun _ i _ => n - (intOf i).toNat)
  case atStart => exact ⟨0, Nat.zero_le _, rfl, rfl, rfl⟩
  case round =>
    obtain ⟨k, hk, rfl, rfl, rfl⟩ := hrel
    by_cases hlt : k < n
    · have c1 := HC.out k hlt
      have hlt' : (k : Int) < (n : Int) := by omega
      rw [show ((m + k : Nat) : Int) = (m : Int) + (k : Int) by omega] at c1
      go_wp2
      go_roundw
      case rel => exact ⟨k + 1, by omega, by go_num, by go_num, trivial⟩
      case measure => simp [intOf]; omega
    · obtain rfl : k = n := by omega
      have hge : ¬ (k : Int) < (k : Int) := by omega
      go_wp2
      go_ret
      exact ⟨rfl, rfl⟩
/-- A slice of a call's own is marked: nothing else turns, and the marks stand in it. -/
theorem markI_mine (B E : Nat) (v : Value) (xs : List Int) (m : Nat) (w : World) (h : MineI w B E v xs) (hn : xs.length ≤ 2000000) (hm : m ≤ 40000000) :
    Calls Try.prog 44 #[v, .int .i64 m] w fun e w' => e = .returned (.int .i64 (m + xs.length : Nat)) ∧ Part B E w w' ∧ HeldI w' B E v xs.length m := by
  rcases h with ⟨rfl, a, c, rfl⟩ | ⟨g, c, rfl, hB, hE, hs, hc, hf⟩
  · refine (markI_nil a c m w).mono ?_
    rintro e w' ⟨rfl, rfl⟩
    exact ⟨rfl, Part.refl _ _ _, .inl ⟨rfl, a, c, rfl⟩⟩
  · refine (markI_any g xs.length c m w hn hm (fun j hj => ⟨_, hc j hj⟩) hf).mono ?_
    rintro e w' ⟨rfl, ho, hh⟩
    exact ⟨rfl, ho.part hB hE, .inr ⟨g, c, rfl, hB, hE, Nat.le_trans hs ho.size, hh⟩⟩
theorem heldI_held (B E : Nat) (v : Value) (n m : Nat) (w : World) (h : HeldI w B E v n m) (hn : n ≤ 2000000) (hm : m ≤ 40000000) :
    Calls Try.prog 45 #[v, .int .i64 m] w fun e w' => e = .returned (.int .i64 (m + n : Nat)) ∧ w = w' := by
  rcases h with ⟨rfl, a, c, rfl⟩ | ⟨g, c, rfl, _, _, _, hc⟩
  · exact heldI_nil a c m w
  · exact heldI_any g n c m w hn hm hc
/-- A row of integers in memory of the call's own. -/
def OwnI (w : World) (B : Nat) (v : Value) (xs : List Int) : Prop := w.ownsRow B 3 1 v xs.length (icells xs)
theorem OwnI.mine {w : World} {B : Nat} {v : Value} {xs : List Int} (h : OwnI w B v xs) : MineI w B w.heap.size v xs := mine_own h
theorem ownI_snoc {w : World} {B k : Nat} {v : Value} {ys : List Int} {x : Int} (h : w.ownsRow B 3 1 v (k + 1) (icells ys ++ [.int .i64 x])) (hk : ys.length = k) : OwnI w B v (ys ++ [x]) := by
  unfold OwnI
  rw [List.length_append, hk]
  unfold icells at *
  rw [List.map_append]
  exact h
theorem ownI_lit1 (w : World) (x : Int) (B : Nat) (hB : B ≤ w.heap.size) : OwnI (w.alloc (.cells #[.int .i64 x] 3)) B (.slice (some ⟨w.heap.size, 0, none⟩) 1 1) [x] := World.ownsRow_lit w #[.int .i64 x] 1 hB (by decide) rfl
theorem ownI_lit0 (w : World) (B : Nat) (hB : B ≤ w.heap.size) : OwnI (w.alloc (.cells #[] 3)) B (.slice (some ⟨w.heap.size, 0, none⟩) 0 0) [] := World.ownsRow_lit w #[] 0 hB (by decide) rfl
theorem ownI_nil (w : World) (B : Nat) : OwnI w B (.slice none 0 0) [] := World.ownsRow_nil _ _ _ _
/-- The number of elements of a slice. -/
def lenOf : Value → Nat
  | .slice _ l _ => l
  | _ => 0
end Go.Proofs.Ytcfbnadefdcjaaa
