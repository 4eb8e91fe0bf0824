/- The walk of the law on JoinStrings. -/
import Derived.Test.YtlmnkkodfnlbmaaJoin
import Derived.ProofKit
namespace Go.Proofs.Ytlmnkkodfnlbmaa
open Go.RowKit
theorem make_strs (n : Nat) (hn : n ≤ 2000000) (u : World) :
    (Instr.makeSlice 26 (.int .i64 (n : Int)) (.int .i64 (n : Int))).run Try.prog u = .ok (.slice (some ⟨u.heap.size, 0, none⟩) n n) (u.alloc (.cells (madeCells #[.string ByteArray.empty] n) 9)) := by
  obtain ⟨i0, hi, hz0, hz1, hz2⟩ := info_parts infoStr
  have h := run_make (P := Try.prog) u 26 9 i0 (.string ByteArray.empty) Try.underlying26 hi hz0 .i64 .i64 (n : Int) (n : Int) (by omega) (Int.le_refl _) (by rw [hz2]; omega) (by omega)
  simpa [hz1, Value.cells] using h
set_option maxRecDepth 100000 in
set_option maxHeartbeats 800000 in
theorem toS_any (a : Option Addr) (c : Nat) (xs : List ByteArray) (w : World) (hr : StrRow w (.slice a xs.length c) xs) (hn : xs.length ≤ 2000000) :
    Calls Try.prog 22 #[.slice a xs.length c] w fun e w' => e = .returned (.slice (some ⟨w.heap.size, 0, none⟩) xs.length xs.length) ∧ Texts w' w.heap.size 0 xs ∧ Below w.heap.size w w' := by
  have HM := make_strs xs.length hn
  have hcell0 : ∀ j, j < xs.length → (w.alloc (.cells (madeCells #[.string ByteArray.empty] xs.length) 9)).cell? ⟨w.heap.size, j, none⟩ = some (.string ByteArray.empty) := fun j hj => by
    rw [World.cell?_alloc_at _ _ _ _ rfl, ← Array.getElem?_toList, toList_madeCells_one]; simp [hj]
  have hfree0 : ∀ j, (w.alloc (.cells (madeCells #[.string ByteArray.empty] xs.length) 9)).frozen? ⟨w.heap.size, j, none⟩ = false := fun j => World.frozen?_alloc_at _ _ _ _ rfl
  have C0 := Lib.hid hcell0
  have F0 := Lib.hid hfree0
  have HR := Lib.hid hr
  clear hcell0 hfree0 hr
  go_enter Try.func22, Try.ntmps22
  go_wp2
  go_loopw [4] (fun i wr => ∃ k : Nat, k ≤ xs.length ∧ i = .int .i64 k ∧ Hid (∀ j, j < k → wr.cell? ⟨w.heap.size, j, none⟩ = some (.string (xs.getD j ByteArray.empty))) ∧ Hid (∀ j, k ≤ j → j < xs.length → wr.cell? ⟨w.heap.size, j, none⟩ = some (.string ByteArray.empty)) ∧ Hid (∀ j, wr.frozen? ⟨w.heap.size, j, none⟩ = false) ∧ Below w.heap.size w wr ∧ w.heap.size + 1 ≤ wr.heap.size) (fun i _ => xs.length - (intOf i).toNat)
  case atStart => exact ⟨0, Nat.zero_le _, rfl, Lib.hid (fun j h => by omega), Lib.hid (fun j _ h => C0.out j h), F0, (Below.refl _ _).alloc (Nat.le_refl _) _, by simp⟩
  case round =>
    obtain ⟨k, hk, rfl, H1, H2, H3, hb, hs1⟩ := hrel
    clear HM
    by_cases hlt : k < xs.length
    · obtain ⟨a', c', he, hrr⟩ := HR.out
      cases he
      rcases hrr with h | ⟨g, off, rfl, hg, hc⟩
      · subst h; simp at hlt
      have hck : wr.cell? ⟨g, off + k, none⟩ = some (.string (xs.getD k ByteArray.empty)) := by rw [hb.cell (p := ⟨g, off + k, none⟩) hg]; exact hc k hlt
      have hcw := H2.out k (Nat.le_refl _) hlt
      have hfw := H3.out k
      have hlt' : (k : Int) < (xs.length : Int) := by omega
      have hne : g ≠ w.heap.size := by omega
      have HS := Lib.hid (show ∀ v, (wr.setCell ⟨w.heap.size, k, none⟩ v).cell? ⟨w.heap.size, k, none⟩ = some v from fun v => World.cell?_setCell_same' _ _ _ (by rw [hcw]; rfl))
      have HO := Lib.hid (show ∀ v j, j ≠ k → (wr.setCell ⟨w.heap.size, k, none⟩ v).cell? ⟨w.heap.size, j, none⟩ = wr.cell? ⟨w.heap.size, j, none⟩ from fun v j hj => World.cell?_setCell_other _ _ _ _ (fun hh => hj (congrArg Addr.off hh).symm))
      clear hc
      obtain ⟨x, hx⟩ : ∃ x, xs.getD k ByteArray.empty = x := ⟨_, rfl⟩
      rw [hx] at hck
      have HX := Lib.hid hx
      clear hx
      go_wp2
      go_roundw
      case rel =>
        refine ⟨k + 1, by omega, by go_num, Lib.hid (fun j hj => ?_), Lib.hid (fun j hj hn => ?_), Lib.hid (fun j => ?_), hb.setCell (p := ⟨w.heap.size, k, none⟩) (Nat.le_refl _) _, by simp; omega⟩
        · by_cases e : j = k
          · subst e; rw [HX.out]; exact HS.out _
          · rw [HO.out _ j e]; exact H1.out j (by omega)
        · rw [HO.out _ j (by omega)]; exact H2.out j (by omega) hn
        · rw [World.frozen?_setCell]; exact H3.out j
      case measure => simp [intOf]; omega
    · obtain rfl : k = xs.length := by omega
      go_wp2
      go_ret
      exact ⟨rfl, ⟨by omega, fun j hj => by rw [Nat.zero_add]; exact H1.out j hj⟩, hb⟩
/-- What the walk is told of a list of texts that came in. -/
def IsStrs (w : World) (a : Option Addr) (len cap : Nat) (ss : List ByteArray) : Prop :=
  (a = none ∧ len = 0 ∧ cap = 0 ∧ ss = []) ∨
  ∃ x, a = some x ∧ len ≤ cap ∧ cap ≤ maxLen ∧ ss.length = cap ∧ (∀ i, i < ss.length → w.cell? (x.add i) = some (.string (ss.getD i ByteArray.empty))) ∧ ∀ s ∈ ss, s.size ≤ maxLen
theorem cell_block {w : World} {a : Addr} {v : Value} (h : w.cell? a = some v) : a.block < w.heap.size := by
  rcases Nat.lt_or_ge a.block w.heap.size with h' | h'
  · exact h'
  · simp [World.cell?, Array.getElem?_eq_none h'] at h
theorem strs_row {w : World} {a : Option Addr} {len cap : Nat} {ss : List ByteArray} (h : IsStrs w a len cap ss) :
    ∃ xs : List ByteArray, len = xs.length ∧ StrRow w (.slice a xs.length cap) xs ∧ (∀ k, k < xs.length → (xs.getD k ByteArray.empty).size ≤ maxLen) ∧ xs.length ≤ maxLen := by
  rcases h with ⟨rfl, rfl, rfl, rfl⟩ | ⟨⟨b, off, spot⟩, rfl, hl, hm, hz, hc, hw⟩
  · exact ⟨[], rfl, ⟨none, 0, rfl, .inl rfl⟩, fun k h => by simp at h, by simp⟩
  · refine ⟨ss.take len, by simp; omega, ?_, fun k hk => ?_, by simp; omega⟩
    · refine ⟨_, cap, rfl, ?_⟩
      by_cases h0 : len = 0
      · left; rw [h0]; rfl
      · right
        have hc0 := hc 0 (by omega)
        have hs : spot = none := by simpa [Addr.add] using World.cell?_spot hc0
        subst hs
        rw [Go.WideShapes.add_plain] at hc0
        refine ⟨b, off, rfl, cell_block hc0, fun j hj => ?_⟩
        have hj2 : j < len := by simp at hj; omega
        have := hc j (by omega)
        rw [Go.WideShapes.add_plain] at this
        rw [this]
        simp [List.getD, hj2]
    · have hk2 : k < len := by simp at hk; omega
      have hk3 : k < ss.length := by omega
      have e : (ss.take len).getD k ByteArray.empty = ss[k] := by simp [List.getD, hk2, List.getElem?_eq_getElem hk3]
      rw [e]
      exact hw _ (List.getElem_mem hk3)
/-- What szStringS ends in. -/
def SzEnd (xs : List ByteArray) (w : World) (e : Ending) (w' : World) : Prop :=
  ∃ z : Int, e = .returned (.int .i64 z) ∧ w = w' ∧ (z < 0 ∨ (0 ≤ z ∧ xs.length ≤ 1048576 ∧ ∀ k, k < xs.length → (xs.getD k ByteArray.empty).size ≤ 1048576))
set_option maxRecDepth 100000 in
set_option maxHeartbeats 800000 in
theorem sz_any (a : Option Addr) (c : Nat) (xs : List ByteArray) (w : World) (hr : StrRow w (.slice a xs.length c) xs) (hsz : ∀ k, k < xs.length → (xs.getD k ByteArray.empty).size ≤ maxLen) (hn : xs.length ≤ maxLen) :
    Calls Try.prog 21 #[.slice a xs.length c, .int .i64 1048576] w (SzEnd xs w) := by
  unfold maxLen at hn
  have HZ := Lib.hid hsz
  have HR := Lib.hid hr
  clear hsz hr
  by_cases hbig : 1048576 < xs.length
  · go_enter Try.func21, Try.ntmps21
    go_wp2
    go_ret
    exact ⟨-1, rfl, rfl, .inl (by omega)⟩
  · go_enter Try.func21, Try.ntmps21
    go_wp2
    go_loop [1, 5] (fun x i => ∃ (k : Nat) (z : Int), k ≤ xs.length ∧ x = .int .i64 z ∧ i = .int .i64 k ∧ 0 ≤ z ∧ z ≤ 1048576 ∧ Hid (∀ j, j < k → (xs.getD j ByteArray.empty).size ≤ 1048576)) (fun _ i => xs.length - (intOf i).toNat)
    case atStart => exact ⟨0, _, Nat.zero_le _, rfl, rfl, by omega, by omega, Lib.hid (fun j h => by omega)⟩
    case round =>
      obtain ⟨k, z, hk, rfl, rfl, z0, z1, HF⟩ := hrel
      by_cases hlt : k < xs.length
      · obtain ⟨a', c', he, hrr⟩ := HR.out
        cases he
        rcases hrr with h | ⟨g, off, rfl, hg, hc⟩
        · subst h; simp at hlt
        have hck := hc k hlt
        have hxz := HZ.out k hlt
        unfold maxLen at hxz
        have hlt' : (k : Int) < (xs.length : Int) := by omega
        have HF2 := Lib.hid (show (xs.getD k ByteArray.empty).size ≤ 1048576 → ∀ j, j < k + 1 → (xs.getD j ByteArray.empty).size ≤ 1048576 from fun h j hj => by
          by_cases e : j = k
          · subst e; exact h
          · exact HF.out j (by omega))
        clear hc
        generalize xs.getD k ByteArray.empty = x at *
        by_cases hneg : z < (x.size : Int)
        · go_wp2
          go_ret
          exact ⟨-1, rfl, rfl, .inl (by omega)⟩
        · go_wp2
          go_round
          case rel => exact ⟨k + 1, z - x.size, by omega, rfl, by go_num, by omega, by omega, Lib.hid (HF2.out (by omega))⟩
          case measure => simp [intOf]; omega
      · obtain rfl : k = xs.length := by omega
        go_wp2
        go_ret
        exact ⟨z, rfl, rfl, .inr ⟨z0, by omega, HF.out⟩⟩
theorem lo_tr3 {a b c : World} (h : Below a.heap.size a b) (k : Below b.heap.size b c) : Below a.heap.size a c := h.trans (k.mono h.size)
theorem texts_row {w : World} {g : Nat} {xs : List ByteArray} (h : Texts w g 0 xs) (c : Nat) : StrRow w (.slice (some ⟨g, 0, none⟩) xs.length c) xs := h.row c
set_option maxRecDepth 100000 in
set_option maxHeartbeats 1600000 in
theorem exJoin_walk (a : Option Addr) (len cap : Nat) (ss : List ByteArray) (t : ByteArray) (w : World) (h : IsStrs w a len cap ss) (ht : t.size ≤ maxLen) (hm : Len w) :
    Calls Try.prog 5 #[.slice a len cap, .string t] w fun e w' => e = .returned (.bool true) ∧ Below w.heap.size w w' := by
  obtain ⟨xs, rfl, hr, hz, hn⟩ := strs_row h
  unfold maxLen at ht
  clear h
  by_cases hbig : 1048576 < t.size
  · go_enter Try.func5, Try.ntmps5
    go_wp2
    go_ret
    exact ⟨rfl, Below.refl _ _⟩
  · have SZ := Lib.hid (sz_any a cap xs w hr hz hn)
    have HR := Lib.hid hr
    clear hr hz hn
    go_enter Try.func5, Try.ntmps5
    go_wp2_with fail
    refine SZ.out.mono ?_
    rintro e w' ⟨z, rfl, rfl, hd⟩
    clear SZ
    rcases hd with hneg | ⟨z0, hn, hz⟩
    · go_wp2
      go_ret
      exact ⟨rfl, Below.refl _ _⟩
    · have HZ := Lib.hid hz
      clear hz
      go_wp2_with fail
      refine (toS_any a cap xs w HR.out (by omega)).mono ?_
      rintro e w1 ⟨rfl, t1, l1⟩
      by_cases hsep : ((t.size : Int) != 1) = true ∨ xs.length = 0
      · have SP := Lib.hid (bad_sep_spec (some ⟨w.heap.size, 0, none⟩) xs.length xs.length t hsep)
        have IM := Lib.hid (fun g => bad_sep_impl (some ⟨g, 0, none⟩) xs.length xs.length t hsep)
        clear hsep
        go_wp2_with fail
        refine (SP.out w1).mono ?_
        rintro e w' ⟨rfl, rfl⟩
        go_wp2_with fail
        refine (toS_any a cap xs w1 (HR.out.lo l1) (by omega)).mono ?_
        rintro e w2 ⟨rfl, t2, l2⟩
        go_wp2_with fail
        refine (IM.out _ w2).mono ?_
        rintro e w' ⟨rfl, rfl⟩
        go_wp2_with fail
        refine (toS_any a cap xs w2 ((HR.out.lo l1).lo l2) (by omega)).mono ?_
        rintro e w3 ⟨rfl, t3, l3⟩
        go_wp2_with fail
        refine (eqS_same _ _ xs w3 ((texts_row t2 _).lo l3) (texts_row t3 _) (by omega)).mono ?_
        rintro e w4 ⟨rfl, l4⟩
        go_wp2
        go_ret
        exact ⟨rfl, lo_tr3 (lo_tr3 (lo_tr3 l1 l2) l3) l4⟩
      · have hs1 : t.size = 1 := by
          have : ¬ ((t.size : Int) != 1) = true := fun x => hsep (.inl x)
          simp at this; omega
        have hs2 : 0 < xs.length := by
          have : ¬ xs.length = 0 := fun x => hsep (.inr x)
          omega
        have p0 : 0 < t.size := by omega
        have p1 : t.size ≤ 1 := by omega
        have SP := Lib.hid (fun g w h => specJoin_any g 0 xs.length xs t w h hs2 (by omega) p0 p1 HZ.out)
        have IM := Lib.hid (fun g w h hm => implJoin_any g 0 xs.length xs t w h hs2 (by omega) (Nat.le_refl _) p0 p1 HZ.out hm)
        clear hsep
        go_wp2_with fail
        refine (SP.out _ w1 t1).mono ?_
        rintro e w2 ⟨l2, hJ | hJ⟩
        · obtain ⟨HJ, rfl⟩ := hJ
          go_wp2_with fail
          refine (toS_any a cap xs w2 ((HR.out.lo l1).lo l2) (by omega)).mono ?_
          rintro e w3 ⟨rfl, t3, l3⟩
          go_wp2_with fail
          refine (IM.out _ w3 t3 (((hm.lo l1).lo l2).lo l3)).mono ?_
          rintro e w4 ⟨l4, hI | hI⟩
          · obtain ⟨_, rfl⟩ := hI
            go_wp2_with fail
            refine (toS_any a cap xs w4 ((((HR.out.lo l1).lo l2).lo l3).lo l4) (by omega)).mono ?_
            rintro e w5 ⟨rfl, t5, l5⟩
            go_wp2_with fail
            refine (eqS_same _ _ xs w5 (((texts_row t3 _).lo l4).lo l5) (texts_row t5 _) (by omega)).mono ?_
            rintro e w6 ⟨rfl, l6⟩
            go_wp2
            go_ret
            exact ⟨rfl, lo_tr3 (lo_tr3 (lo_tr3 (lo_tr3 (lo_tr3 l1 l2) l3) l4) l5) l6⟩
          · exact absurd HJ hI.1
        · obtain ⟨HJ, rfl⟩ := hJ
          go_wp2_with fail
          refine (toS_any a cap xs w2 ((HR.out.lo l1).lo l2) (by omega)).mono ?_
          rintro e w3 ⟨rfl, t3, l3⟩
          go_wp2_with fail
          refine (IM.out _ w3 t3 (((hm.lo l1).lo l2).lo l3)).mono ?_
          rintro e w4 ⟨l4, hI | hI⟩
          · exact absurd hI.1 HJ
          · obtain ⟨_, rfl⟩ := hI
            go_wp2_with fail
            refine (toS_any a cap xs w4 ((((HR.out.lo l1).lo l2).lo l3).lo l4) (by omega)).mono ?_
            rintro e w5 ⟨rfl, t5, l5⟩
            go_wp2_with fail
            refine (eqS_same _ _ xs w5 (((texts_row t3 _).lo l4).lo l5) (texts_row t5 _) (by omega)).mono ?_
            rintro e w6 ⟨rfl, l6⟩
            go_wp2
            go_ret
            exact ⟨rfl, lo_tr3 (lo_tr3 (lo_tr3 (lo_tr3 (lo_tr3 l1 l2) l3) l4) l5) l6⟩
end Go.Proofs.Ytlmnkkodfnlbmaa
