/- The contracts of the law's own functions on slices of slices of integers. -/
import Derived.Test.YtgjchkcjlmklbaaTabs
import Derived.Test.YtgjchkcjlmklbaaIntLaw
import Derived.Deep.RegionHeld3
namespace Go.Proofs.Ytgjchkcjlmklbaa
open Go.RowKit
theorem lo_tab {a b c : World} (h : Below a.heap.size a b) (k : Below b.heap.size b c) : Below a.heap.size a c := h.trans (k.mono h.size)
def SzI (n : Nat) (z : Int) (w : World) (e : Ending) (w' : World) : Prop := ∃ y : Int, e = .returned (.int .i64 y) ∧ w = w' ∧ (y < 0 ∨ (0 ≤ y ∧ y = z - n))
def SzT (xss : List (List Int)) (w : World) (e : Ending) (w' : World) : Prop := ∃ y : Int, e = .returned (.int .i64 y) ∧ w = w' ∧ (y < 0 ∨ (0 ≤ y ∧ SmallT xss))
theorem infoIntS : (Try.prog.info? 22).map (fun i => (i.zero, i.size, i.bytes)) = some (some (.slice none 0 0), 1, 24) := by kernel_rfl
theorem make_tab (n : Nat) (hn : n ≤ 2000000) (u : World) :
    (Instr.makeSlice 47 (.int .i64 (n : Int)) (.int .i64 (n : Int))).run Try.prog u = .ok (.slice (some ⟨u.heap.size, 0, none⟩) n n) (u.alloc (.cells (madeCells #[.slice none 0 0] n) 22)) := by
  obtain ⟨i0, hi, hz0, hz1, hz2⟩ := info_parts infoIntS
  have h := run_make (P := Try.prog) u 47 22 i0 (.slice none 0 0) Try.underlying47 hi hz0 .i64 .i64 (n : Int) (n : Int) (by omega) (Int.le_refl _) (by rw [hz2]; omega) (by omega)
  simpa [hz1, Value.cells] using h
theorem made_tab (m j : Nat) (h : j < m) : (madeCells #[.slice none 0 0] m)[j]? = some (.slice none 0 0) := by
  rw [← Array.getElem?_toList, toList_madeCells_one]; simp [h]
/-- The first k rows stand in block g and behind it, up to block hi. -/
def RowsT (w : World) (g hi k : Nat) (xss : List (List Int)) : Prop :=
  ∃ (u : Nat → Value) (b : Nat → Nat), g < b 0 ∧ b k = hi ∧ ∀ j, j < k → b j ≤ b (j + 1) ∧ w.cell? ⟨g, j, none⟩ = some (u j) ∧ MineI w (b j) (b (j + 1)) (u j) (xss.getD j [])
theorem RowsT.next {w w1 w2 : World} {g k n : Nat} {xss : List (List Int)} {v : Value} (h : RowsT w g w.heap.size k xss) (hg : g < w.heap.size) (hk : k < n) (l : Below w.heap.size w w1) (m : MineI w1 w.heap.size w1.heap.size v (xss.getD k []))
    {y : Value} (hy : w1.cell? ⟨g, k, none⟩ = some y) (e : w2 = w1.setCell ⟨g, k, none⟩ v) : RowsT w2 g w2.heap.size (k + 1) xss := by
  obtain ⟨u, b, b0, bk, hr⟩ := h
  have hs : w2.heap.size = w1.heap.size := by rw [e]; simp [World.setCell]
  have o := one_set w1 g k v hy
  have hl := l.size
  have p : Part g (g + 1) w1 w2 := by rw [e]; exact (only_set w1 g k v).part (Nat.le_refl _) (by omega)
  have hm := mono_b (fun j hj => (hr j hj).1)
  refine ⟨fun j => if j = k then v else u j, fun j => if j ≤ k then b j else w1.heap.size, by simp only [Nat.zero_le, if_true]; exact b0, by simp only [show ¬ (k + 1 ≤ k) by omega, if_false, hs], fun j hj => ?_⟩
  by_cases ej : j = k
  · subst ej
    simp only [Nat.le_refl, if_true, show ¬ (j + 1 ≤ j) by omega, if_false, bk]
    exact ⟨hl, by rw [e]; exact o.1, m.part p (by omega)⟩
  · have hjk : j < k := by omega
    obtain ⟨r1, r2, r3⟩ := hr j hjk
    have m0 := hm 0 j (Nat.zero_le _) (by omega)
    simp only [show j ≤ k by omega, show j + 1 ≤ k by omega, if_true, if_neg ej]
    exact ⟨r1, by rw [e, o.2 j ej, l.cell (p := ⟨g, j, none⟩) hg]; exact r2, (r3.lo l).part p (by omega)⟩
set_option maxRecDepth 100000 in
set_option maxHeartbeats 800000 in
theorem eqTab_same (va vb : Value) (xss : List (List Int)) (w : World) (ha : TabRow w va xss) (hb : TabRow w vb xss) (hn : SmallT xss) :
    Calls Try.prog 50 #[va, vb] w fun e w' => e = .returned (.bool true) ∧ Below w.heap.size w w' := by
  obtain ⟨a, c, rfl, ha⟩ := ha
  obtain ⟨a', c', rfl, hb⟩ := hb
  have hn1 := hn.1
  have HN := Lib.hid hn
  clear hn
  go_enter Try.func50, Try.ntmps50
  go_wp2
  go_loopw [5] (fun i wr => ∃ k : Nat, k ≤ xss.length ∧ i = .int .i64 k ∧ Below w.heap.size w wr) (fun i _ => xss.length - (intOf i).toNat)
  case atStart => exact ⟨0, Nat.zero_le _, rfl, Below.refl _ _⟩
  case round =>
    obtain ⟨k, hk, rfl, hw⟩ := hrel
    by_cases hlt : k < xss.length
    · rcases ha with h | ⟨g, off, rfl, hg, hc⟩
      · subst h; simp at hlt
      rcases hb with h | ⟨g', off', rfl, hg', hc'⟩
      · subst h; simp at hlt
      obtain ⟨u, h1, hu⟩ := hc k hlt
      obtain ⟨u', h2, hu'⟩ := hc' k hlt
      have hlt' : (k : Int) < (xss.length : Int) := by omega
      rw [← hw.cell (p := ⟨g, off + k, none⟩) hg] at h1
      rw [← hw.cell (p := ⟨g', off' + k, none⟩) hg'] at h2
      have hsm := cntT_each xss k hlt
      have hb2 := HN.out.2
      have hgr : g < wr.heap.size := Nat.lt_of_lt_of_le hg hw.size
      have hgr' : g' < wr.heap.size := Nat.lt_of_lt_of_le hg' hw.size
      have E := Lib.hid (fun w1 (l : Below w.heap.size w w1) => eqInts_same u u' (xss.getD k []) w1 (hu.lo l) (hu'.lo l) (by omega))
      obtain ⟨ua, uc, rfl, _⟩ := hu
      obtain ⟨ua', uc', rfl, _⟩ := hu'
      have HW := Lib.hid hw
      clear hc hc' hsm hb2
      generalize (xss.getD k []).length = n at h1 h2 E
      have hw2 : Below w.heap.size w wr.drew := HW.out.drew
      go_wp2_with fail
      go_region_held3 (fun w' => w'.cell? ⟨g, off + k, none⟩ = some (.slice ua n uc) ∧ w'.cell? ⟨g', off' + k, none⟩ = some (.slice ua' n uc')) (first | exact ⟨(hl.cell (p := ⟨g, off + k, none⟩) hgr).trans h1, (hl.cell (p := ⟨g', off' + k, none⟩) hgr').trans h2⟩ | go_keep)
        (first | (go_at_call 28; refine (E.out _ hw2).mono ?_; rintro e w1 ⟨rfl, hl⟩))
      go_wp2
      go_roundw
      case rel => exact ⟨k + 1, by omega, by go_num, (HW.out.drew).trans (hl.mono HW.out.size)⟩
      case measure => simp [intOf]; omega
    · have hge : ¬ (k : Int) < (xss.length : Int) := by omega
      go_wp2
      go_ret
      exact ⟨rfl, hw⟩
theorem markT_nil (a : Option Addr) (c m : Nat) (w : World) : Calls Try.prog 51 #[.slice a 0 c, .int .i64 m] w fun e w' => e = .returned (.int .i64 m) ∧ w = w' := by
  go_enter Try.func51, Try.ntmps51
  go_wp2
  refine wp_loop_rounds 1 ?_
  rw [rounds_succ]
  go_wp2
  go_ret
  exact ⟨rfl, rfl⟩
/-- What stands in the rows while they are marked: the first k marked, the others as they were. -/
def HalfT (w : World) (g k m : Nat) (u : Nat → Value) (b : Nat → Nat) (xss : List (List Int)) : Prop :=
  b xss.length ≤ w.heap.size ∧ ∀ j, j < xss.length → b j ≤ b (j + 1) ∧ w.cell? ⟨g, j, none⟩ = some (u j) ∧
    if j < k then HeldI w (b j) (b (j + 1)) (u j) (xss.getD j []).length (m + cntT (xss.take j)) else MineI w (b j) (b (j + 1)) (u j) (xss.getD j [])
theorem HalfT.next {w w' : World} {g k m : Nat} {u : Nat → Value} {b : Nat → Nat} {xss : List (List Int)} (h : HalfT w g k m u b xss) (hk : k < xss.length) (hg : g < b 0) (p : Part (b k) (b (k + 1)) w w')
    (hh : HeldI w' (b k) (b (k + 1)) (u k) (xss.getD k []).length (m + cntT (xss.take k))) : HalfT w' g (k + 1) m u b xss := by
  obtain ⟨hs, hr⟩ := h
  have hm := mono_b (fun j hj => (hr j hj).1)
  refine ⟨Nat.le_trans hs p.size, fun j hj => ?_⟩
  obtain ⟨r1, r2, r3⟩ := hr j hj
  have m0 := hm 0 k (Nat.zero_le _) (by omega)
  have m1 := hm (k + 1) xss.length (by omega) (Nat.le_refl _)
  have m2 := hm 0 xss.length (Nat.zero_le _) (Nat.le_refl _)
  have m3 := (hr k hk).1
  refine ⟨r1, by rw [p.cell (p := ⟨g, j, none⟩) (by simp only; omega) (by simp only; omega)]; exact r2, ?_⟩
  by_cases ej : j = k
  · subst ej
    rw [if_pos (by omega)]
    exact hh
  · by_cases hjk : j < k
    · have m4 := hm (j + 1) k (by omega) (by omega)
      rw [if_pos hjk] at r3
      rw [if_pos (by omega)]
      exact r3.part p (by omega)
    · have m4 := hm (k + 1) j (by omega) (by omega)
      rw [if_neg hjk] at r3
      rw [if_neg (by omega)]
      exact r3.part p (by omega)
set_option maxRecDepth 100000 in
set_option maxHeartbeats 1600000 in
theorem markT_any (B E g c m : Nat) (u : Nat → Value) (b : Nat → Nat) (xss : List (List Int)) (w : World) (hb : SmallT xss) (hm : m ≤ 4000000) (h0 : B ≤ g) (h1 : g < b 0) (h2 : b xss.length ≤ E) (h3 : E ≤ w.heap.size)
    (hr : ∀ j, j < xss.length → b j ≤ b (j + 1) ∧ w.cell? ⟨g, j, none⟩ = some (u j) ∧ MineI w (b j) (b (j + 1)) (u j) (xss.getD j [])) :
    Calls Try.prog 51 #[.slice (some ⟨g, 0, none⟩) xss.length c, .int .i64 m] w fun e w' => e = .returned (.int .i64 (m + cntT xss : Nat)) ∧ Part B E w w' ∧ HalfT w' g xss.length m u b xss := by
  have hn := hb.1
  have hct := hb.2
  have hmo := Lib.hid (mono_b (fun j hj => (hr j hj).1))
  have H0 : HalfT w g 0 m u b xss := ⟨Nat.le_trans h2 h3, fun j hj => ⟨(hr j hj).1, (hr j hj).2.1, by rw [if_neg (by omega)]; exact (hr j hj).2.2⟩⟩
  have HH0 := Lib.hid H0
  obtain ⟨T, hT⟩ : ∃ T : Nat, m + cntT xss = T := ⟨_, rfl⟩
  rw [hT]
  have HTT := Lib.hid hT
  clear H0 hr hb hT
  go_enter Try.func51, Try.ntmps51
  go_wp2
  go_loopw [1, 5] (fun x i wr => ∃ (k : Nat) (y : Int), k ≤ xss.length ∧ x = .int .i64 y ∧ i = .int .i64 k ∧ Hid (y = (m + cntT (xss.take k) : Nat)) ∧ Hid (HalfT wr g k m u b xss) ∧ Hid (Part B E w wr)) (fun _ i _ => xss.length - (intOf i).toNat)
  case atStart => exact ⟨0, m, Nat.zero_le _, rfl, rfl, Lib.hid (by simp [cntT]), HH0, Lib.hid (Part.refl _ _ _)⟩
  case round =>
    obtain ⟨k, y, hk, rfl, rfl, HY, HH, HP⟩ := hrel
    clear HH0
    by_cases hlt : k < xss.length
    · have hlt' : (k : Int) < (xss.length : Int) := by omega
      have hx := HH.out.2 k hlt
      obtain ⟨x1, x2, x3⟩ := hx
      rw [if_neg (by omega)] at x3
      have hcc := cntT_each xss k hlt
      have m0 := hmo.out 0 k (Nat.zero_le _) (by omega)
      have m1 := hmo.out (k + 1) xss.length (by omega) (Nat.le_refl _)
      have M := Lib.hid (markI_mine (b k) (b (k + 1)) (u k) (xss.getD k []) (m + cntT (xss.take k)) wr x3 (by omega) (by omega))
      rw [← HY.out] at M
      obtain ⟨z, hz⟩ : ∃ z : Int, z = (m + cntT (xss.take k) + (xss.getD k []).length : Nat) := ⟨_, rfl⟩
      rw [← hz] at M
      have HZ := Lib.hid hz
      have hv : ∃ p q r, u k = .slice p q r := by
        rcases x3 with ⟨_, p, q, e⟩ | ⟨p, q, e, _⟩ <;> exact ⟨_, _, _, e⟩
      obtain ⟨p, q, r, hv⟩ := hv
      have HT := Lib.hid (cntT_take xss k hlt)
      have NX := Lib.hid (fun (w2 : World) => HH.out.next (w' := w2) hlt h1)
      have HV := Lib.hid hv
      rw [hv] at x2 M
      clear x3 hv hcc hz
      go_wp2_with fail
      refine M.out.mono ?_
      rintro e w2 ⟨rfl, p2, h2'⟩
      rw [← HV.out] at h2'
      have N := Lib.hid (NX.out w2 p2 h2')
      have P2 := Lib.hid (HP.out.trans (p2.mono (by omega) (by omega)))
      clear p2 h2' NX
      go_wp2
      go_roundw
      case rel => exact ⟨k + 1, z, by omega, rfl, by go_num, Lib.hid (by rw [HT.out, HZ.out, Nat.add_assoc]), N, P2⟩
      case measure => simp [intOf]; omega
    · obtain rfl : k = xss.length := by omega
      have hge : ¬ (xss.length : Int) < (xss.length : Int) := by omega
      have HY2 := Lib.hid (show y = (T : Int) by have := HY.out; rw [List.take_length, HTT.out] at this; exact this)
      clear HY
      go_wp2
      go_ret
      exact ⟨by rw [← HY2.out]; rfl, HP.out, HH.out⟩
/-- Lists of a call's own are marked: nothing else turns, and the marks stand in them. -/
theorem markT_mine (B E : Nat) (v : Value) (xss : List (List Int)) (m : Nat) (w : World) (h : MineT w B E v xss) (hn : SmallT xss) (hm : m ≤ 4000000) :
    Calls Try.prog 51 #[v, .int .i64 m] w fun e w' => e = .returned (.int .i64 (m + cntT xss : Nat)) ∧ Part B E w w' ∧ HeldT w' B E v xss m := by
  rcases h with ⟨rfl, a, c, rfl⟩ | ⟨g, c, u, b, rfl, h0, h1, h2, h3, hr⟩
  · refine (markT_nil a c m w).mono ?_
    rintro e w' ⟨rfl, rfl⟩
    exact ⟨rfl, Part.refl _ _ _, .inl ⟨rfl, a, c, rfl⟩⟩
  · refine (markT_any B E g c m u b xss w hn hm h0 h1 h2 h3 hr).mono ?_
    rintro e w' ⟨rfl, p, hs, hh⟩
    exact ⟨rfl, p, .inr ⟨g, c, u, b, rfl, h0, h1, h2, Nat.le_trans h3 p.size, fun j hj => by have := (hh j hj).2.2; rw [if_pos hj] at this; exact ⟨(hh j hj).1, (hh j hj).2.1, this⟩⟩⟩
theorem heldT_nil (a : Option Addr) (c m : Nat) (w : World) : Calls Try.prog 52 #[.slice a 0 c, .int .i64 m] w fun e w' => e = .returned (.int .i64 m) ∧ w = w' := by
  go_enter Try.func52, Try.ntmps52
  go_wp2
  refine wp_loop_rounds 1 ?_
  rw [rounds_succ]
  go_wp2
  go_ret
  exact ⟨rfl, rfl⟩
set_option maxHeartbeats 800000 in
theorem heldT_held (B E : Nat) (v : Value) (xss : List (List Int)) (m : Nat) (w : World) (h : HeldT w B E v xss m) (hb : SmallT xss) (hm : m ≤ 4000000) :
    Calls Try.prog 52 #[v, .int .i64 m] w fun e w' => e = .returned (.int .i64 (m + cntT xss : Nat)) ∧ w = w' := by
  rcases h with ⟨rfl, a, c, rfl⟩ | ⟨g, c, u, b, rfl, h0, h1, h2, h3, hr⟩
  · exact heldT_nil a c m w
  have hn := hb.1
  have hct := hb.2
  have HR := Lib.hid hr
  obtain ⟨T, hT⟩ : ∃ T : Nat, m + cntT xss = T := ⟨_, rfl⟩
  rw [hT]
  have HTT := Lib.hid hT
  clear hr hb h0 h1 h2 h3 hT
  go_enter Try.func52, Try.ntmps52
  go_wp2
  go_loopw [1, 5] (fun x i wr => ∃ (k : Nat) (y : Int), k ≤ xss.length ∧ x = .int .i64 y ∧ i = .int .i64 k ∧ 0 ≤ y ∧ Hid (y = (m + cntT (xss.take k) : Nat)) ∧ wr = w) (fun _ i _ => xss.length - (intOf i).toNat)
  case atStart => exact ⟨0, m, Nat.zero_le _, rfl, rfl, by omega, Lib.hid (by simp [cntT]), rfl⟩
  case round =>
    obtain ⟨k, y, hk, rfl, rfl, y0, HY, rfl⟩ := hrel
    by_cases hlt : k < xss.length
    · have hlt' : (k : Int) < (xss.length : Int) := by omega
      obtain ⟨_, x2, x3⟩ := HR.out k hlt
      have hcc := cntT_each xss k hlt
      have M := Lib.hid (heldI_held (b k) (b (k + 1)) (u k) (xss.getD k []).length (m + cntT (xss.take k)) wr x3 (by omega) (by omega))
      have HT := Lib.hid (cntT_take xss k hlt)
      have hv : ∃ p q r, u k = .slice p q r := by
        rcases x3 with ⟨_, p, q, e⟩ | ⟨p, q, e, _⟩ <;> exact ⟨_, _, _, e⟩
      obtain ⟨p, q, r, hv⟩ := hv
      rw [← HY.out] at M
      rw [hv] at x2 M
      obtain ⟨z, hz⟩ : ∃ z : Int, z = (m + cntT (xss.take k) + (xss.getD k []).length : Nat) := ⟨_, rfl⟩
      rw [← hz] at M
      have z0 : 0 ≤ z := by omega
      have z1 : ¬ z < 0 := by omega
      have HZ := Lib.hid hz
      clear x3 hv hcc hz
      go_wp2_with fail
      refine M.out.mono ?_
      rintro e w2 ⟨rfl, rfl⟩
      go_wp2
      go_roundw
      case rel => exact ⟨k + 1, z, by omega, rfl, by go_num, z0, Lib.hid (by rw [HT.out, HZ.out, Nat.add_assoc]), trivial⟩
      case measure => simp [intOf]; omega
    · obtain rfl : k = xss.length := by omega
      have hge : ¬ (xss.length : Int) < (xss.length : Int) := by omega
      have HY2 := Lib.hid (show y = (T : Int) by have := HY.out; rw [List.take_length, HTT.out] at this; exact this)
      clear HY
      go_wp2
      go_ret
      exact ⟨by rw [← HY2.out]; rfl, rfl⟩
end Go.Proofs.Ytgjchkcjlmklbaa
