/- Lists in memory of a call's own whose blocks lie in any order: marked, and the marks looked at again. -/
import Derived.Test.YtgjchkcjlmklbaaTabLaw
namespace Go.Proofs.Ytgjchkcjlmklbaa
open Go.RowKit
/-- What is kept of list j: its block, apart from that of the table and from those of the other lists. -/
def ApartT (B E g n : Nat) (r : Nat → Nat) : Prop := ∀ j, j < n → B ≤ r j ∧ r j < E ∧ r j ≠ g ∧ ∀ i, i < n → i ≠ j → r i ≠ r j
def MineD (w : World) (B E : Nat) (v : Value) (xss : List (List Int)) : Prop :=
  (xss = [] ∧ ∃ a c, v = .slice a 0 c) ∨ ∃ (g c : Nat) (u : Nat → Value) (r : Nat → Nat), v = .slice (some ⟨g, 0, none⟩) xss.length c ∧ B ≤ g ∧ g < E ∧ E ≤ w.heap.size ∧ ApartT B E g xss.length r ∧
    ∀ j, j < xss.length → w.cell? ⟨g, j, none⟩ = some (u j) ∧ MineI w (r j) (r j + 1) (u j) (xss.getD j [])
theorem MineD.row {w : World} {B E : Nat} {v : Value} {xss : List (List Int)} (h : MineD w B E v xss) : TabRow w v xss := by
  rcases h with ⟨rfl, a, c, rfl⟩ | ⟨g, c, u, r, rfl, _, h1, h2, _, hr⟩
  · exact tabRow_nil w a c
  · exact ⟨_, _, rfl, .inr ⟨g, 0, rfl, by omega, fun j hj => ⟨u j, by rw [Nat.zero_add]; exact (hr j hj).1, (hr j hj).2.row⟩⟩⟩
theorem MineD.part {w w' : World} {B E B' E' : Nat} {v : Value} {xss : List (List Int)} (h : MineD w B E v xss) (p : Part B' E' w w') (ho : E ≤ B' ∨ E' ≤ B) : MineD w' B E v xss := by
  rcases h with h | ⟨g, c, u, r, e, h0, h1, h2, h3, hr⟩
  · exact .inl h
  · refine .inr ⟨g, c, u, r, e, h0, h1, Nat.le_trans h2 p.size, h3, fun j hj => ?_⟩
    obtain ⟨a, b, _⟩ := h3 j hj
    exact ⟨by rw [p.cell (p := ⟨g, j, none⟩) (by simp only; omega) (by simp only; omega)]; exact (hr j hj).1, (hr j hj).2.part p (by omega)⟩
theorem MineD.lo {w w' : World} {B E : Nat} {v : Value} {xss : List (List Int)} (h : MineD w B E v xss) (l : Below w.heap.size w w') : MineD w' B E v xss :=
  h.part (Part.of_lo (B := E) (E := E) l) (.inl (Nat.le_refl _))
def HeldD (w : World) (B E : Nat) (v : Value) (xss : List (List Int)) (m : Nat) : Prop :=
  (xss = [] ∧ ∃ a c, v = .slice a 0 c) ∨ ∃ (g c : Nat) (u : Nat → Value) (r : Nat → Nat), v = .slice (some ⟨g, 0, none⟩) xss.length c ∧ B ≤ g ∧ g < E ∧ E ≤ w.heap.size ∧ ApartT B E g xss.length r ∧
    ∀ j, j < xss.length → w.cell? ⟨g, j, none⟩ = some (u j) ∧ HeldI w (r j) (r j + 1) (u j) (xss.getD j []).length (m + cntT (xss.take j))
theorem HeldD.part {w w' : World} {B E B' E' m : Nat} {v : Value} {xss : List (List Int)} (h : HeldD w B E v xss m) (p : Part B' E' w w') (ho : E ≤ B' ∨ E' ≤ B) : HeldD w' B E v xss m := by
  rcases h with h | ⟨g, c, u, r, e, h0, h1, h2, h3, hr⟩
  · exact .inl h
  · refine .inr ⟨g, c, u, r, e, h0, h1, Nat.le_trans h2 p.size, h3, fun j hj => ?_⟩
    obtain ⟨a, b, _⟩ := h3 j hj
    exact ⟨by rw [p.cell (p := ⟨g, j, none⟩) (by simp only; omega) (by simp only; omega)]; exact (hr j hj).1, (hr j hj).2.part p (by omega)⟩
theorem HeldD.lo {w w' : World} {B E m : Nat} {v : Value} {xss : List (List Int)} (h : HeldD w B E v xss m) (l : Below w.heap.size w w') : HeldD w' B E v xss m :=
  h.part (Part.of_lo (B := E) (E := E) l) (.inl (Nat.le_refl _))
/-- The first k lists are marked. -/
def HalfD (w : World) (g k m : Nat) (u : Nat → Value) (r : Nat → Nat) (xss : List (List Int)) : Prop :=
  ∀ j, j < xss.length → w.cell? ⟨g, j, none⟩ = some (u j) ∧ r j < w.heap.size ∧
    if j < k then HeldI w (r j) (r j + 1) (u j) (xss.getD j []).length (m + cntT (xss.take j)) else MineI w (r j) (r j + 1) (u j) (xss.getD j [])
theorem HalfD.next {w w' : World} {B E g k m : Nat} {u : Nat → Value} {r : Nat → Nat} {xss : List (List Int)} (h : HalfD w g k m u r xss) (ha : ApartT B E g xss.length r) (hg : g < w.heap.size) (hk : k < xss.length) (p : Part (r k) (r k + 1) w w')
    (hh : HeldI w' (r k) (r k + 1) (u k) (xss.getD k []).length (m + cntT (xss.take k))) : HalfD w' g (k + 1) m u r xss := by
  intro j hj
  obtain ⟨r1, r2, r3⟩ := h j hj
  obtain ⟨_, _, a3, a4⟩ := ha k hk
  refine ⟨by rw [p.cell (p := ⟨g, j, none⟩) (by simp only; omega) (by simp only; omega)]; exact r1, Nat.lt_of_lt_of_le r2 p.size, ?_⟩
  by_cases ej : j = k
  · subst ej
    rw [if_pos (by omega)]
    exact hh
  · have hne := a4 j hj ej
    by_cases hjk : j < k
    · rw [if_pos hjk] at r3
      rw [if_pos (by omega)]
      exact r3.part p (by omega)
    · rw [if_neg hjk] at r3
      rw [if_neg (by omega)]
      exact r3.part p (by omega)
set_option maxRecDepth 100000 in
set_option maxHeartbeats 1600000 in
theorem markD_any (B E g c m : Nat) (u : Nat → Value) (r : Nat → Nat) (xss : List (List Int)) (w : World) (hb : SmallT xss) (hm : m ≤ 4000000) (_h0 : B ≤ g) (h1 : g < E) (h3 : E ≤ w.heap.size) (ha : ApartT B E g xss.length r)
    (hr : ∀ j, j < xss.length → w.cell? ⟨g, j, none⟩ = some (u j) ∧ MineI w (r j) (r j + 1) (u j) (xss.getD j [])) :
    Calls Try.prog 51 #[.slice (some ⟨g, 0, none⟩) xss.length c, .int .i64 m] w fun e w' => e = .returned (.int .i64 (m + cntT xss : Nat)) ∧ Part B E w w' ∧ HalfD w' g xss.length m u r xss := by
  have hn := hb.1
  have hct := hb.2
  have H0 : HalfD w g 0 m u r xss := fun j hj => ⟨(hr j hj).1, by have := (ha j hj).2.1; omega, by rw [if_neg (by omega)]; exact (hr j hj).2⟩
  have HH0 := Lib.hid H0
  have HA := Lib.hid ha
  obtain ⟨T, hT⟩ : ∃ T : Nat, m + cntT xss = T := ⟨_, rfl⟩
  rw [hT]
  have HTT := Lib.hid hT
  clear H0 hr hb hT ha
  go_enter Try.func51, Try.ntmps51
  go_wp2
  go_loopw [1, 5] (fun x i wr => ∃ (k : Nat) (y : Int), k ≤ xss.length ∧ x = .int .i64 y ∧ i = .int .i64 k ∧ Hid (y = (m + cntT (xss.take k) : Nat)) ∧ Hid (HalfD wr g k m u r xss) ∧ Hid (Part B E w wr)) (fun _ i _ => xss.length - (intOf i).toNat)
  case atStart => exact ⟨0, m, Nat.zero_le _, rfl, rfl, Lib.hid (by simp [cntT]), HH0, Lib.hid (Part.refl _ _ _)⟩
  case round =>
    obtain ⟨k, y, hk, rfl, rfl, HY, HH, HP⟩ := hrel
    clear HH0
    by_cases hlt : k < xss.length
    · have hlt' : (k : Int) < (xss.length : Int) := by omega
      have hx := HH.out k hlt
      obtain ⟨x1, _, x3⟩ := hx
      rw [if_neg (by omega)] at x3
      have hcc := cntT_each xss k hlt
      obtain ⟨m0, m1, _⟩ := HA.out k hlt
      have hgw : g < wr.heap.size := by have := HP.out.size; omega
      have M := Lib.hid (markI_mine (r k) (r k + 1) (u k) (xss.getD k []) (m + cntT (xss.take k)) wr x3 (by omega) (by omega))
      rw [← HY.out] at M
      obtain ⟨z, hz⟩ : ∃ z : Int, z = (m + cntT (xss.take k) + (xss.getD k []).length : Nat) := ⟨_, rfl⟩
      rw [← hz] at M
      have HZ := Lib.hid hz
      have hv : ∃ p q r, u k = .slice p q r := by
        rcases x3 with ⟨_, p, q, e⟩ | ⟨p, q, e, _⟩ <;> exact ⟨_, _, _, e⟩
      obtain ⟨p, q, s, hv⟩ := hv
      have HT := Lib.hid (cntT_take xss k hlt)
      have NX := Lib.hid (fun (w2 : World) => HH.out.next (w' := w2) HA.out hgw hlt)
      have HV := Lib.hid hv
      rw [hv] at x1 M
      clear x3 hv hcc hz
      go_wp2_with fail
      refine M.out.mono ?_
      rintro e w2 ⟨rfl, p2, h2'⟩
      rw [← HV.out] at h2'
      have N := Lib.hid (NX.out w2 p2 h2')
      have P2 := Lib.hid (HP.out.trans (p2.mono (by omega) (by omega)))
      clear p2 h2' NX
      go_wp2
      go_roundw
      case rel => exact ⟨k + 1, z, by omega, rfl, by go_num, Lib.hid (by rw [HT.out, HZ.out, Nat.add_assoc]), N, P2⟩
      case measure => simp [intOf]; omega
    · obtain rfl : k = xss.length := by omega
      have hge : ¬ (xss.length : Int) < (xss.length : Int) := by omega
      have HY2 := Lib.hid (show y = (T : Int) by have := HY.out; rw [List.take_length, HTT.out] at this; exact this)
      clear HY
      go_wp2
      go_ret
      exact ⟨by rw [← HY2.out]; rfl, HP.out, HH.out⟩
theorem markD_mine (B E : Nat) (v : Value) (xss : List (List Int)) (m : Nat) (w : World) (h : MineD w B E v xss) (hn : SmallT xss) (hm : m ≤ 4000000) :
    Calls Try.prog 51 #[v, .int .i64 m] w fun e w' => e = .returned (.int .i64 (m + cntT xss : Nat)) ∧ Part B E w w' ∧ HeldD w' B E v xss m := by
  rcases h with ⟨rfl, a, c, rfl⟩ | ⟨g, c, u, r, rfl, h0, h1, h2, ha, hr⟩
  · refine (markT_nil a c m w).mono ?_
    rintro e w' ⟨rfl, rfl⟩
    exact ⟨rfl, Part.refl _ _ _, .inl ⟨rfl, a, c, rfl⟩⟩
  · refine (markD_any B E g c m u r xss w hn hm h0 h1 h2 ha hr).mono ?_
    rintro e w' ⟨rfl, p, hh⟩
    exact ⟨rfl, p, .inr ⟨g, c, u, r, rfl, h0, h1, Nat.le_trans h2 p.size, ha, fun j hj => by have := (hh j hj).2.2; rw [if_pos hj] at this; exact ⟨(hh j hj).1, this⟩⟩⟩
set_option maxRecDepth 100000 in
set_option maxHeartbeats 800000 in
theorem heldD_held (B E : Nat) (v : Value) (xss : List (List Int)) (m : Nat) (w : World) (h : HeldD w B E v xss m) (hb : SmallT xss) (hm : m ≤ 4000000) :
    Calls Try.prog 52 #[v, .int .i64 m] w fun e w' => e = .returned (.int .i64 (m + cntT xss : Nat)) ∧ w = w' := by
  rcases h with ⟨rfl, a, c, rfl⟩ | ⟨g, c, u, r, rfl, h0, h1, h3, ha, hr⟩
  · exact heldT_nil a c m w
  have hn := hb.1
  have hct := hb.2
  have HR := Lib.hid hr
  obtain ⟨T, hT⟩ : ∃ T : Nat, m + cntT xss = T := ⟨_, rfl⟩
  rw [hT]
  have HTT := Lib.hid hT
  clear hr hb h0 h1 h3 hT ha
  go_enter Try.func52, Try.ntmps52
  go_wp2
  go_loopw [1, 5] (fun x i wr => ∃ (k : Nat) (y : Int), k ≤ xss.length ∧ x = .int .i64 y ∧ i = .int .i64 k ∧ 0 ≤ y ∧ Hid (y = (m + cntT (xss.take k) : Nat)) ∧ wr = w) (fun _ i _ => xss.length - (intOf i).toNat)
  case atStart => exact ⟨0, m, Nat.zero_le _, rfl, rfl, by omega, Lib.hid (by simp [cntT]), rfl⟩
  case round =>
    obtain ⟨k, y, hk, rfl, rfl, y0, HY, rfl⟩ := hrel
    by_cases hlt : k < xss.length
    · have hlt' : (k : Int) < (xss.length : Int) := by omega
      obtain ⟨x2, x3⟩ := HR.out k hlt
      have hcc := cntT_each xss k hlt
      have M := Lib.hid (heldI_held (r k) (r k + 1) (u k) (xss.getD k []).length (m + cntT (xss.take k)) wr x3 (by omega) (by omega))
      have HT := Lib.hid (cntT_take xss k hlt)
      have hv : ∃ p q r, u k = .slice p q r := by
        rcases x3 with ⟨_, p, q, e⟩ | ⟨p, q, e, _⟩ <;> exact ⟨_, _, _, e⟩
      obtain ⟨p, q, s, hv⟩ := hv
      rw [← HY.out] at M
      rw [hv] at x2 M
      obtain ⟨z, hz⟩ : ∃ z : Int, z = (m + cntT (xss.take k) + (xss.getD k []).length : Nat) := ⟨_, rfl⟩
      rw [← hz] at M
      have z0 : 0 ≤ z := by omega
      have z1 : ¬ z < 0 := by omega
      have HZ := Lib.hid hz
      clear x3 hv hcc hz
      go_wp2_with fail
      refine M.out.mono ?_
      rintro e w2 ⟨rfl, rfl⟩
      go_wp2
      go_roundw
      case rel => exact ⟨k + 1, z, by omega, rfl, by go_num, z0, Lib.hid (by rw [HT.out, HZ.out, Nat.add_assoc]), trivial⟩
      case measure => simp [intOf]; omega
    · obtain rfl : k = xss.length := by omega
      have hge : ¬ (xss.length : Int) < (xss.length : Int) := by omega
      have HY2 := Lib.hid (show y = (T : Int) by have := HY.out; rw [List.take_length, HTT.out] at this; exact this)
      clear HY
      go_wp2
      go_ret
      exact ⟨by rw [← HY2.out]; rfl, rfl⟩
end Go.Proofs.Ytgjchkcjlmklbaa
