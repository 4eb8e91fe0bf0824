/- The contracts of both functions OutermostPlaces. -/
import Derived.Test.YthncgcdnljoakaaFj
import Derived.Test.YthncgcdnljoakaaBm2
namespace Go.Proofs.Ythncgcdnljoakaa
open Go.RowKit
set_option maxHeartbeats 1600000 in
theorem outClo_is (v : Value) (xs : List (Int × Int)) (l a b m : Int) (B x : Nat) (r : Bool) (hr : standB xs a b ((x : Int), m) = r) (w : World) (h : SRow w v xs)
    (c0 : Cel3 w B (.int .i64 l) (.int .i64 a) (.int .i64 b)) (c1 : w.cell? ⟨B + 1, 0, none⟩ = some v) (c2 : w.cell? ⟨B + 1 + 1, 0, none⟩ = some (.int .i64 m)) :
    Calls Try.prog 99 #[.int .i64 (x : Int), .pointer (some ⟨B + 1, 0, none⟩), .pointer (some ⟨B + 1 + 1, 0, none⟩), .pointer (some ⟨B, 0, none⟩)] w fun e w' => e = .returned (.bool r) ∧ Below w.heap.size w w' := by
  have SW := Lib.hid (standsWith_is v xs x m a b r hr w h)
  obtain ⟨g, o, c, rfl, _⟩ := h
  obtain ⟨_, u0, u1, u2⟩ := c0
  clear hr
  go_enter Try.func99, Try.ntmps99
  go_wp2_with fail
  refine SW.out.mono ?_
  rintro e w1 ⟨rfl, l1⟩
  have LL := Lib.hid l1
  clear l1 SW u0 u1 u2 c1 c2
  go_wp2
  go_ret
  exact ⟨rfl, LL.out⟩
set_option maxRecDepth 100000 in
set_option maxHeartbeats 1600000 in
theorem spanOut_s (B L : Nat) (hL : L ≤ 60) (st : Nat → Bool) (w : World) (hc : ∀ (x : Nat) (w1 : World), Below w.heap.size w w1 → Calls Try.prog 99 #[.int .i64 (x : Int), .pointer (some ⟨B + 1, 0, none⟩), .pointer (some ⟨B + 1 + 1, 0, none⟩), .pointer (some ⟨B, 0, none⟩)] w1 fun e w' => e = .returned (.bool (st x)) ∧ Below w1.heap.size w1 w') :
    Calls Try.prog 98 #[.int .i64 0, .int .i64 (L : Int), .func (.func 99) #[] #[.pointer (some ⟨B + 1, 0, none⟩), .pointer (some ⟨B + 1 + 1, 0, none⟩), .pointer (some ⟨B, 0, none⟩)]] w fun e w' => e = .returned (.tuple #[.int .i64 (loF st (L + 1)), .int .i64 (hiF st (L + 1)), .bool (fdF st (L + 1))]) ∧ Below w.heap.size w w' := by
  have HC := Lib.hid hc
  clear hc
  go_enter Try.func98, Try.ntmps98
  go_wp2
  go_loopw [9, 10, 11, 12] (fun x y z i wr => ∃ k : Nat, k ≤ L + 1 ∧ i = .int .i64 k ∧ x = .int .i64 (loF st k) ∧ y = .int .i64 (hiF st k) ∧ z = .bool (fdF st k) ∧ Hid (Below w.heap.size w wr)) (fun _ _ _ i _ => L + 1 - (intOf i).toNat)
  case atStart => exact ⟨0, by omega, rfl, rfl, rfl, rfl, Lib.hid (Below.refl _ _)⟩
  case round =>
    obtain ⟨k, hk, rfl, rfl, rfl, rfl, hbl⟩ := hrel
    by_cases hlt : k < L + 1
    · have hlt' : (k : Int) ≤ (L : Int) := by omega
      have CK := Lib.hid (HC.out k wr hbl.out)
      have H1 := Lib.hid (show loF st (k + 1) = if st k = true ∧ fdF st k = false then (k : Int) else loF st k from rfl)
      have H2 := Lib.hid (show hiF st (k + 1) = if st k = true then (k : Int) else hiF st k from rfl)
      have H3 := Lib.hid (show fdF st (k + 1) = (fdF st k || st k) from rfl)
      generalize loF st k = lo at *
      generalize hiF st k = hi at *
      generalize fdF st k = fd at *
      generalize st k = s at *
      cases s
      · go_wp2_with (go_at_call 99; refine (CK.out).mono ?_; rintro e w1 ⟨rfl, l1⟩; have LL := Lib.hid (lo_on hbl.out l1); clear l1 CK hbl)
        go_roundw
        case rel => exact ⟨k + 1, by omega, by go_num, by rw [H1.out]; simp, by rw [H2.out]; simp, by rw [H3.out]; simp, LL⟩
        case measure => simp [intOf]; omega
      · cases fd
        all_goals
          (go_wp2_with (go_at_call 99; refine (CK.out).mono ?_; rintro e w1 ⟨rfl, l1⟩; have LL := Lib.hid (lo_on hbl.out l1); clear l1 CK hbl)
           go_roundw
           case rel => exact ⟨k + 1, by omega, by go_num, by rw [H1.out]; simp, by rw [H2.out]; simp, by rw [H3.out]; simp, LL⟩
           case measure => simp [intOf]; omega)
    · obtain rfl : k = L + 1 := by omega
      clear HC
      have hge : ¬ ((L : Int) + 1 ≤ (L : Int)) := by omega
      have hge2 : ¬ (((L + 1 : Nat) : Int) ≤ (L : Int)) := by omega
      obtain ⟨lo, hlo⟩ : ∃ x, loF st (L + 1) = x := ⟨_, rfl⟩
      obtain ⟨hi, hhi⟩ : ∃ x, hiF st (L + 1) = x := ⟨_, rfl⟩
      obtain ⟨fd, hfd⟩ : ∃ x, fdF st (L + 1) = x := ⟨_, rfl⟩
      have E := Lib.hid (show Ending.returned (.tuple #[.int .i64 lo, .int .i64 hi, .bool fd]) = Ending.returned (.tuple #[.int .i64 (loF st (L + 1)), .int .i64 (hiF st (L + 1)), .bool (fdF st (L + 1))]) by rw [hlo, hhi, hfd])
      rw [hlo, hhi, hfd]
      clear hlo hhi hfd
      go_wp2
      exact bodyPost_ret (v := .tuple #[.int .i64 lo, .int .i64 hi, .bool fd]) (by simp [results, Try.results98, go_sem]) rfl ⟨E.out, hbl.out⟩
/-- What both functions tell. -/
noncomputable def opS (p : BeamV) (xs : List (Int × Int)) (m : Int) (k : Nat) : Bool := onB p xs && standB xs p.a p.b ((k : Int), m)
noncomputable def opLo (p : BeamV) (xs : List (Int × Int)) (m : Int) : Int := loF (opS p xs m) (p.l.toNat + 1)
noncomputable def opHi (p : BeamV) (xs : List (Int × Int)) (m : Int) : Int := hiF (opS p xs m) (p.l.toNat + 1)
noncomputable def opB (p : BeamV) (xs : List (Int × Int)) (m : Int) : Bool := fdF (opS p xs m) (p.l.toNat + 1)
theorem fdF_none (st : Nat → Bool) : ∀ k, (∀ j, st j = false) → fdF st k = false
  | 0, _ => rfl
  | k + 1, h => by rw [show fdF st (k + 1) = (fdF st k || st k) from rfl, fdF_none st k h, h k]; rfl
theorem op_none {p : BeamV} {xs : List (Int × Int)} {m : Int} (h : ∀ j, opS p xs m j = false) : opLo p xs m = 0 ∧ opHi p xs m = 0 ∧ opB p xs m = false := by
  have h0 := fdF_none (opS p xs m) (p.l.toNat + 1) h
  have h1 := scan_none (opS p xs m) _ h0
  exact ⟨h1.1, h1.2, h0⟩
theorem cel3_lo {w w' : World} {g : Nat} {x y z : Value} (h : Cel3 w g x y z) (l : Below w.heap.size w w') : Cel3 w' g x y z := h.lo l
set_option maxHeartbeats 1600000 in
theorem out_any (p : BeamV) (v : Value) (xs : List (Int × Int)) (m : Int) (w : World) (h : SRow w v xs) :
    Calls Try.prog 45 #[.agg #[.int .i64 p.l, .int .i64 p.a, .int .i64 p.b], v, .int .i64 m] w fun e w' => e = .returned (.tuple #[.int .i64 (opLo p xs m), .int .i64 (opHi p xs m), .bool (opB p xs m)]) ∧ Below w.heap.size w w' := by
  obtain ⟨W0, hW0⟩ : ∃ W, w.alloc (.cells #[.int .i64 p.l, .int .i64 p.a, .int .i64 p.b] 25) = W := ⟨_, rfl⟩
  have hw0 : Below w.heap.size w W0 := by rw [← hW0]; exact below_new _ _
  have bx0 : Cel3 W0 w.heap.size (.int .i64 p.l) (.int .i64 p.a) (.int .i64 p.b) := by rw [← hW0]; exact cel3_new _ _ _ _ _
  have sz0 : W0.heap.size = w.heap.size + 1 := by rw [← hW0]; simp
  have h' := h
  obtain ⟨gv, ov, cv, rfl, _⟩ := h'
  obtain ⟨W, hW⟩ : ∃ W, (W0.alloc (.cells #[.slice (some ⟨gv, ov, none⟩) xs.length cv] 32)).alloc (.cells #[.int .i64 m] 3) = W := ⟨_, rfl⟩
  have hwW : Below W0.heap.size W0 W := by rw [← hW]; exact ((Below.refl _ _).alloc (Nat.le_refl _) _).alloc (by simp) _
  have hw := lo_on hw0 hwW
  have hs := h.lo hw
  have BX := bx0.lo hwW
  have hsz : W.heap.size = w.heap.size + 1 + 1 + 1 := by rw [← hW]; simp [sz0]
  have c1 : W.cell? ⟨w.heap.size + 1, 0, none⟩ = some (.slice (some ⟨gv, ov, none⟩) xs.length cv) := by
    rw [← hW]
    refine (World.cell?_of_block (Below.heap_alloc _ _ _ (by simp [sz0]))).trans ?_
    exact (World.cell?_alloc_at _ _ _ _ sz0.symm).trans rfl
  have c2 : W.cell? ⟨w.heap.size + 1 + 1, 0, none⟩ = some (.int .i64 m) := by
    rw [← hW]
    exact (World.cell?_alloc_at _ _ _ _ (by simp [sz0])).trans rfl
  have e1 : W0.heap.size = w.heap.size + 1 := sz0
  have e2 : (W0.alloc (.cells #[.slice (some ⟨gv, ov, none⟩) xs.length cv] 32)).heap.size = w.heap.size + 1 + 1 := by simp [sz0]
  have O := Lib.hid (isOn_any p _ xs W hs.load)
  have HS := Lib.hid (fun hon : onB p xs = true => by
    have hb : beamB p = true := by
      rw [onB_parts] at hon
      cases hq : beamB p with
      | true => rfl
      | false => rw [hq] at hon; cases hon
    have q := (beamB_iff p).1 hb
    exact (⟨p.l.toNat, by omega, by omega⟩ : ∃ L : Nat, p.l = (L : Int) ∧ L ≤ 60))
  have SP := Lib.hid (fun (L : Nat) (hL : L ≤ 60) w2 (l2 : Below W.heap.size W w2) => spanOut_s w.heap.size L hL (fun k : Nat => standB xs p.a p.b ((k : Int), m)) w2 (fun x w1 l => outClo_is _ xs p.l p.a p.b m w.heap.size x _ rfl w1 ((hs.lo l2).lo l) ((BX.lo l2).lo l)
    ((l.cell (p := ⟨w.heap.size + 1, 0, none⟩) (by have := l2.size; show w.heap.size + 1 < w2.heap.size; omega)).trans ((l2.cell (p := ⟨w.heap.size + 1, 0, none⟩) (by show w.heap.size + 1 < W.heap.size; omega)).trans c1))
    ((l.cell (p := ⟨w.heap.size + 1 + 1, 0, none⟩) (by have := l2.size; show w.heap.size + 1 + 1 < w2.heap.size; omega)).trans ((l2.cell (p := ⟨w.heap.size + 1 + 1, 0, none⟩) (by show w.heap.size + 1 + 1 < W.heap.size; omega)).trans c2))))
  have LW := Lib.hid hw
  have HF := Lib.hid (fun hon : onB p xs = false => op_none (p := p) (xs := xs) (m := m) (fun j => by unfold opS; rw [hon]; rfl))
  have HT := Lib.hid (fun (L : Nat) (hL : p.l = (L : Int)) (hon : onB p xs = true) => show loF (fun k : Nat => standB xs p.a p.b ((k : Int), m)) (L + 1) = opLo p xs m ∧ hiF (fun k : Nat => standB xs p.a p.b ((k : Int), m)) (L + 1) = opHi p xs m ∧ fdF (fun k : Nat => standB xs p.a p.b ((k : Int), m)) (L + 1) = opB p xs m by
    have hf : opS p xs m = fun k : Nat => standB xs p.a p.b ((k : Int), m) := by funext k; unfold opS; rw [hon]; rfl
    unfold opLo opHi opB
    rw [hf, show p.l.toNat = L by omega]
    exact ⟨rfl, rfl, rfl⟩)
  generalize opLo p xs m = rlo at *
  generalize opHi p xs m = rhi at *
  generalize opB p xs m = rfd at *
  generalize onB p xs = on at *
  have BX2 := Lib.hid BX
  clear hs h hw hwW hw0 bx0 BX
  obtain ⟨l, a, b⟩ := p
  simp only at O HS SP HF HT hW0 BX2 ⊢
  obtain ⟨_, u0, u1, u2⟩ := BX2.out
  cases on with
  | false =>
    obtain ⟨rfl, rfl, rfl⟩ := HF.out rfl
    clear SP HS HT HF
    go_enter Try.func45, Try.ntmps45
    go_wp2_with fail
    refine O.out.mono ?_
    rintro e w1 ⟨rfl, l1⟩
    go_wp2
    go_ret3
    exact ⟨rfl, lo_on LW.out l1⟩
  | true =>
    obtain ⟨L, hL, hL60⟩ := HS.out rfl
    obtain ⟨g1, g2, g3⟩ := HT.out L hL rfl
    have S2 := Lib.hid (fun w2 (l2 : Below W.heap.size W w2) => SP.out L hL60 w2 l2)
    rw [g1, g2, g3] at S2
    subst hL
    clear SP HS HT HF g1 g2 g3
    go_enter Try.func45, Try.ntmps45
    go_wp2_with fail
    refine O.out.mono ?_
    rintro e w1 ⟨rfl, l1⟩
    have SS := Lib.hid (S2.out w1 l1)
    have L1 := Lib.hid (lo_on LW.out l1)
    have B1 := BX2.out.lo l1
    clear u0 u1 u2 c1 c2 l1 S2 O
    obtain ⟨_, x0, x1, x2⟩ := B1
    go_wp2_with fail
    refine SS.out.mono ?_
    rintro e w2 ⟨rfl, l2⟩
    have L2 := Lib.hid (lo_on L1.out l2)
    clear l2 SS x0 x1 x2
    go_wp2
    exact bodyPost_ret (v := .tuple #[.int .i64 rlo, .int .i64 rhi, .bool rfd]) (by simp [results, Try.results45, go_sem]) rfl ⟨rfl, L2.out⟩
end Go.Proofs.Ythncgcdnljoakaa
