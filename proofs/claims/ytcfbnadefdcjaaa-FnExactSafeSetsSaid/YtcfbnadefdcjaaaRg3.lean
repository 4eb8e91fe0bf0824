/- The contracts of both sides' functions that tell a set's number, and its reserves. -/
import Derived.Test.YtcfbnadefdcjaaaRg2
import Derived.Test.YtcfbnadefdcjaaaGpI
import Derived.Laws.BitsLemmas
import Derived.RegionTactic
namespace Go.Proofs.Ytcfbnadefdcjaaa
open Go.RowKit
noncomputable def codeOk (a b o : Int) (row : List (Int × Int)) (xs : List Int) : Bool := cargoB a b o row && setB row.length xs
theorem setB_pre {n : Nat} (h8 : n ≤ 8) {xs : List Int} (h : setB n xs = true) (k : Nat) (hk : k < xs.length) : (0 ≤ xs.getD k 0 ∧ xs.getD k 0 < 8) ∧ codeF (xs.take (k + 1)) = codeF (xs.take k) + 2 ^ (xs.getD k 0).toNat ∧ codeF (xs.take (k + 1)) < 2048 := by
  have h1 := ((setB_iff n xs).1 h k hk).1
  refine ⟨⟨h1.1, by omega⟩, code_take xs k hk, ?_⟩
  have hb : ∀ k, k ≤ xs.length → codeF (xs.take k) ≤ k * 128 := by
    intro k
    induction k with
    | zero => intro _; simp [codeF]
    | succ k ih =>
      intro hk
      have h2 := ((setB_iff n xs).1 h k (by omega)).1
      have := Nat.pow_le_pow_right (n := 2) (by decide) (show (xs.getD k 0).toNat ≤ 7 by omega)
      have := ih (by omega)
      rw [code_take xs k (by omega)]
      omega
  have := hb (k + 1) hk
  have := (set_every h).2
  omega
set_option maxRecDepth 100000 in
set_option maxHeartbeats 3200000 in
theorem l10Code_any (a b o : Int) (v u : Value) (row : List (Int × Int)) (xs : List Int) (w : World) (hr : LoadRow w v row) (hu : IntRow w u xs) (hn : xs.length ≤ 2000000) :
    Calls Try.prog 90 #[.agg #[.int .i64 a, .int .i64 b, .int .i64 o], v, u] w fun e w' => e = .returned (.tuple #[.int .i64 (if codeOk a b o row xs = true then (codeF xs : Int) else 0), .bool (codeOk a b o row xs)]) ∧ Below w.heap.size w w' := by
  unfold codeOk
  have C1 := Lib.hid (fun w1 (l : Below w.heap.size w w1) => l10Cargo_any a b o v row w1 (hr.lo l))
  cases hcb : cargoB a b o row with
  | false =>
    rw [hcb] at C1
    obtain ⟨av, cv, rfl, _⟩ := hr
    obtain ⟨au, cu, rfl, _⟩ := hu
    clear hcb
    go_enter Try.func90, Try.ntmps90
    go_wp2_with fail
    refine (C1.out _ (below_one _ _)).mono ?_
    rintro e w1 ⟨rfl, l⟩
    have L1 := Lib.hid ((below_one w (.cells #[.int .i64 a, .int .i64 b, .int .i64 o] 25)).trans (l.mono (by simp)))
    clear l C1
    go_wp2
    go_ret2
    exact ⟨rfl, L1.out⟩
  | true =>
    rw [hcb] at C1
    obtain ⟨_, h8, hz⟩ := (cargoB_iff _ _ _ _).1 hcb
    have C2 := Lib.hid (fun w1 (l : Below w.heap.size w w1) => l1Rising_any u xs row.length w1 (hu.lo l) hn (by omega))
    obtain ⟨av, cv, rfl, _⟩ := hr
    cases hsb : setB row.length xs with
    | false =>
      rw [hsb] at C2
      obtain ⟨au, cu, rfl, _⟩ := hu
      clear hcb hsb hz
      go_enter Try.func90, Try.ntmps90
      go_wp2_with fail
      refine (C1.out _ (below_one _ _)).mono ?_
      rintro e w1 ⟨rfl, l⟩
      have L1 := Lib.hid ((below_one w (.cells #[.int .i64 a, .int .i64 b, .int .i64 o] 25)).trans (l.mono (by simp)))
      clear l C1
      go_wp2_with fail
      refine (C2.out _ L1.out).mono ?_
      rintro e w2 ⟨rfl, l⟩
      have L2 := Lib.hid (lo_on L1.out l)
      clear l C2
      go_wp2
      go_ret2
      exact ⟨rfl, L2.out⟩
    | true =>
      rw [hsb] at C2
      have HP := Lib.hid (fun k (hk : k < xs.length) => setB_pre h8 hsb k hk)
      have HT := Lib.hid (show codeF (xs.take xs.length) = codeF xs by rw [List.take_length])
      obtain ⟨au, cu, rfl, hu⟩ := hu
      obtain ⟨f, hf⟩ : ∃ f : Nat → Nat, (fun k => codeF (xs.take k)) = f := ⟨_, rfl⟩
      have HF := Lib.hid (fun k => show codeF (xs.take k) = f k by rw [← hf])
      have hf0 : f 0 = 0 := by rw [← hf]; simp [codeF]
      clear hcb hsb hz hf
      go_enter Try.func90, Try.ntmps90
      go_wp2_with fail
      refine (C1.out _ (below_one _ _)).mono ?_
      rintro e w1 ⟨rfl, l⟩
      have L1 := Lib.hid ((below_one w (.cells #[.int .i64 a, .int .i64 b, .int .i64 o] 25)).trans (l.mono (by simp)))
      clear l C1
      go_wp2_with fail
      refine (C2.out _ L1.out).mono ?_
      rintro e w2 ⟨rfl, l⟩
      have L2 := Lib.hid (lo_on L1.out l)
      clear l C2 L1
      go_wp2
      go_loopw [8, 9] (fun x i wr => ∃ k : Nat, k ≤ xs.length ∧ x = .int .i64 (f k : Nat) ∧ i = .int .i64 k ∧ Hid (Below w.heap.size w wr)) (fun _ i _ => xs.length - (intOf i).toNat)
      case atStart => exact ⟨0, Nat.zero_le _, by rw [hf0]; rfl, rfl, L2⟩
      case round =>
        obtain ⟨k, hk, rfl, rfl, HW⟩ := hrel
        by_cases hlt : k < xs.length
        · rcases hu with h | ⟨g, off, rfl, hg, hc⟩
          · subst h; simp at hlt
          have hlt' : (k : Int) < (xs.length : Int) := by omega
          have c1 := hc k hlt
          rw [← HW.out.cell (p := ⟨g, off + k, none⟩) hg] at c1
          obtain ⟨p1, p2, p3⟩ := HP.out k hlt
          rw [HF.out, HF.out] at p2
          rw [HF.out] at p3
          obtain ⟨m, hm⟩ : ∃ m : Nat, xs.getD k 0 = (m : Int) := ⟨(xs.getD k 0).toNat, by omega⟩
          rw [hm] at c1 p1 p2
          rw [Int.toNat_natCast] at p2
          obtain ⟨Q, hQ⟩ : ∃ Q, 2 ^ m = Q := ⟨_, rfl⟩
          have hQI : ((2 : Int) ^ m) = (Q : Int) := by rw [← hQ]; simp
          rw [hQ] at p2
          obtain ⟨x, hx⟩ : ∃ x, f k = x := ⟨_, rfl⟩
          obtain ⟨y, hy⟩ : ∃ y, f (k + 1) = y := ⟨_, rfl⟩
          have HY := Lib.hid hy
          rw [hx, hy] at p2
          rw [hy] at p3
          rw [hx]
          have hm0 : (0 : Int) ≤ (m : Int) := by omega
          have hm64 : (m : Int) ≤ 64 := by omega
          have hs : (x : Int) + (Q : Int) = (y : Int) := by omega
          have y0 : 0 ≤ (y : Int) := by omega
          have y1 : (y : Int) ≤ 9223372036854775807 := by omega
          have q1 : (Q : Int) ≤ 9223372036854775807 := by omega
          have hw1 : IntKind.i64.wrap (Q : Int) = Q := by rw [IntKind.wrap_i64]; omega
          have hw2 : IntKind.i64.wrap (y : Int) = y := by rw [IntKind.wrap_i64]; omega
          clear hc hm hQ hx hy p1 p2 p3
          go_wp2
          go_roundw
          case rel => exact ⟨k + 1, by omega, by rw [HY.out], by go_num, HW⟩
          case measure => simp [intOf]; omega
        · obtain rfl : k = xs.length := by omega
          have hge : ¬ (xs.length : Int) < (xs.length : Int) := by omega
          have HE := Lib.hid (show f xs.length = codeF xs by rw [← HF.out]; exact HT.out)
          go_wp2
          go_ret2
          exact ⟨by rw [HE.out]; rfl, HW.out⟩
theorem bit_walk (c k : Nat) (hc : c < 256) : bits BinOp.and IntKind.i64 ((c : Int) / 2 ^ k) 1 = (if c.testBit k = true then 1 else 0) := by
  have hle : c / 2 ^ k ≤ c := Nat.div_le_self _ _
  have e : (c : Int) / 2 ^ k = ((c / 2 ^ k : Nat) : Int) := by simp
  have h3 : c.testBit k = decide (c / 2 ^ k % 2 = 1) := by
    rw [Nat.testBit_eq_decide_div_mod_eq]
  rw [e, h3]
  generalize c / 2 ^ k = q at hle
  have := bits_mask .i64 12 (by decide) (fun n h0 h1 => by rw [IntKind.wrap_i64]; omega) 1 (by decide) (q : Int) (by omega) (by omega)
  have h2 : bits BinOp.and IntKind.i64 (q : Int) 1 = ((q % 2 : Nat) : Int) := by simpa using this
  rw [h2]
  rcases Nat.mod_two_eq_zero_or_one q with h | h <;> simp [h]
/-- What the model adds up. -/
def lfS (a b o : Int) (d : List (Int × Int)) (k : Nat) : Int := rsA a b o (d.take k)
def rtS (a b o : Int) (d : List (Int × Int)) (k : Nat) : Int := rsB a b o (d.take k)
theorem rs_step (a b o : Int) {row : List (Int × Int)} (h8 : row.length ≤ 8) (c k : Nat) (hk : k < row.length) :
    rsA a b o ((deckL row c).take (k + 1)) = rsA a b o ((deckL row c).take k) + (if c.testBit k = true then 2 * (row.getD k (0, 0)).2 * ((row.getD k (0, 0)).1 - a) else 0) ∧ rsB a b o ((deckL row c).take (k + 1)) = rsB a b o ((deckL row c).take k) + (if c.testBit k = true then 2 * (row.getD k (0, 0)).2 * (b - (row.getD k (0, 0)).1) else 0) := by
  unfold rsA rsB
  rw [mom_take a _ k (by rw [deckL_len]; omega), mom_take b _ k (by rw [deckL_len]; omega), deckL_at _ _ _ (by omega)]
  cases hb : c.testBit k with
  | false => simp
  | true =>
    rw [if_pos ⟨hk, rfl⟩, if_pos rfl, if_pos rfl]
    generalize (row.getD k (0, 0)).2 = q
    generalize (row.getD k (0, 0)).1 = p
    constructor
    · rw [Int.mul_add, Int.mul_assoc, ← Int.add_assoc]
    · rw [Int.mul_add, Int.mul_assoc, show b - p = -(p - b) by omega, Int.mul_neg, Int.mul_neg]
      omega
theorem deck_small {row : List (Int × Int)} (hz : RowF row) (c : Nat) : ∀ x ∈ deckL row c, (0 ≤ x.1 ∧ x.1 ≤ 60) ∧ 0 ≤ x.2 ∧ x.2 ≤ 99 := by
  intro x hx
  unfold deckL at hx
  rw [List.mem_map] at hx
  obtain ⟨i, hi, rfl⟩ := hx
  split
  · rename_i h
    have := hz.each (row.getD i (0, 0)) (by rw [List.getD, List.getElem?_eq_getElem h.1, Option.getD_some]; exact List.getElem_mem _)
    omega
  · simp
theorem rs_bnd {a b o : Int} (h : raftB a b o = true) {row : List (Int × Int)} (hz : RowF row) (c k : Nat) : (-200000 ≤ rsA a b o ((deckL row c).take k) ∧ rsA a b o ((deckL row c).take k) ≤ 200000) ∧ -200000 ≤ rsB a b o ((deckL row c).take k) ∧ rsB a b o ((deckL row c).take k) ≤ 200000 := by
  obtain ⟨h1, h2, h3⟩ := (raftB_iff a b o).1 h
  have hb := baseB_ok h1
  have m1 := mom_abs a hb.1 ((deckL row c).take k) (fun x hx => deck_small hz c x (List.mem_of_mem_take hx))
  have m2 := mom_abs b hb.2.1 ((deckL row c).take k) (fun x hx => deck_small hz c x (List.mem_of_mem_take hx))
  have hl : ((deckL row c).take k).length ≤ 8 := by rw [List.length_take, deckL_len]; omega
  have e1 : o * (b - a) ≤ 99 * 60 := Int.le_trans (Int.mul_le_mul_of_nonneg_left (show b - a ≤ 60 by omega) (by omega)) (Int.mul_le_mul_of_nonneg_right h3 (by decide))
  have e2 : 0 ≤ o * (b - a) := Int.mul_nonneg (by omega) (by omega)
  unfold rsA rsB
  omega
theorem rs_nil (a b o : Int) : rsA a b o [] = o * (b - a) ∧ rsB a b o [] = o * (b - a) := by simp [rsA, rsB, momF]
theorem rs_end (a b o : Int) {row : List (Int × Int)} (h8 : row.length ≤ 8) (c : Nat) : rsA a b o ((deckL row c).take row.length) = rsA a b o (deckL row c) ∧ rsB a b o ((deckL row c).take row.length) = rsB a b o (deckL row c) := by
  unfold rsA rsB
  rw [mom_deck a row h8, mom_deck b row h8]
  exact ⟨rfl, rfl⟩
theorem own_bnd {a b o : Int} (h : raftB a b o = true) : (0 ≤ o * (b - a) ∧ o * (b - a) ≤ 5940) ∧ 0 ≤ b - a ∧ b - a ≤ 60 := by
  obtain ⟨h1, h2, h3⟩ := (raftB_iff a b o).1 h
  have hb := baseB_ok h1
  have e1 : o * (b - a) ≤ 99 * 60 := Int.le_trans (Int.mul_le_mul_of_nonneg_left (show b - a ≤ 60 by omega) (by omega)) (Int.mul_le_mul_of_nonneg_right h3 (by decide))
  exact ⟨⟨Int.mul_nonneg (by omega) (by omega), e1⟩, by omega, by omega⟩
theorem two_bnd {q p a : Int} (hq : 1 ≤ q ∧ q ≤ 99) (hp : 0 ≤ p ∧ p ≤ 60) (ha : 0 ≤ a ∧ a ≤ 60) : (-11880 ≤ 2 * q * (p - a) ∧ 2 * q * (p - a) ≤ 11880) ∧ -11880 ≤ 2 * q * (a - p) ∧ 2 * q * (a - p) ≤ 11880 := by
  have e1 : 2 * q * (p - a) ≤ 198 * 60 := Int.le_trans (Int.mul_le_mul_of_nonneg_left (show p - a ≤ 60 by omega) (by omega)) (Int.mul_le_mul_of_nonneg_right (by omega) (by decide))
  have e2 : 2 * q * (a - p) ≤ 198 * 60 := Int.le_trans (Int.mul_le_mul_of_nonneg_left (show a - p ≤ 60 by omega) (by omega)) (Int.mul_le_mul_of_nonneg_right (by omega) (by decide))
  have e3 : 2 * q * (p - a) = -(2 * q * (a - p)) := by rw [← Int.mul_neg]; congr 1; omega
  omega
theorem wr_64 {x : Int} (h0 : -9223372036854775808 ≤ x) (h1 : x ≤ 9223372036854775807) : IntKind.i64.wrap x = x ∧ RowKit.wrap64 x = x := ⟨by rw [IntKind.wrap_i64]; omega, Go.IntWalk.wrap64_in _ (by omega)⟩
set_option maxRecDepth 100000 in
set_option maxHeartbeats 6400000 in
theorem l10Reserve_any (a b o : Int) (v : Value) (row : List (Int × Int)) (c : Nat) (w : World) (hr : LoadRow w v row) (hb : cargoB a b o row = true) (hc : c < 256) :
    Calls Try.prog 91 #[.agg #[.int .i64 a, .int .i64 b, .int .i64 o], v, .int .i64 (c : Int)] w fun e w' => e = .returned (.tuple #[.int .i64 (rsA a b o (deckL row c)), .int .i64 (rsB a b o (deckL row c))]) ∧ Below w.heap.size w w' := by
  obtain ⟨hrb, h8, hz⟩ := (cargoB_iff _ _ _ _).1 hb
  have hbb := baseB_ok ((raftB_iff a b o).1 hrb).1
  have HS := Lib.hid (fun k (hk : k < row.length) => rs_step a b o h8 c k hk)
  have HBd := Lib.hid (fun k => rs_bnd hrb hz c k)
  have HE := Lib.hid (rs_end a b o h8 c)
  have HL := Lib.hid (fun k (hk : k < row.length) => hz.each (row.getD k (0, 0)) (by rw [List.getD, List.getElem?_eq_getElem hk, Option.getD_some]; exact List.getElem_mem _))
  have HBit := Lib.hid (fun k => bit_walk c k hc)
  obtain ⟨⟨o0, o1⟩, d0, d1⟩ := own_bnd hrb
  obtain ⟨f, hf⟩ : ∃ f : Nat → Int, (fun k => rsA a b o ((deckL row c).take k)) = f := ⟨_, rfl⟩
  obtain ⟨g2, hg2⟩ : ∃ f : Nat → Int, (fun k => rsB a b o ((deckL row c).take k)) = f := ⟨_, rfl⟩
  have HF := Lib.hid (fun k => show rsA a b o ((deckL row c).take k) = f k by rw [← hf])
  have HG := Lib.hid (fun k => show rsB a b o ((deckL row c).take k) = g2 k by rw [← hg2])
  have hf0 : o * (b - a) = f 0 := by rw [← hf]; exact (rs_nil a b o).1.symm
  have hg0 : o * (b - a) = g2 0 := by rw [← hg2]; exact (rs_nil a b o).2.symm
  have HF0 := Lib.hid hf0
  have HG0 := Lib.hid hg0
  have D0 := Lib.hid (And.intro d0 d1)
  obtain ⟨s, hs⟩ : ∃ s, b - a = s := ⟨_, rfl⟩
  obtain ⟨m0, hm0⟩ : ∃ m, o * s = m := ⟨_, rfl⟩
  rw [hs, hm0] at o0 o1
  rw [hs] at d0 d1
  have hws : IntKind.i64.wrap s = s := by rw [IntKind.wrap_i64]; omega
  have hwm : IntKind.i64.wrap m0 = m0 := by rw [IntKind.wrap_i64]; omega
  have hws2 : RowKit.wrap64 s = s := Go.IntWalk.wrap64_in _ (by omega)
  have hwm2 : RowKit.wrap64 m0 = m0 := Go.IntWalk.wrap64_in _ (by omega)
  have HM := Lib.hid (show m0 = f 0 by rw [← hm0, ← hs]; exact HF0.out)
  have HM2 := Lib.hid (show m0 = g2 0 by rw [← hm0, ← hs]; exact HG0.out)
  obtain ⟨w0, hW⟩ : ∃ w0, w.alloc (.cells #[.int .i64 a, .int .i64 b, .int .i64 o] 25) = w0 := ⟨_, rfl⟩
  have LW := Lib.hid (show Below w.heap.size w w0 by rw [← hW]; exact below_one _ _)
  have BX := Lib.hid (show Cel3R w0 w.heap.size (.int .i64 a) (.int .i64 b) (.int .i64 o) by rw [← hW]; exact cel3R_new _ _ _ _ _)
  obtain ⟨av, cv, rfl, hr⟩ := hr
  obtain ⟨_, k0, k1, k2⟩ := BX.out
  clear hf hg2 hf0 hg0 HF0 HG0 hb hrb hz D0
  go_enter Try.func91, Try.ntmps91
  go_wp2
  go_quiet (fail)
  clear hW k0 k1 k2 hws hwm hws2 hwm2 hs hm0
  have LDQ := Lib.hid (fun n => lo_drewN (Below.refl w0.heap.size w0) n)
  go_wp2
  go_loopw [8, 9, 10] (fun x y i wr => ∃ k : Nat, k ≤ row.length ∧ x = .int .i64 (f k) ∧ y = .int .i64 (g2 k) ∧ i = .int .i64 k ∧ Hid (Below w0.heap.size w0 wr)) (fun _ _ i _ => row.length - (intOf i).toNat)
  case atStart => exact ⟨0, Nat.zero_le _, by rw [← HM.out], by rw [← HM2.out], rfl, Lib.hid (LDQ.out _)⟩
  case round =>
    obtain ⟨k, hk, rfl, rfl, rfl, HW⟩ := hrel
    clear LDQ
    by_cases hlt : k < row.length
    · rcases hr with h | ⟨g, off, rfl, hg, hcc⟩
      · subst h; simp at hlt
      have hlt' : (k : Int) < (row.length : Int) := by omega
      have L2 := lo_on LW.out HW.out
      have c1 := (hcc k hlt).1
      have c2 := (hcc k hlt).2
      rw [← L2.cell (p := ⟨g, off + k * 2, none⟩) hg] at c1
      rw [← L2.cell (p := ⟨g, off + k * 2 + 1, none⟩) hg] at c2
      obtain ⟨p1, p2⟩ := HS.out k hlt
      rw [HF.out, HF.out] at p1
      rw [HG.out, HG.out] at p2
      have b1 := HBd.out (k + 1)
      rw [HF.out, HG.out] at b1
      have hbit := HBit.out k
      have hl := HL.out k hlt
      have k064 : (0 : Int) ≤ (k : Int) ∧ (k : Int) ≤ 64 := by omega
      obtain ⟨k00, k064⟩ := k064
      have HP1 := Lib.hid p1
      have HP2 := Lib.hid p2
      generalize (row.getD k (0, 0)).1 = p at c1 p1 p2 hl HP1 HP2
      generalize (row.getD k (0, 0)).2 = q at c2 p1 p2 hl HP1 HP2
      have t1 := (two_bnd hl.2 hl.1 hbb.1).1
      have t2 := (two_bnd hl.2 hl.1 hbb.2.1).2
      obtain ⟨x, hx⟩ : ∃ x, f k = x := ⟨_, rfl⟩
      obtain ⟨y, hy⟩ : ∃ y, g2 k = y := ⟨_, rfl⟩
      rw [hx] at p1 ⊢
      rw [hy] at p2 ⊢
      obtain ⟨x2, hx2⟩ : ∃ x, f (k + 1) = x := ⟨_, rfl⟩
      obtain ⟨y2, hy2⟩ : ∃ y, g2 (k + 1) = y := ⟨_, rfl⟩
      rw [hx2] at p1 b1
      rw [hy2] at p2 b1
      have HX2 := Lib.hid hx2
      have HY2 := Lib.hid hy2
      clear hx hy hx2 hy2 hcc HP1 HP2
      cases htb : c.testBit k with
      | false =>
        rw [htb] at hbit p1 p2
        simp only [Bool.false_eq_true, if_false, Int.add_zero] at hbit p1 p2
        subst p1 p2
        clear t1 t2 b1 hl htb c1 c2
        go_wp2
        go_roundw
        case rel => exact ⟨k + 1, by omega, by rw [HX2.out], by rw [HY2.out], by go_num, HW⟩
        case measure => simp [intOf]; omega
      | true =>
        rw [htb] at hbit p1 p2
        simp only [if_true] at hbit p1 p2
        obtain ⟨_, k0, k1, k2⟩ := BX.out.lo HW.out
        obtain ⟨e, he⟩ : ∃ e, 2 * q = e := ⟨_, rfl⟩
        obtain ⟨s1, hs1⟩ : ∃ e, p - a = e := ⟨_, rfl⟩
        obtain ⟨s2, hs2⟩ : ∃ e, b - p = e := ⟨_, rfl⟩
        rw [he, hs1] at t1 p1
        rw [he, hs2] at t2 p2
        obtain ⟨z1, hz1⟩ : ∃ z, e * s1 = z := ⟨_, rfl⟩
        obtain ⟨z2, hz2⟩ : ∃ z, e * s2 = z := ⟨_, rfl⟩
        rw [hz1] at t1 p1
        rw [hz2] at t2 p2
        have be : -9223372036854775808 ≤ e ∧ e ≤ 9223372036854775807 := by omega
        have bs1 : -9223372036854775808 ≤ s1 ∧ s1 ≤ 9223372036854775807 := by omega
        have bs2 : -9223372036854775808 ≤ s2 ∧ s2 ≤ 9223372036854775807 := by omega
        have bz1 : -9223372036854775808 ≤ z1 ∧ z1 ≤ 9223372036854775807 := by omega
        have bz2 : -9223372036854775808 ≤ z2 ∧ z2 ≤ 9223372036854775807 := by omega
        have bx2 : -9223372036854775808 ≤ x2 ∧ x2 ≤ 9223372036854775807 := by omega
        have by2 : -9223372036854775808 ≤ y2 ∧ y2 ≤ 9223372036854775807 := by omega
        obtain ⟨we, we'⟩ := wr_64 be.1 be.2
        obtain ⟨ws1, ws1'⟩ := wr_64 bs1.1 bs1.2
        obtain ⟨ws2, ws2'⟩ := wr_64 bs2.1 bs2.2
        obtain ⟨wz1, wz1'⟩ := wr_64 bz1.1 bz1.2
        obtain ⟨wz2, wz2'⟩ := wr_64 bz2.1 bz2.2
        obtain ⟨wx2, wx2'⟩ := wr_64 bx2.1 bx2.2
        obtain ⟨wy2, wy2'⟩ := wr_64 by2.1 by2.2
        have p1' := p1.symm
        have p2' := p2.symm
        have LQ := Lib.hid (fun n => lo_drewN HW.out n)
        clear t1 t2 b1 hl htb p1 p2 be bs1 bs2 bz1 bz2 bx2 by2 L2
        go_wp2
        go_quiet (fail)
        go_wp2
        go_quiet (fail)
        go_wp2
        go_roundw
        case rel => exact ⟨k + 1, by omega, by rw [HX2.out], by rw [HY2.out], by go_num, Lib.hid (by first | exact lo_drewN (LQ.out _) _ | exact LQ.out _)⟩
        case measure => simp [intOf]; omega
    · obtain rfl : k = row.length := by omega
      have hge : ¬ (row.length : Int) < (row.length : Int) := by omega
      have HE1 := Lib.hid (show f row.length = rsA a b o (deckL row c) by rw [← HF.out]; exact HE.out.1)
      have HE2 := Lib.hid (show g2 row.length = rsB a b o (deckL row c) by rw [← HG.out]; exact HE.out.2)
      go_wp2
      go_ret2
      exact ⟨by rw [HE1.out, HE2.out]; rfl, lo_on LW.out HW.out⟩
set_option maxHeartbeats 800000 in
theorem l10Safe_any (a b o : Int) (v : Value) (row : List (Int × Int)) (c : Nat) (w : World) (hr : LoadRow w v row) (hb : cargoB a b o row = true) (hc : c < 256) :
    Calls Try.prog 99 #[.agg #[.int .i64 a, .int .i64 b, .int .i64 o], v, .int .i64 (c : Int)] w fun e w' => e = .returned (.bool (safeF a b o (deckL row c))) ∧ Below w.heap.size w w' := by
  unfold safeF
  have C1 := Lib.hid (fun w1 (l : Below w.heap.size w w1) => l10Reserve_any a b o v row c w1 (hr.lo l) hb hc)
  obtain ⟨av, cv, rfl, _⟩ := hr
  generalize rsA a b o (deckL row c) = x at *
  generalize rsB a b o (deckL row c) = y at *
  clear hb
  by_cases hx : 0 ≤ x
  · by_cases hy : 0 ≤ y
    all_goals go_enter Try.func99, Try.ntmps99
    all_goals go_wp2_with fail
    all_goals refine (C1.out _ (below_one _ _)).mono ?_
    all_goals rintro e w1 ⟨rfl, l⟩
    all_goals have L1 := Lib.hid ((below_one w (.cells #[.int .i64 a, .int .i64 b, .int .i64 o] 25)).trans (l.mono (by simp)))
    all_goals clear l C1
    all_goals go_wp2
    all_goals go_ret
    all_goals exact ⟨by first | (simp; done) | (simp; omega) | (simp [hx]; done) | (simp [hy]; done) | (simp [hx, hy]; done), L1.out⟩
  · go_enter Try.func99, Try.ntmps99
    go_wp2_with fail
    refine (C1.out _ (below_one _ _)).mono ?_
    rintro e w1 ⟨rfl, l⟩
    have L1 := Lib.hid ((below_one w (.cells #[.int .i64 a, .int .i64 b, .int .i64 o] 25)).trans (l.mono (by simp)))
    clear l C1
    go_wp2
    go_ret
    exact ⟨by first | (simp; done) | (simp; omega) | (simp [hx]; done), L1.out⟩
end Go.Proofs.Ytcfbnadefdcjaaa
