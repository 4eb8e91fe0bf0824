/- The contracts of slices.DeleteFunc at loads that are none, of the row of a deck, and of what is safe. -/
import Derived.Test.YtcfbnadefdcjaaaRg5
import Derived.Test.YtcfbnadefdcjaaaRg4
namespace Go.Proofs.Ytcfbnadefdcjaaa
open Go.RowKit
theorem elemL : Try.prog.elem 33 = 84 := by kernel_rfl
theorem undL : Try.prog.underlying 33 = some (.slice (Try.prog.elem 33)) := by rw [elemL]; exact Try.underlying33
theorem slice_hi (g n c i : Nat) (h : i < n) (hc : n ≤ c) (w : World) : (Instr.slice 33 (.slice (some ⟨g, 0, none⟩) n c) (some (.int .i64 (i : Int))) none none).run Try.prog w = .ok (.slice (some ⟨g, i * 2, none⟩) (n - i) (c - i)) w := by
  rw [run_slice_l w _ _ _ _ undL _ _ (by omega) (by omega), elemL, Try.sizeOf84]
  simp [sliced, Result.andThen, show ¬ c = i by omega, Go.WideShapes.add_plain]
theorem slice_lo (g n c i : Nat) (h : i ≤ n) (hc : n ≤ c) (w : World) : (Instr.slice 33 (.slice (some ⟨g, 0, none⟩) n c) none (some (.int .i64 (i : Int))) none).run Try.prog w = .ok (.slice (some ⟨g, 0, none⟩) i c) w := by
  rw [run_slice_h w _ _ _ _ undL _ _ (by omega) (by omega), elemL, Try.sizeOf84]
  simp [sliced, Result.andThen, Go.WideShapes.add_plain]
theorem below_setCells {B : Nat} (b : Nat) (hB : B ≤ b) : ∀ (vs : List Value) (o : Nat) (w0 w : World), Below B w0 w → Below B w0 (w.setCells b o vs)
  | [], _, _, _, h => h
  | v :: r, o, w0, w, h => below_setCells b hB r (o + 1) w0 _ (h.setCell (p := ⟨b, o, none⟩) hB v)
set_option maxRecDepth 100000 in
set_option maxHeartbeats 6400000 in
theorem deleteNone_any (g c : Nat) (d : List (Int × Int)) (hd : d.length ≤ 100) (B : Nat) (w : World) (hB : B ≤ g) (hg : g < w.heap.size) (hnc : d.length ≤ c) (hc : PairsR w g 0 d) (hf : ∀ j, w.frozen? ⟨g, j, none⟩ = false) :
    Calls Try.prog 211 #[.slice (some ⟨g, 0, none⟩) d.length c, .func (.func 212) #[] #[]] w fun e w' => e = .returned (.slice (some ⟨g, 0, none⟩) (d.filter (fun x => !noneB x)).length c) ∧ PairsR w' g 0 (d.filter (fun x => !noneB x)) ∧ Below B w w' := by
  have IX := Lib.hid (indexNone_any g 0 c d hd w hg hc)
  have HC := Lib.hid hc
  have HFz := Lib.hid hf
  clear hc hf
  go_enter Try.func211, Try.ntmps211
  go_wp2_with fail
  refine IX.out.mono ?_
  rintro e w1 ⟨⟨k0, hk0, hn0, hcase⟩, l1⟩
  have P1 := Lib.hid (show PairsR w1 g 0 d from fun j hj => by rw [l1.cell (p := ⟨g, 0 + j * 2, none⟩) hg, l1.cell (p := ⟨g, 0 + j * 2 + 1, none⟩) hg]; exact HC.out j hj)
  have Z1 := Lib.hid (fun j => (l1.frozen (p := ⟨g, j, none⟩) hg).trans (HFz.out j))
  have L1 := Lib.hid (show Below B w w1 from l1.mono (by omega))
  have hs1 : g < w1.heap.size := Nat.lt_of_lt_of_le hg l1.size
  clear IX HC HFz l1
  rcases hcase with ⟨hk, hnk, rfl⟩ | ⟨hk, rfl⟩
  case inr =>
    have hfl : d.filter (fun x => !noneB x) = d := by
      rw [List.filter_eq_self]
      intro x hx
      obtain ⟨j, hj, he⟩ := List.getElem_of_mem hx
      have := hn0 j (by omega)
      rw [List.getD, List.getElem?_eq_getElem hj, Option.getD_some, he] at this
      rw [this]
      rfl
    have HFL := Lib.hid hfl
    clear hn0 Z1 hfl
    go_wp2
    go_ret
    exact ⟨by rw [HFL.out]; rfl, by rw [HFL.out]; exact P1.out, L1.out⟩
  case inl =>
    have hneg : ((k0 : Int) == -1) = false := by rw [beq_eq_false_iff_ne]; omega
    have hneg2 : ¬ (k0 : Int) = -1 := by omega
    have K0 := Lib.hid (KeptR.start hk hn0 hnk)
    clear hn0 hnk
    go_wp2
    go_loopw [5, 6] (fun x y wr => ∃ (i j : Nat) (dk : List (Int × Int)), x = .int .i64 i ∧ y = .int .i64 j ∧ j ≤ d.length ∧ i < j ∧ Hid (KeptR d i j dk) ∧ Hid (PairsR wr g 0 dk) ∧ Hid (∀ j, wr.frozen? ⟨g, j, none⟩ = false) ∧ Hid (Below B w wr) ∧ g < wr.heap.size) (fun _ y _ => d.length - (intOf y).toNat)
    case atStart => exact ⟨k0, k0 + 1, d, rfl, by go_num, by omega, by omega, K0, P1, Z1, L1, hs1⟩
    case round =>
      obtain ⟨i, j, dk, rfl, rfl, hj, hij, HK, HP, HZ, HW, hsz⟩ := hrel
      clear K0 P1 Z1 L1
      by_cases hlt : j < d.length
      · have hlt' : (j : Int) < (d.length : Int) := by omega
        have hlen := HK.out.len
        have h1 := (HP.out j (by omega)).1
        have h2 := (HP.out j (by omega)).2
        rw [HK.out.rest j (Nat.le_refl _)] at h1 h2
        rw [Nat.zero_add] at h1 h2
        obtain ⟨i1, i2⟩ := HP.out i (by omega)
        rw [Nat.zero_add] at i1 i2
        have z1 := HZ.out (i * 2)
        have z2 := HZ.out (i * 2 + 1)
        have hil : i < d.length := by omega
        have hil' : (i : Int) < (d.length : Int) := by omega
        have HYes := Lib.hid (fun h => HK.out.skip hlt h)
        have HNo := Lib.hid (fun h => HK.out.keep hlt h)
        have HSet := Lib.hid (fun (wr' : World) (h : PairsR wr' g 0 dk) x => pair_set h i (by omega) x)
        obtain ⟨x, hx⟩ : ∃ x, d.getD j (0, 0) = x := ⟨_, rfl⟩
        rw [hx] at h1 h2 HYes HNo
        have HSx := Lib.hid (fun (wr' : World) (h : PairsR wr' g 0 dk) => HSet.out wr' h x)
        obtain ⟨p, q⟩ := x
        simp only at h1 h2 HSx
        have C := Lib.hid (fun w => idxNone_any p q w)
        generalize (dk.getD i (0, 0)).1 = p0 at i1
        generalize (dk.getD i (0, 0)).2 = q0 at i2
        clear hx HSet
        cases hr : decide ((p, q) = ((0 : Int), (0 : Int))) with
        | true =>
          rw [hr] at C
          have HF := Lib.hid (HYes.out hr)
          clear hr HYes HNo HSx i1 i2 z1 z2
          go_wp2_with (go_at_call 212; refine (C.out _).mono ?_; rintro e w3 ⟨rfl, l3⟩; have l4 := lo_on (below_one wr (.cells #[.int .i64 p, .int .i64 q] 84)) l3; have LZ := Lib.hid (show Below B w w3 from HW.out.trans (l4.mono (by omega))); have PZ := Lib.hid (show PairsR w3 g 0 dk from fun j hj => by rw [l4.cell (p := ⟨g, 0 + j * 2, none⟩) hsz, l4.cell (p := ⟨g, 0 + j * 2 + 1, none⟩) hsz]; exact HP.out j hj); have ZZ := Lib.hid (fun j => (l4.frozen (p := ⟨g, j, none⟩) hsz).trans (HZ.out j)); have hs3 : g < w3.heap.size := Nat.lt_of_lt_of_le hsz l4.size; clear l3 l4)
          go_roundw
          case rel => exact ⟨i, j + 1, dk, rfl, by go_num, by omega, by omega, HF, PZ, ZZ, LZ, hs3⟩
          case measure => simp [intOf]; omega
        | false =>
          rw [hr] at C
          have HF := Lib.hid (HNo.out hr)
          clear hr HYes HNo
          have BX := Lib.hid (show (wr.alloc (.cells #[.int .i64 p, .int .i64 q] 84)).cell? ⟨wr.heap.size, 0, none⟩ = some (.int .i64 p) ∧ (wr.alloc (.cells #[.int .i64 p, .int .i64 q] 84)).cell? ⟨wr.heap.size, 1, none⟩ = some (.int .i64 q) from ⟨by rw [World.cell?_alloc_at _ _ _ _ rfl]; rfl, by rw [World.cell?_alloc_at _ _ _ _ rfl]; rfl⟩)
          go_wp2_with (go_at_call 212; refine (C.out _).mono ?_; rintro e w3 ⟨rfl, l3⟩; have l4 := lo_on (below_one wr (.cells #[.int .i64 p, .int .i64 q] 84)) l3; have LZ := Lib.hid (show Below B w w3 from HW.out.trans (l4.mono (by omega))); have PZ := Lib.hid (show PairsR w3 g 0 dk from fun j hj => by rw [l4.cell (p := ⟨g, 0 + j * 2, none⟩) hsz, l4.cell (p := ⟨g, 0 + j * 2 + 1, none⟩) hsz]; exact HP.out j hj); have ZZ := Lib.hid (fun j => (l4.frozen (p := ⟨g, j, none⟩) hsz).trans (HZ.out j)); have hs3 : g < w3.heap.size := Nat.lt_of_lt_of_le hsz l4.size; have b1 := (l3.cell (p := ⟨wr.heap.size, 0, none⟩) (by simp)).trans BX.out.1; have b2 := (l3.cell (p := ⟨wr.heap.size, 1, none⟩) (by simp)).trans BX.out.2; have i1' := (l4.cell (p := ⟨g, i * 2, none⟩) hsz).trans i1; have i2' := (l4.cell (p := ⟨g, i * 2 + 1, none⟩) hsz).trans i2; have y1 := (l4.frozen (p := ⟨g, i * 2, none⟩) hsz).trans z1; have y2 := (l4.frozen (p := ⟨g, i * 2 + 1, none⟩) hsz).trans z2; clear l3 l4 i1 i2 z1 z2)
          go_roundw
          case rel =>
            refine ⟨i + 1, j + 1, dk.set i (p, q), by go_num, by go_num, by omega, by omega, HF, Lib.hid (by have := HSx.out w3 PZ.out; simpa using this), Lib.hid (fun j => by rw [World.frozen?_setCell, World.frozen?_setCell]; exact ZZ.out j), Lib.hid ((LZ.out.setCell (p := ⟨g, i * 2, none⟩) hB _).setCell (p := ⟨g, i * 2 + 1, none⟩) hB _), by simp; exact hs3⟩
          case measure => simp [intOf]; omega
      · obtain rfl : j = d.length := by omega
        have hge : ¬ (d.length : Int) < (d.length : Int) := by omega
        have hlen := HK.out.len
        have hkp := HK.out.kept
        rw [List.take_length] at hkp
        have hil : (d.filter (fun x => !noneB x)).length = i := by rw [← hkp, List.length_take]; omega
        have hPF := Lib.hid (show ∀ W : World, (∀ t, t < i * 2 → W.cell? ⟨g, t, none⟩ = wr.cell? ⟨g, t, none⟩) → PairsR W g 0 (d.filter (fun x => !noneB x)) from fun W hW t ht => by
          rw [hil] at ht
          have h0 := HP.out t (by omega)
          rw [Nat.zero_add] at h0 ⊢
          rw [hW _ (by omega), hW _ (by omega), h0.1, h0.2, ← hkp]
          have : (dk.take i).getD t (0, 0) = dk.getD t (0, 0) := by simp [List.getD, ht]
          rw [this]
          exact ⟨rfl, rfl⟩)
        have hcl := fun ty => clear_pairs wr ty g (i * 2) (d.length - i) (c - i) (by omega) (fun t ht => by
            have h0 := HP.out (i + t / 2) (by omega)
            rw [Nat.zero_add] at h0
            rcases Nat.mod_two_eq_zero_or_one t with hm | hm
            · rw [show i * 2 + t = (i + t / 2) * 2 by omega, h0.1]; rfl
            · rw [show i * 2 + t = (i + t / 2) * 2 + 1 by omega, h0.2]; rfl) (fun t _ => HZ.out _)
        have sl1 := slice_hi g d.length c i (by omega) hnc
        have sl2 := slice_lo g d.length c i (by omega) hnc
        have HIL := Lib.hid hil
        have HB2 := Lib.hid (show Below B w (wr.setCells g (i * 2) (List.replicate ((d.length - i) * 2) (Value.int .i64 0))) from below_setCells g hB _ _ _ _ HW.out)
        have HO2 := Lib.hid (fun t (ht : t < i * 2) => World.cell?_setCells_out g (List.replicate ((d.length - i) * 2) (Value.int .i64 0)) (i * 2) wr ⟨g, t, none⟩ (fun _ _ => .inl ht))
        have HPZ := Lib.hid (hPF.out _ HO2.out)
        clear HK HP HZ HW hPF HO2 hkp hil hlen
        go_wp2
        go_ret
        exact ⟨by rw [HIL.out]; rfl, HPZ.out, HB2.out⟩
end Go.Proofs.Ytcfbnadefdcjaaa
