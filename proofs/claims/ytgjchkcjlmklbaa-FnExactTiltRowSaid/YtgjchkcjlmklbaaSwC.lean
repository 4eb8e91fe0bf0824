/- The contract of the model's TiltRow. -/
import Derived.Test.YtgjchkcjlmklbaaSwB
namespace Go.Proofs.Ytgjchkcjlmklbaa
open Go.RowKit
theorem places_take (qs ss : List Int) (k : Nat) (h : k < qs.length) : (placesW qs ss).take (k + 1) = (placesW qs ss).take k ++ [30 + ss.getD k 0 * qs.getD k 0] := by
  rw [take_snocI _ k (by rw [placesW_len]; exact h), placesW_at qs ss k h]
set_option maxRecDepth 100000 in
set_option maxHeartbeats 6400000 in
theorem specTiltRow_yes (u v x : Value) (ws qs ss : List Int) (w : World) (hu : IntRow w u ws) (hv : IntRow w v qs) (hx : IntRow w x ss) (hn : ws.length ≤ 2000000) (hm : qs.length ≤ 2000000) (hs : ss.length ≤ 2000000) (h : tiltB ws qs ss = true) :
    Calls Try.prog 44 #[u, v, x] w fun e w' => ∃ y, e = .returned (.tuple #[y, .bool true]) ∧ LoadRow w' y (rowW ws (placesW qs ss)) ∧ Below w.heap.size w w' := by
  obtain ⟨i0, hi, hz0, hz1, hz2⟩ := info_parts infoInt
  obtain ⟨⟨⟨hw, ha⟩, hl⟩, hsl, hsg⟩ := (tiltB_iff ws qs ss).1 h
  have hh := (tilt_split ws qs ss).symm.trans h
  rw [Bool.and_eq_true] at hh
  obtain ⟨hA, hO⟩ := hh
  have h12 := hw.short
  have A := Lib.hid (l9Arms_is u v ws qs true hA w hu hv hn hm)
  have AR := l9Are_any x ss (ws.length : Int) w hx hs
  rw [hO] at AR
  have AR := Lib.hid AR
  have WA := Lib.hid (fun y w1 (l : Below w.heap.size w w1) (hy : IntRow w1 y (placesW qs ss)) => l9Row_any u y ws (placesW qs ss) w1 (hu.lo l) hy h12 (by rw [placesW_len]; exact hl))
  have PT := Lib.hid (fun k (h : k < ss.length) => places_take qs ss k (by omega))
  have PL := Lib.hid (fun k (h : k ≤ ss.length) => show ((placesW qs ss).take k).length = k by rw [List.length_take, placesW_len]; omega)
  have PX := Lib.hid (show (placesW qs ss).take ss.length = placesW qs ss from List.take_of_length_le (by rw [placesW_len]; omega))
  have PI := Lib.hid (fun i (h : i < ss.length) => place_in (hsg i h) (ha i (by omega)))
  generalize rowW ws (placesW qs ss) = RW at *
  generalize placesW qs ss = PS at *
  obtain ⟨a, c, rfl, _⟩ := hu
  obtain ⟨a1, c1, rfl, hv⟩ := hv
  obtain ⟨a2, c2, rfl, hx⟩ := hx
  rw [← hsl] at A AR WA h12 ⊢
  rw [hl, ← hsl] at hv A ⊢
  have hqq : qs.length = ss.length := by omega
  obtain ⟨n, hnn⟩ : ∃ n, ss.length = n := ⟨_, rfl⟩
  have hss := hnn
  rw [hnn] at A AR WA PT PL PX PI h12 hx hv hs hqq ⊢
  clear hw ha h hnn hn hm hA hO hsl hl hsg
  go_enter Try.func44, Try.ntmps44
  go_wp2_with fail
  refine A.out.mono ?_
  rintro e w' ⟨rfl, rfl⟩
  clear A
  go_wp2_with fail
  refine AR.out.mono ?_
  rintro e w1 ⟨rfl, l1⟩
  have hs1 := l1.size
  have L1 := Lib.hid l1
  have hrow0 : OwnI (w1.alloc (.cells #[] 3)) w1.heap.size (.slice (some ⟨w1.heap.size, 0, none⟩) 0 0) (PS.take 0) := by rw [List.take_zero]; exact ownI_lit0 w1 w1.heap.size (Nat.le_refl _)
  have R0 := Lib.hid hrow0
  clear l1 AR hrow0
  go_wp2
  go_loopw [8, 9] (fun x y wr => ∃ k : Nat, k ≤ n ∧ y = .int .i64 k ∧ Hid (OwnI wr w1.heap.size x (PS.take k)) ∧ Hid (Below w1.heap.size w1 wr)) (fun _ y _ => n - (intOf y).toNat)
  case atStart => exact ⟨0, Nat.zero_le _, rfl, R0, Lib.hid ((Below.refl _ _).alloc (Nat.le_refl _) _)⟩
  case round =>
    obtain ⟨k, hk, rfl, HO, HB⟩ := hrel
    clear R0
    by_cases hlt : k < n
    · have hlt' : (k : Int) < (n : Int) := by omega
      rcases hx with e0 | ⟨g, off, rfl, hg, hc⟩
      · exact absurd (show n = 0 by rw [e0] at hss; simpa using hss.symm) (by omega)
      rcases hv with e0 | ⟨g2, off2, rfl, hg2, hc2⟩
      · exact absurd (show n = 0 by rw [e0] at hqq; simpa using hqq.symm) (by omega)
      have h1 := hc k hlt
      have h2 := hc2 k hlt
      rw [← (L1.out.trans (HB.out.mono L1.out.size)).cell (p := ⟨g, off + k, none⟩) hg] at h1
      rw [← (L1.out.trans (HB.out.mono L1.out.size)).cell (p := ⟨g2, off2 + k, none⟩) hg2] at h2
      have pi := PI.out k hlt
      have HK := Lib.hid (PT.out k hlt)
      have hsh := PL.out k hk
      generalize ss.getD k 0 = s at h1 pi HK
      generalize qs.getD k 0 = q at h2 pi HK
      obtain ⟨p, hp⟩ : ∃ p, s * q = p := ⟨_, rfl⟩
      rw [hp] at pi HK
      obtain ⟨⟨p1, p2⟩, p3, p4⟩ := pi
      have hw1 : IntKind.i64.wrap (s * q) = p := by rw [hp, IntKind.wrap_i64]; omega
      have hw2 : IntKind.i64.wrap (30 + p) = 30 + p := by rw [IntKind.wrap_i64]; omega
      have hw3 : RowKit.wrap64 (s * q) = p := by rw [hp]; exact Go.IntWalk.wrap64_in _ (by omega)
      have hw4 : RowKit.wrap64 (30 + p) = 30 + p := Go.IntWalk.wrap64_in _ (by omega)
      have HN := Lib.hid hsh
      have ho2 := HO.out
      unfold OwnI at ho2
      rw [hsh] at ho2
      have hgw : w1.heap.size ≤ wr.heap.size := HB.out.size
      have ag : u8.ownBlock ≠ some g := fun h => by have := (ho2.lt g h).1; omega
      have ag2 : u8.ownBlock ≠ some g2 := fun h => by have := (ho2.lt g2 h).1; omega
      have OB := Lib.hid (fun q hq => (ho2.lt q hq).1)
      clear hc hc2 hsh p1 p2 p3 p4 hp
      go_wp2
      go_region_held3 (fun w' => w'.cell? ⟨g, off + k, none⟩ = some (.int .i64 s) ∧ w'.cell? ⟨g2, off2 + k, none⟩ = some (.int .i64 q))
        (first
          | go_keep
          | (go_split_ands
             refine ⟨?_, ?_⟩
             · (rw [hgrow.cell_far _ (by simp; omega) (Ne.symm ag)]; assumption)
             · (rw [hgrow.cell_far _ (by simp; omega) (Ne.symm ag2)]; assumption)))
        ((refine step_append_lies _ (by rfl) _ _ _ (by rfl) w1.heap.size 3 i0 _ 1 8 Try.underlying22 hi hz0 hz1 hz2 rfl (by omega) u8 k _ (by rfl) ((ho2.alloc _).drew)
            ⟨wr.heap.size, 0, none⟩ 1 1 [.int .i64 (30 + p)] (by rfl) (by rfl) (World.news_of_block (cs := #[.int .i64 (30 + p)]) (t := 3) (fr := (0, 0)) (heap_alloc_new wr _)) (by simp [Value.oneCell'])
            (by omega) (by unfold maxLen; omega) (by omega) (by simp; omega) (wr.heap.size + 1) (by simp) ?_; intro gg cap w3 hown3 hgrow hat hlt))
      have R := Lib.hid (show OwnI w3 w1.heap.size (.slice (some ⟨gg, 0, none⟩) (k + 1) cap) (PS.take (k + 1)) by
        rw [HK.out]
        exact ownI_snoc hown3 HN.out)
      have BB := Lib.hid (show Below w1.heap.size w1 w3 from ((HB.out.alloc HB.out.size _).drew).grown hgrow (by have := HB.out.size; simp; omega) OB.out)
      clear hown3 hgrow hat hlt ag ag2 ho2 h1 h2 HO HB
      go_wp2
      go_roundw
      case rel => exact ⟨k + 1, by omega, by go_num, R, BB⟩
      case measure => simp [intOf]; omega
    · obtain rfl : k = n := by omega
      have hge : ¬ (k : Int) < (k : Int) := by omega
      have LW := Lib.hid (lo_on L1.out HB.out)
      have W1 := Lib.hid (WA.out _ wr LW.out (by have := HO.out.mine.row; rw [PX.out] at this; exact this))
      clear HO HB WA PI L1
      go_wp2_with fail
      refine W1.out.mono ?_
      rintro e w4 ⟨y, rfl, m4, l4⟩
      have M4 := Lib.hid (loadRow_own m4)
      have L4 := Lib.hid (lo_on LW.out l4)
      clear m4 l4 W1
      go_wp2
      go_ret2
      exact ⟨_, rfl, M4.out, L4.out⟩
set_option maxRecDepth 100000 in
set_option maxHeartbeats 1600000 in
theorem specTiltRow_any (u v x : Value) (ws qs ss : List Int) (w : World) (hu : IntRow w u ws) (hv : IntRow w v qs) (hx : IntRow w x ss) (hn : ws.length ≤ 2000000) (hm : qs.length ≤ 2000000) (hs : ss.length ≤ 2000000) :
    Calls Try.prog 44 #[u, v, x] w fun e w' => ∃ y, e = .returned (.tuple #[y, .bool (tiltB ws qs ss)]) ∧ LoadRow w' y (tiltR ws qs ss) ∧ Below w.heap.size w w' := by
  unfold tiltR
  cases h : tiltB ws qs ss with
  | true => rw [if_pos rfl]; exact specTiltRow_yes u v x ws qs ss w hu hv hx hn hm hs h
  | false =>
    rw [if_neg (by decide)]
    have hh := (tilt_split ws qs ss).symm.trans h
    have A := Lib.hid (l9Arms_is u v ws qs _ rfl w hu hv hn hm)
    have AR := Lib.hid (l9Are_any x ss (ws.length : Int) w hx hs)
    generalize (oneB ss && ((ss.length : Int) == (ws.length : Int))) = b2 at *
    generalize armB ws qs = b1 at *
    obtain ⟨a, c, rfl, _⟩ := hu
    cases b1 with
    | false =>
      have HN := Lib.hid (below_one9 w (.cells #[] 84))
      clear AR hh h hv hx
      go_enter Try.func44, Try.ntmps44
      go_wp2_with fail
      refine A.out.mono ?_
      rintro e w' ⟨rfl, rfl⟩
      go_wp2
      go_ret2
      exact ⟨_, rfl, rowL_nil9 _ _ _, HN.out⟩
    | true =>
    cases b2 with
    | true => exact absurd hh (by decide)
    | false =>
      clear hh h hv hx
      go_enter Try.func44, Try.ntmps44
      go_wp2_with fail
      refine A.out.mono ?_
      rintro e w' ⟨rfl, rfl⟩
      go_wp2_with fail
      refine AR.out.mono ?_
      rintro e w1 ⟨rfl, l⟩
      have L := Lib.hid (show Below w.heap.size w (w1.alloc (.cells #[] 84)) from l.alloc l.size _)
      clear l AR A
      go_wp2
      go_ret2
      exact ⟨_, rfl, rowL_nil9 _ _ _, L.out⟩
end Go.Proofs.Ytgjchkcjlmklbaa
