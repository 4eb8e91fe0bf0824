/- The contracts of the model's rows of seatings and tilts. -/
import Derived.Test.YtgjchkcjlmklbaaSw1
import Derived.Test.YtgjchkcjlmklbaaLoadOwn
import Derived.Test.YtgjchkcjlmklbaaLoadTo
namespace Go.Proofs.Ytgjchkcjlmklbaa
open Go.RowKit
theorem rowL_nil9 (w : World) (a : Option Addr) (c : Nat) : LoadRow w (.slice a 0 c) [] := ⟨a, c, rfl, .inl rfl⟩
theorem below_one9 (w : World) (o : Obj) : Below w.heap.size w (w.alloc o) := (Below.refl _ _).alloc (Nat.le_refl _) o
set_option maxRecDepth 100000 in
set_option maxHeartbeats 3200000 in
theorem l9Row_any (u v : Value) (ws ps : List Int) (w : World) (hu : IntRow w u ws) (hv : IntRow w v ps) (h12 : ws.length ≤ 12) (hl : ps.length = ws.length) :
    Calls Try.prog 114 #[u, v] w fun e w' => ∃ x, e = .returned x ∧ OwnL w' w.heap.size x (rowW ws ps) ∧ Below w.heap.size w w' := by
  obtain ⟨i0, hi, hz0, hz1, hz2⟩ := info_parts infoLoad
  obtain ⟨a, c, rfl, hu⟩ := hu
  obtain ⟨a2, c2, rfl, hv⟩ := hv
  rw [hl] at hv ⊢
  have HT := Lib.hid (show (rowW ws ps).take ws.length = rowW ws ps by rw [← rowW_len ws ps, List.take_length])
  have HSt := Lib.hid (fun k (h : k < ws.length) => rowW_take ws ps k h)
  have HSh := Lib.hid (fun k (h : k ≤ ws.length) => show ((rowW ws ps).take k).length = k by rw [List.length_take, rowW_len]; omega)
  have hrow0 : OwnL (w.alloc (.cells #[] 84)) w.heap.size (.slice (some ⟨w.heap.size, 0, none⟩) 0 0) ((rowW ws ps).take 0) := World.ownsRow_lit w #[] 0 (Nat.le_refl _) (by decide) rfl
  have HR0 := Lib.hid hrow0
  clear hrow0
  go_enter Try.func114, Try.ntmps114
  go_wp2
  go_loopw [5, 6] (fun x y wr => ∃ k : Nat, k ≤ ws.length ∧ y = .int .i64 k ∧ Hid (OwnL wr w.heap.size x ((rowW ws ps).take k)) ∧ Hid (Below w.heap.size w wr)) (fun _ y _ => ws.length - (intOf y).toNat)
  case atStart => exact ⟨0, Nat.zero_le _, rfl, HR0, Lib.hid (below_one9 _ _)⟩
  case round =>
    obtain ⟨k, hk, rfl, HO, HB⟩ := hrel
    clear HR0
    by_cases hlt : k < ws.length
    · rcases hu with h | ⟨g, off, rfl, hg, hc⟩
      · subst h; simp at hlt
      rcases hv with h | ⟨g2, off2, rfl, hg2, hc2⟩
      · subst h; simp at hl; omega
      have h1 := hc k hlt
      have h2 := hc2 k hlt
      rw [← HB.out.cell (p := ⟨g, off + k, none⟩) hg] at h1
      rw [← HB.out.cell (p := ⟨g2, off2 + k, none⟩) hg2] at h2
      have hlt' : (k : Int) < (ws.length : Int) := by omega
      have HK := Lib.hid (HSt.out k hlt)
      have hsh := HSh.out k hk
      generalize ws.getD k 0 = q at h1 HK
      generalize ps.getD k 0 = p at h2 HK
      have HN := Lib.hid hsh
      have ho2 := HO.out
      unfold OwnL at ho2
      rw [hsh] at ho2
      have hgw : w.heap.size ≤ wr.heap.size := HB.out.size
      have ag : u5.ownBlock ≠ some g := fun h => by have := (ho2.lt g h).1; omega
      have ag2 : u5.ownBlock ≠ some g2 := fun h => by have := (ho2.lt g2 h).1; omega
      have OB := Lib.hid (fun q hq => (ho2.lt q hq).1)
      clear hc hc2 hsh
      have HKy := Lib.hid (show (rowW ws ps).take (k + 1) = (rowW ws ps).take k ++ [(p, q)] from HK.out)
      clear HK
      go_wp2
      go_region_held3 (fun w' => w'.cell? ⟨g, off + k, none⟩ = some (.int .i64 q) ∧ w'.cell? ⟨g2, off2 + k, none⟩ = some (.int .i64 p))
        (first
          | go_keep
          | (go_split_ands
             refine ⟨?_, ?_⟩
             · (rw [hgrow.cell_far _ (by simp; omega) (Ne.symm ag)]; assumption)
             · (rw [hgrow.cell_far _ (by simp; omega) (Ne.symm ag2)]; assumption)))
        ((refine step_append_lies _ (by rfl) _ _ _ (by rfl) w.heap.size 84 i0 _ 2 16 Try.underlying28 hi hz0 hz1 hz2 rfl (by omega) u5 k _ (by rfl) ((ho2.alloc _).drew)
            ⟨wr.heap.size, 0, none⟩ 1 1 [.int .i64 p, .int .i64 q] (by rfl) (by rfl) (World.news_of_block (cs := #[.int .i64 p, .int .i64 q]) (t := 84) (fr := (0, 0)) (heap_alloc_new wr _)) (by simp [Value.oneCell'])
            (by omega) (by unfold maxLen; omega) (by omega) (by simp; omega) (wr.heap.size + 1) (by simp) ?_; intro gg cap w1 hown1 hgrow hat hlt))
      have R := Lib.hid (show OwnL w1 w.heap.size (.slice (some ⟨gg, 0, none⟩) (k + 1) cap) ((rowW ws ps).take (k + 1)) by
        rw [HKy.out]
        exact ownL_snoc hown1 HN.out)
      have BB := Lib.hid (show Below w.heap.size w w1 from ((HB.out.alloc HB.out.size _).drew).grown hgrow (by have := HB.out.size; simp; omega) OB.out)
      clear hown1 hgrow hat hlt ag ag2 ho2 h1 h2 HO HB
      go_wp2
      go_roundw
      case rel => exact ⟨k + 1, by omega, by go_num, R, BB⟩
      case measure => simp [intOf]; omega
    · obtain rfl : k = ws.length := by omega
      have hge : ¬ (ws.length : Int) < (ws.length : Int) := by omega
      have R := Lib.hid (show OwnL wr w.heap.size u5 (rowW ws ps) by have := HO.out; rw [HT.out] at this; exact this)
      clear HO
      go_wp2
      go_ret
      exact ⟨_, rfl, R.out, HB.out⟩
theorem isB_parts (ws : List Int) (k : Int) (ss : List Int) : isSB ws k ss = (askW ws k && seatsB ws k ss) := rfl
theorem specIsSeating_any (u v : Value) (ws ss : List Int) (k : Int) (w : World) (hu : IntRow w u ws) (hv : IntRow w v ss) (hcap : ∃ a, v = .slice a ss.length ss.length) (hn : ws.length ≤ 2000000) (hm : ss.length ≤ 2000000) :
    Calls Try.prog 25 #[u, .int .i64 k, v] w fun e w' => e = .returned (.tuple #[.bool (isSB ws k ss), .bool (askW ws k)]) ∧ Below w.heap.size w w' := by
  rw [isB_parts]
  have A := Lib.hid (l9Ask_is u ws k _ rfl w hu hn)
  have S := Lib.hid (fun (h : askW ws k = true) => l9Seats_any u v ws ss k w hu hv hcap hm ((askW_iff ws k).1 h).2.1 ((askW_iff ws k).1 h).2.2)
  generalize askW ws k = b at *
  generalize seatsB ws k ss = b2 at *
  clear hu hv hcap
  cases b with
  | false =>
    go_enter Try.func25, Try.ntmps25
    go_wp2_with fail
    refine A.out.mono ?_
    rintro e w' ⟨rfl, rfl⟩
    go_wp2
    go_ret2
    exact ⟨rfl, Below.refl _ _⟩
  | true =>
    have SS := Lib.hid (S.out rfl)
    clear S
    go_enter Try.func25, Try.ntmps25
    go_wp2_with fail
    refine A.out.mono ?_
    rintro e w' ⟨rfl, rfl⟩
    go_wp2_with fail
    refine SS.out.mono ?_
    rintro e w' ⟨rfl, l⟩
    have L := Lib.hid l
    clear l SS
    go_wp2
    go_ret2
    exact ⟨rfl, L.out⟩
theorem specSeatRow_any (u v : Value) (ws ss : List Int) (k : Int) (w : World) (hu : IntRow w u ws) (hv : IntRow w v ss) (hcap : ∃ a, v = .slice a ss.length ss.length) (hn : ws.length ≤ 2000000) (hm : ss.length ≤ 2000000) :
    Calls Try.prog 29 #[u, .int .i64 k, v] w fun e w' => ∃ x, e = .returned (.tuple #[x, .bool (isSB ws k ss)]) ∧ LoadRow w' x (seatR ws k ss) ∧ Below w.heap.size w w' := by
  unfold seatR
  have A := Lib.hid (l9Ask_is u ws k _ rfl w hu hn)
  have S := Lib.hid (fun (h : askW ws k = true) => l9Seats_any u v ws ss k w hu hv hcap hm ((askW_iff ws k).1 h).2.1 ((askW_iff ws k).1 h).2.2)
  have RW := Lib.hid (fun (h : isSB ws k ss = true) w1 (l : Below w.heap.size w w1) => l9Row_any u v ws ss w1 (hu.lo l) (hv.lo l) ((askW_iff ws k).1 (by unfold isSB at h; rw [Bool.and_eq_true] at h; exact h.1)).1.short (by unfold isSB at h; rw [Bool.and_eq_true] at h; exact ((propB_iff _).1 h.2).1))
  have HP := Lib.hid (isB_parts ws k ss)
  generalize isSB ws k ss = r at *
  generalize rowW ws ss = RR at *
  generalize askW ws k = b at *
  generalize seatsB ws k ss = b2 at *
  have hp := HP.out
  subst hp
  clear hu hv hcap
  cases b with
  | false =>
    have HN := Lib.hid (below_one9 w (.cells #[] 84))
    clear S RW
    go_enter Try.func29, Try.ntmps29
    go_wp2_with fail
    refine A.out.mono ?_
    rintro e w' ⟨rfl, rfl⟩
    go_wp2
    go_ret2
    exact ⟨_, rfl, rowL_nil9 _ _ _, HN.out⟩
  | true =>
    have SS := Lib.hid (S.out rfl)
    cases b2 with
    | false =>
      clear S RW
      go_enter Try.func29, Try.ntmps29
      go_wp2_with fail
      refine A.out.mono ?_
      rintro e w' ⟨rfl, rfl⟩
      go_wp2_with fail
      refine SS.out.mono ?_
      rintro e w1 ⟨rfl, l⟩
      have L := Lib.hid (show Below w.heap.size w (w1.alloc (.cells #[] 84)) from l.alloc l.size _)
      clear l SS
      go_wp2
      go_ret2
      exact ⟨_, rfl, rowL_nil9 _ _ _, L.out⟩
    | true =>
      have RR1 := Lib.hid (fun w1 l => RW.out (by rfl) w1 l)
      clear S RW
      go_enter Try.func29, Try.ntmps29
      go_wp2_with fail
      refine A.out.mono ?_
      rintro e w' ⟨rfl, rfl⟩
      go_wp2_with fail
      refine SS.out.mono ?_
      rintro e w1 ⟨rfl, l⟩
      have R2 := Lib.hid (RR1.out w1 l)
      have L := Lib.hid l
      clear l SS RR1
      go_wp2_with fail
      refine R2.out.mono ?_
      rintro e w2 ⟨x, rfl, o, l⟩
      have L2 := Lib.hid (lo_on L.out l)
      have O := Lib.hid (loadRow_own o)
      clear l o R2
      go_wp2
      go_ret2
      exact ⟨_, rfl, O.out, L2.out⟩
end Go.Proofs.Ytgjchkcjlmklbaa
