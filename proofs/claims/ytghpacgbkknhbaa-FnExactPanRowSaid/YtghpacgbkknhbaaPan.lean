/- The contracts of PanRow, the program's and the model's. -/
import Derived.Test.YtghpacgbkknhbaaLoadOwn
import Derived.Test.YtghpacgbkknhbaaKit2
import Derived.Test.YtghpacgbkknhbaaSigns
import Derived.Test.YtghpacgbkknhbaaCoin1
import Derived.Deep.AppendLies
import Derived.Deep.RegionHeld3
namespace Go.Proofs.Ytghpacgbkknhbaa
open Go.RowKit
/-- What PanRow answers. -/
def PanOk (ks ss : List Int) (n : Int) : Prop := KitF ks ∧ ss.length = ks.length ∧ SignsF ss ∧ 1 ≤ n ∧ n ≤ 99
theorem ownL_lit1 (w : World) (p q : Int) (B : Nat) (hB : B ≤ w.heap.size) : OwnL (w.alloc (.cells #[.int .i64 p, .int .i64 q] 110)) B (.slice (some ⟨w.heap.size, 0, none⟩) 1 1) [(p, q)] := World.ownsRow_lit w #[.int .i64 p, .int .i64 q] 1 hB (by decide) rfl
theorem panF_take (ks ss : List Int) (n : Int) (k : Nat) (h1 : k < ks.length) (h2 : k < ss.length) (h0 : ss.getD k 0 ≠ 0) : panF (ks.take (k + 1)) (ss.take (k + 1)) n = panF (ks.take k) (ss.take k) n ++ [(30 + ss.getD k 0, ks.getD k 0)] := by
  unfold panF
  rw [usedF_take ks ss k h1 h2, if_neg h0]
  rfl
theorem panF_skip (ks ss : List Int) (n : Int) (k : Nat) (h1 : k < ks.length) (h2 : k < ss.length) (h0 : ss.getD k 0 = 0) : panF (ks.take (k + 1)) (ss.take (k + 1)) n = panF (ks.take k) (ss.take k) n := by
  unfold panF
  rw [usedF_take ks ss k h1 h2, if_pos h0, List.append_nil]
theorem panF_len (ks ss : List Int) (n : Int) (k : Nat) : (panF (ks.take k) (ss.take k) n).length ≤ k + 1 := by
  have := usedF_len (ks.take k) (ss.take k)
  rw [List.length_take] at this
  unfold panF
  simp only [List.length_cons]
  omega
set_option maxRecDepth 100000 in
set_option maxHeartbeats 1600000 in
theorem panRow_yes (v u : Value) (ks ss : List Int) (n : Int) (w : World) (hv : IntRow w v ks) (hu : IntRow w u ss) (h : PanOk ks ss n) :
    Calls Try.prog 39 #[v, u, .int .i64 n] w fun e w' => ∃ r, e = .returned (.tuple #[r, .bool true]) ∧ OwnL w' w.heap.size r (panF ks ss n) ∧ Below w.heap.size w w' := by
  obtain ⟨i0, hi, hz0, hz1, hz2⟩ := info_parts infoLoad
  obtain ⟨hk, hl, hs, n0, n1⟩ := h
  have hk6 := hk.short
  have IK := Lib.hid (isKit_any v ks w hv (by omega))
  rw [show kitB ks = true from propB_yes hk] at IK
  have AS := Lib.hid (fun w1 (l : Below w.heap.size w w1) => areSigns_any u ss w1 (hu.lo l) (by omega))
  rw [show signsB ss = true from propB_yes hs] at AS
  have IW := Lib.hid (fun w => isWeight_is n true (by rw [decide_eq_true n0, decide_eq_true n1]; rfl) w)
  have HK := Lib.hid hk
  have HS := Lib.hid hs
  obtain ⟨a, c, rfl, hv⟩ := hv
  obtain ⟨b, d, rfl, hu⟩ := hu
  rw [hl] at AS ⊢
  have hne : ((ks.length : Int) != (ks.length : Int)) = false := by simp
  have HL := Lib.hid hl
  clear hk hs hl
  go_enter Try.func39, Try.ntmps39
  go_wp2_with fail
  refine IK.out.mono ?_
  rintro e w1 ⟨rfl, l1⟩
  have A1 := Lib.hid (AS.out w1 l1)
  go_wp2_with fail
  refine A1.out.mono ?_
  rintro e w2 ⟨rfl, l2⟩
  have L2 := Lib.hid (lo_on l1 l2)
  clear l1 l2 A1 AS IK
  go_wp2_with fail
  refine (IW.out _).mono ?_
  rintro e w' ⟨rfl, rfl⟩
  have hrow0 := ownL_lit1 w2 29 n w.heap.size L2.out.size
  go_wp2
  go_loopw [8, 36] (fun r i wr => ∃ k : Nat, k ≤ ks.length ∧ i = .int .i64 k ∧ Hid (OwnL wr w.heap.size r (panF (ks.take k) (ss.take k) n)) ∧ Hid (Below w.heap.size w wr)) (fun _ i _ => ks.length - (intOf i).toNat)
  case atStart => exact ⟨0, Nat.zero_le _, rfl, Lib.hid hrow0, Lib.hid (L2.out.alloc L2.out.size _)⟩
  case round =>
    obtain ⟨k, hkl, rfl, HO, HW⟩ := hrel
    clear hrow0
    by_cases hlt : k < ks.length
    · rcases hv with h | ⟨g, off, rfl, hg, hc⟩
      · subst h; simp at hlt
      rcases hu with h | ⟨g', off', rfl, hg', hc'⟩
      · subst h; have := HL.out; simp at this; omega
      have hlt2 : k < ss.length := by have := HL.out; omega
      have h1 := hc k hlt
      have h2 := hc' k hlt2
      rw [← HW.out.cell (p := ⟨g, off + k, none⟩) hg] at h1
      rw [← HW.out.cell (p := ⟨g', off' + k, none⟩) hg'] at h2
      have hlt' : (k : Int) < (ks.length : Int) := by omega
      have hx := HS.out k hlt2
      have hy := HK.out.each k hlt
      by_cases h0 : ss.getD k 0 = 0
      · have HN := Lib.hid (panF_skip ks ss n k hlt hlt2 h0)
        rw [h0] at h2
        clear hc hc' hx hy h0
        go_wp2
        go_roundw
        case rel => exact ⟨k + 1, by omega, by go_num, by rw [HN.out]; exact HO, HW⟩
        case measure => simp [intOf]; omega
      · have HN := Lib.hid (panF_take ks ss n k hlt hlt2 h0)
        have hz : (ss.getD k 0 != 0) = true := bne_iff_ne.2 h0
        have hlen := panF_len ks ss n k
        have hown := HO.out
        unfold OwnL at hown
        generalize hm : (panF (ks.take k) (ss.take k) n).length = m at hown hlen
        have HM := Lib.hid hm
        generalize ss.getD k 0 = s at h2 hx HN hz
        generalize ks.getD k 0 = q at h1 hy HN
        obtain ⟨s0, s1⟩ := hx
        obtain ⟨q0, q1⟩ := hy
        have hgw := HW.out.size
        clear hc hc' h0 hm
        go_wp2_with (at_builtin; refine wpList_append_own _ rfl _ _ 38 rfl w.heap.size 110 i0 (.agg #[.int .i64 0, .int .i64 0]) 2 16 Try.underlying38 hi hz0 hz1 hz2 rfl (by decide) _ _ _ rfl (hown.alloc _) ⟨wr.heap.size, 0, none⟩ 1 1 (cellsF [(30 + s, q)]) rfl rfl (two_new wr _ _ _) (cellsF_one _) (by unfold maxLen; omega) (by omega) (by simp; omega) ?_; intro v3 w3 hown3 hgrow3 hnil3)
        have NN := Lib.hid (show OwnL w3 w.heap.size v3 (panF (ks.take (k + 1)) (ss.take (k + 1)) n) by
          rw [HN.out]
          exact ownL_snoc hown3 HM.out)
        have LL := Lib.hid (show Below w.heap.size w w3 from (HW.out.alloc HW.out.size _).grown hgrow3 (by simp; omega) (fun j hj => (hown.lt j hj).1))
        clear hown3 hgrow3 hnil3 hown h1 h2
        go_wp2
        go_roundw
        case rel => exact ⟨k + 1, by omega, by go_num, NN, LL⟩
        case measure => simp [intOf]; omega
    · obtain rfl : k = ks.length := by omega
      have hge : ¬ (ks.length : Int) < (ks.length : Int) := by omega
      have HT := Lib.hid (show panF (ks.take ks.length) (ss.take ks.length) n = panF ks ss n by rw [List.take_length, ← HL.out, List.take_length])
      go_wp2
      go_ret2
      exact ⟨_, rfl, by have := HO.out; rw [HT.out] at this; exact this, HW.out⟩
theorem panRow_no (v u : Value) (ks ss : List Int) (n : Int) (w : World) (hv : IntRow w v ks) (hu : IntRow w u ss) (h : ¬ PanOk ks ss n) (hk : ks.length ≤ 1048576) (hs : ss.length ≤ 1048576) :
    Calls Try.prog 39 #[v, u, .int .i64 n] w fun e w' => e = .returned (.tuple #[.slice none 0 0, .bool false]) ∧ Below w.heap.size w w' := by
  have IK := Lib.hid (isKit_any v ks w hv (by omega))
  have AS := Lib.hid (fun w1 (l : Below w.heap.size w w1) => areSigns_any u ss w1 (hu.lo l) (by omega))
  have HP := Lib.hid h
  obtain ⟨a, c, rfl, _⟩ := hv
  obtain ⟨b, d, rfl, _⟩ := hu
  clear h
  cases hkb : kitB ks with
  | false =>
    rw [hkb] at IK
    clear hkb AS
    go_enter Try.func39, Try.ntmps39
    go_wp2_with fail
    refine IK.out.mono ?_
    rintro e w1 ⟨rfl, l1⟩
    have L1 := Lib.hid l1
    clear l1
    go_wp2
    go_ret2
    exact ⟨rfl, L1.out⟩
  | true =>
    have hK := (propB_iff _).1 (show propB (KitF ks) = true from hkb)
    rw [hkb] at IK
    by_cases hl : ss.length = ks.length
    · have hne : ((ss.length : Int) != (ks.length : Int)) = false := by simp [hl]
      cases hsb : signsB ss with
      | false =>
        rw [hsb] at AS
        clear hkb hsb hl
        go_enter Try.func39, Try.ntmps39
        go_wp2_with fail
        refine IK.out.mono ?_
        rintro e w1 ⟨rfl, l1⟩
        have A1 := Lib.hid (AS.out w1 l1)
        go_wp2_with fail
        refine A1.out.mono ?_
        rintro e w2 ⟨rfl, l2⟩
        have L2 := Lib.hid (lo_on l1 l2)
        clear l1 l2 A1 AS IK
        go_wp2
        go_ret2
        exact ⟨rfl, L2.out⟩
      | true =>
        have hS := (propB_iff _).1 (show propB (SignsF ss) = true from hsb)
        rw [hsb] at AS
        have hbad : (decide (1 ≤ n) && decide (n ≤ 99)) = false := by
          rw [Bool.eq_false_iff]
          intro hh
          rw [Bool.and_eq_true] at hh
          exact HP.out ⟨hK, hl, hS, of_decide_eq_true hh.1, of_decide_eq_true hh.2⟩
        have IW := Lib.hid (fun w => isWeight_is n false hbad w)
        clear hkb hsb hl hbad
        go_enter Try.func39, Try.ntmps39
        go_wp2_with fail
        refine IK.out.mono ?_
        rintro e w1 ⟨rfl, l1⟩
        have A1 := Lib.hid (AS.out w1 l1)
        go_wp2_with fail
        refine A1.out.mono ?_
        rintro e w2 ⟨rfl, l2⟩
        have L2 := Lib.hid (lo_on l1 l2)
        clear l1 l2 A1 AS IK
        go_wp2_with fail
        refine (IW.out _).mono ?_
        rintro e w' ⟨rfl, rfl⟩
        go_wp2
        go_ret2
        exact ⟨rfl, L2.out⟩
    · have hne : ((ss.length : Int) != (ks.length : Int)) = true := by rw [bne_iff_ne]; omega
      clear hkb hl AS
      go_enter Try.func39, Try.ntmps39
      go_wp2_with fail
      refine IK.out.mono ?_
      rintro e w1 ⟨rfl, l1⟩
      have L1 := Lib.hid l1
      clear l1
      go_wp2
      go_ret2
      exact ⟨rfl, L1.out⟩
noncomputable def panR (ks ss : List Int) (n : Int) : List (Int × Int) × Bool := if propB (PanOk ks ss n) = true then (panF ks ss n, true) else ([], false)
theorem panR_len (ks ss : List Int) (n : Int) : (panR ks ss n).1.length ≤ 2000000 := by
  unfold panR
  split
  · rename_i h
    have hk := ((propB_iff _).1 h).1.short
    have := usedF_len ks ss
    unfold panF
    simp only [List.length_cons]
    omega
  · simp
theorem panRow_impl (v u : Value) (ks ss : List Int) (n : Int) (w : World) (hv : IntRow w v ks) (hu : IntRow w u ss) (hk : ks.length ≤ 1048576) (hs : ss.length ≤ 1048576) :
    Calls Try.prog 39 #[v, u, .int .i64 n] w fun e w' => ∃ r, e = .returned (.tuple #[r, .bool (panR ks ss n).2]) ∧ MineL w' w.heap.size w'.heap.size r (panR ks ss n).1 ∧ Below w.heap.size w w' := by
  unfold panR
  by_cases h : PanOk ks ss n
  · rw [if_pos (propB_yes h)]
    refine (panRow_yes v u ks ss n w hv hu h).mono ?_
    rintro e w' ⟨r, rfl, o, l⟩
    exact ⟨r, rfl, mineL_own o, l⟩
  · rw [if_neg (by rw [propB_no h]; simp)]
    refine (panRow_no v u ks ss n w hv hu h hk hs).mono ?_
    rintro e w' ⟨rfl, l⟩
    exact ⟨_, rfl, mineL_nil _ _ _ _ _, l⟩
set_option maxRecDepth 100000 in
set_option maxHeartbeats 1600000 in
theorem specPan_yes (v u : Value) (ks ss : List Int) (n : Int) (w : World) (hv : IntRow w v ks) (hu : IntRow w u ss) (h : PanOk ks ss n) :
    Calls Try.prog 40 #[v, u, .int .i64 n] w fun e w' => ∃ r, e = .returned (.tuple #[r, .bool true]) ∧ OwnL w' w.heap.size r (panF ks ss n) ∧ Below w.heap.size w w' := by
  obtain ⟨i0, hi, hz0, hz1, hz2⟩ := info_parts infoLoad
  obtain ⟨hk, hl, hs, n0, n1⟩ := h
  have hk6 := hk.short
  have A0 := Lib.hid (show Below w.heap.size w (w.alloc (.cells #[] 110)) from (Below.refl _ _).alloc (Nat.le_refl _) _)
  have hrow00 : OwnL (w.alloc (.cells #[] 110)) w.heap.size (.slice (some ⟨w.heap.size, 0, none⟩) 0 0) [] := World.ownsRow_lit w #[] 0 (Nat.le_refl _) (by decide) rfl
  have HR0 := Lib.hid hrow00
  have IK := Lib.hid (l3Kit_any v ks _ (hv.lo A0.out) (by omega))
  rw [show kitB ks = true from propB_yes hk] at IK
  have AS := Lib.hid (fun w1 (l : Below w.heap.size w w1) => l3Signs_is u ss (ks.length : Int) true (by rw [show signsB ss = true from propB_yes hs, hl]; simp) w1 (hu.lo l) (by omega))
  have IW := Lib.hid (fun w => l1In_is n 1 99 true (by rw [decide_eq_true n0, decide_eq_true n1]; rfl) w)
  have HK := Lib.hid hk
  have HS := Lib.hid hs
  obtain ⟨a, c, rfl, hv⟩ := hv
  obtain ⟨b, d, rfl, hu⟩ := hu
  have HL := Lib.hid hl
  clear hk hs hl hrow00
  go_enter Try.func40, Try.ntmps40
  go_wp2_with fail
  refine IK.out.mono ?_
  rintro e w1 ⟨rfl, l1⟩
  have L1 := Lib.hid (show Below w.heap.size w w1 from A0.out.trans (l1.mono A0.out.size))
  have hz1' : w.heap.size + 1 ≤ w1.heap.size := by have := l1.size; simpa using this
  have HR1 := Lib.hid (show OwnL w1 w.heap.size (.slice (some ⟨w.heap.size, 0, none⟩) 0 0) [] by
    have h := HR0.out
    unfold OwnL at *
    exact h.kept (row := none) ⟨l1.os, l1.tape, l1.output, l1.size, fun k hk _ => l1.block k hk⟩ (.inr (by simp [Value.ownBlock])))
  have A1 := Lib.hid (AS.out w1 L1.out)
  clear l1 IK AS HR0
  go_wp2_with fail
  refine A1.out.mono ?_
  rintro e w' ⟨rfl, rfl⟩
  go_wp2_with fail
  refine (IW.out _).mono ?_
  rintro e w' ⟨rfl, rfl⟩
  have hrow := HR1.out
  unfold OwnL at hrow
  have hgw := L1.out.size
  go_wp2_with (at_builtin; refine wpList_append_own _ rfl _ _ 38 rfl w.heap.size 110 i0 (.agg #[.int .i64 0, .int .i64 0]) 2 16 Try.underlying38 hi hz0 hz1 hz2 rfl (by decide) _ _ _ rfl (hrow.alloc _) ⟨w1.heap.size, 0, none⟩ 1 1 (cellsF [(29, n)]) rfl rfl (two_new w1 _ _ _) (cellsF_one _) (by unfold maxLen; simp) (by simp) (by simp; omega) ?_; intro v2 w2 hown2 hgrow2 hnil2)
  have HO2 := Lib.hid (show OwnL w2 w.heap.size v2 (panF (ks.take 0) (ss.take 0) n) from ownL_snoc (ys := []) hown2 rfl)
  have L2 := Lib.hid (show Below w.heap.size w w2 from (L1.out.alloc L1.out.size _).grown hgrow2 (by simp; omega) (fun j hj => (hrow.lt j hj).1))
  clear hown2 hgrow2 hnil2 hrow HR1 L1
  go_wp2
  go_loopw [8, 9] (fun r i wr => ∃ k : Nat, k ≤ ks.length ∧ i = .int .i64 k ∧ Hid (OwnL wr w.heap.size r (panF (ks.take k) (ss.take k) n)) ∧ Hid (Below w.heap.size w wr)) (fun _ i _ => ks.length - (intOf i).toNat)
  case atStart => exact ⟨0, Nat.zero_le _, rfl, HO2, L2⟩
  case round =>
    obtain ⟨k, hkl, rfl, HO, HW⟩ := hrel
    clear HO2
    by_cases hlt : k < ks.length
    · rcases hv with h | ⟨g, off, rfl, hg, hc⟩
      · subst h; simp at hlt
      rcases hu with h | ⟨g', off', rfl, hg', hc'⟩
      · subst h; have := HL.out; simp at this; omega
      have hlt2 : k < ss.length := by have := HL.out; omega
      have h1 := hc k hlt
      have h2 := hc' k hlt2
      rw [← HW.out.cell (p := ⟨g, off + k, none⟩) hg] at h1
      rw [← HW.out.cell (p := ⟨g', off' + k, none⟩) hg'] at h2
      have hlt' : (k : Int) < (ks.length : Int) := by omega
      have hlt2' : (k : Int) < (ss.length : Int) := by omega
      have hx := HS.out k hlt2
      have hy := HK.out.each k hlt
      by_cases h0 : ss.getD k 0 = 0
      · have HN := Lib.hid (panF_skip ks ss n k hlt hlt2 h0)
        rw [h0] at h2
        clear hc hc' hx hy h0
        go_wp2
        go_roundw
        case rel => exact ⟨k + 1, by omega, by go_num, by rw [HN.out]; exact HO, HW⟩
        case measure => simp [intOf]; omega
      · have HN := Lib.hid (panF_take ks ss n k hlt hlt2 h0)
        have hz : (ss.getD k 0 != 0) = true := bne_iff_ne.2 h0
        have hlen := panF_len ks ss n k
        have hown := HO.out
        unfold OwnL at hown
        generalize hm : (panF (ks.take k) (ss.take k) n).length = m at hown hlen
        have HM := Lib.hid hm
        generalize ss.getD k 0 = s at h2 hx HN hz
        generalize ks.getD k 0 = q at h1 hy HN
        obtain ⟨s0, s1⟩ := hx
        obtain ⟨q0, q1⟩ := hy
        have hgw2 := HW.out.size
        have ag : u8.ownBlock ≠ some g := fun h => by have := (hown.lt g h).1; omega
        have ag' : u8.ownBlock ≠ some g' := fun h => by have := (hown.lt g' h).1; omega
        have hwu : IntKind.i64.wrap (30 + s) = 30 + s := by rw [IntKind.wrap_i64]; omega
        clear hc hc' h0 hm
        go_wp2
        go_region_held3 (fun w' => w'.cell? ⟨g, off + k, none⟩ = some (.int .i64 q) ∧ w'.cell? ⟨g', off' + k, none⟩ = some (.int .i64 s))
          (first
            | go_keep
            | (go_split_ands
               refine ⟨?_, ?_⟩
               · (rw [hgrow.cell_far _ (by simp; omega) (Ne.symm ag)]; assumption)
               · (rw [hgrow.cell_far _ (by simp; omega) (Ne.symm ag')]; assumption)))
          ((refine step_append_lies _ (by rfl) _ _ _ (by rfl) w.heap.size 110 i0 _ 2 16 Try.underlying38 hi hz0 hz1 hz2 rfl (by omega) u8 m _ (by rfl) ((hown.alloc _).drew)
              ⟨wr.heap.size, 0, none⟩ 1 1 [.int .i64 (30 + s), .int .i64 q] (by rfl) (by rfl) (World.news_of_block (cs := #[.int .i64 (30 + s), .int .i64 q]) (t := 110) (fr := (0, 0)) (heap_alloc_new wr _)) (by simp [Value.oneCell'])
              (by omega) (by unfold maxLen; omega) (by omega) (by simp; omega) (wr.heap.size + 1) (by simp) ?_; intro gg cap w3 hown3 hgrow hat hlt3))
        have NN := Lib.hid (show OwnL w3 w.heap.size (.slice (some ⟨gg, 0, none⟩) (m + 1) cap) (panF (ks.take (k + 1)) (ss.take (k + 1)) n) by
          rw [HN.out]
          exact ownL_snoc hown3 HM.out)
        have LL := Lib.hid (show Below w.heap.size w w3 from ((HW.out.alloc HW.out.size _).drew).grown hgrow (by simp; omega) (fun j hj => (hown.lt j hj).1))
        clear hown3 hgrow hat hlt3 ag ag' hown h1 h2
        go_wp2
        go_roundw
        case rel => exact ⟨k + 1, by omega, by go_num, NN, LL⟩
        case measure => simp [intOf]; omega
    · obtain rfl : k = ks.length := by omega
      have hge : ¬ (ks.length : Int) < (ks.length : Int) := by omega
      have HT := Lib.hid (show panF (ks.take ks.length) (ss.take ks.length) n = panF ks ss n by rw [List.take_length, ← HL.out, List.take_length])
      go_wp2
      go_ret2
      exact ⟨_, rfl, by have := HO.out; rw [HT.out] at this; exact this, HW.out⟩
theorem specPan_no (v u : Value) (ks ss : List Int) (n : Int) (w : World) (hv : IntRow w v ks) (hu : IntRow w u ss) (h : ¬ PanOk ks ss n) (hk : ks.length ≤ 1048576) (hs : ss.length ≤ 1048576) :
    Calls Try.prog 40 #[v, u, .int .i64 n] w fun e w' => e = .returned (.tuple #[.slice (some ⟨w.heap.size, 0, none⟩) 0 0, .bool false]) ∧ Below w.heap.size w w' := by
  have A0 := Lib.hid (show Below w.heap.size w (w.alloc (.cells #[] 110)) from (Below.refl _ _).alloc (Nat.le_refl _) _)
  have IK := Lib.hid (l3Kit_any v ks _ (hv.lo A0.out) (by omega))
  have AS := Lib.hid (fun w1 (l : Below w.heap.size w w1) (r : Bool) (hr : (signsB ss && ((ss.length : Int) == (ks.length : Int))) = r) => l3Signs_is u ss (ks.length : Int) r hr w1 (hu.lo l) (by omega))
  have HP := Lib.hid h
  obtain ⟨a, c, rfl, _⟩ := hv
  obtain ⟨b, d, rfl, _⟩ := hu
  clear h
  cases hkb : kitB ks with
  | false =>
    rw [hkb] at IK
    clear hkb AS
    go_enter Try.func40, Try.ntmps40
    go_wp2_with fail
    refine IK.out.mono ?_
    rintro e w1 ⟨rfl, l1⟩
    have L1 := Lib.hid (show Below w.heap.size w w1 from A0.out.trans (l1.mono A0.out.size))
    clear l1
    go_wp2
    go_ret2
    exact ⟨rfl, L1.out⟩
  | true =>
    have hK := (propB_iff _).1 (show propB (KitF ks) = true from hkb)
    rw [hkb] at IK
    cases hsb : (signsB ss && ((ss.length : Int) == (ks.length : Int))) with
    | false =>
      have AS2 := Lib.hid (fun w1 l => AS.out w1 l false hsb)
      clear hkb hsb AS
      go_enter Try.func40, Try.ntmps40
      go_wp2_with fail
      refine IK.out.mono ?_
      rintro e w1 ⟨rfl, l1⟩
      have L1 := Lib.hid (show Below w.heap.size w w1 from A0.out.trans (l1.mono A0.out.size))
      have A1 := Lib.hid (AS2.out w1 L1.out)
      clear l1 AS2 IK
      go_wp2_with fail
      refine A1.out.mono ?_
      rintro e w' ⟨rfl, rfl⟩
      go_wp2
      go_ret2
      exact ⟨rfl, L1.out⟩
    | true =>
      have AS2 := Lib.hid (fun w1 l => AS.out w1 l true hsb)
      have hsb2 := hsb
      rw [Bool.and_eq_true] at hsb2
      have hS := (propB_iff _).1 (show propB (SignsF ss) = true from hsb2.1)
      have hl : ss.length = ks.length := by have := eq_of_beq hsb2.2; omega
      have hbad : (decide (1 ≤ n) && decide (n ≤ 99)) = false := by
        rw [Bool.eq_false_iff]
        intro hh
        rw [Bool.and_eq_true] at hh
        exact HP.out ⟨hK, hl, hS, of_decide_eq_true hh.1, of_decide_eq_true hh.2⟩
      have IW := Lib.hid (fun w => l1In_is n 1 99 false hbad w)
      clear hkb hsb hsb2 hl hbad AS
      go_enter Try.func40, Try.ntmps40
      go_wp2_with fail
      refine IK.out.mono ?_
      rintro e w1 ⟨rfl, l1⟩
      have L1 := Lib.hid (show Below w.heap.size w w1 from A0.out.trans (l1.mono A0.out.size))
      have A1 := Lib.hid (AS2.out w1 L1.out)
      clear l1 AS2 IK
      go_wp2_with fail
      refine A1.out.mono ?_
      rintro e w' ⟨rfl, rfl⟩
      go_wp2_with fail
      refine (IW.out _).mono ?_
      rintro e w' ⟨rfl, rfl⟩
      go_wp2
      go_ret2
      exact ⟨rfl, L1.out⟩
theorem panRow_spec (v u : Value) (ks ss : List Int) (n : Int) (w : World) (hv : IntRow w v ks) (hu : IntRow w u ss) (hk : ks.length ≤ 1048576) (hs : ss.length ≤ 1048576) :
    Calls Try.prog 40 #[v, u, .int .i64 n] w fun e w' => ∃ r, e = .returned (.tuple #[r, .bool (panR ks ss n).2]) ∧ LoadRow w' r (panR ks ss n).1 ∧ Below w.heap.size w w' := by
  unfold panR
  by_cases h : PanOk ks ss n
  · rw [if_pos (propB_yes h)]
    refine (specPan_yes v u ks ss n w hv hu h).mono ?_
    rintro e w' ⟨r, rfl, o, l⟩
    exact ⟨r, rfl, loadRow_own o, l⟩
  · rw [if_neg (by rw [propB_no h]; simp)]
    refine (specPan_no v u ks ss n w hv hu h hk hs).mono ?_
    rintro e w' ⟨rfl, l⟩
    exact ⟨_, rfl, ⟨_, _, rfl, .inl rfl⟩, l⟩
end Go.Proofs.Ytghpacgbkknhbaa
