/- Dg2, Dg3, as one text. -/
import Derived.Test.YtpklccpkgefniaaDg1
import Derived.Test.YtpklccpkgefniaaSr2
import Derived.Test.YtpklccpkgefniaaCh4
namespace Go.Proofs.Ytpklccpkgefniaa
open Go.RowKit
theorem OwnS.only {w w' : World} {B C : Nat} {v : Value} {xs : List StageV} (h : OwnS w B v xs) (o : Only C w w') (hC : C < B) : OwnS w' B v xs := by
  unfold OwnS at *
  refine ⟨h.1, ?_⟩
  rcases h.2 with h | ⟨g, cap, cur, e, hb, hg, r⟩
  · exact .inl h
  · exact .inr ⟨g, cap, cur, e, hb, (o.block g (by omega) (Array.getElem?_eq_some_iff.1 hg).1).trans hg, r⟩
theorem OwnS.alloc {w : World} {B : Nat} {v : Value} {xs : List StageV} (h : OwnS w B v xs) (o : Obj) : OwnS (w.alloc o) B v xs := by
  unfold OwnS at *
  exact World.ownsRow.alloc h o
theorem Dr.grown {w w' : World} {C : Nat} {a : Option Addr} {len cap p : Nat} {seed : Int} {B : Nat} (h : Dr w C a len cap p seed) (l : Below B w w') (hC : C < B) : Dr w' C a len cap p seed := by
  have l1 : Below (C + 1) w w' := l.mono (by omega)
  have c := h.cur
  refine ⟨⟨?_, ?_, ?_, ?_, ?_⟩, h.code.on l1 (Nat.le_succ C)⟩
  · rw [l1.cell (p := ⟨C, 0, none⟩) (Nat.lt_succ_self C)]; exact c.code
  · rw [l1.cell (p := ⟨C, 1, none⟩) (Nat.lt_succ_self C)]; exact c.place
  · rw [l1.cell (p := ⟨C, 2, none⟩) (Nat.lt_succ_self C)]; exact c.seed
  · rw [l1.frozen (p := ⟨C, 1, none⟩) (Nat.lt_succ_self C)]; exact c.free1
  · rw [l1.frozen (p := ⟨C, 2, none⟩) (Nat.lt_succ_self C)]; exact c.free2
theorem Only.fresh {w w1 w2 : World} {C : Nat} (h : Only C w w1) (l : Below w.heap.size w1 w2) : Only C w w2 :=
  ⟨l.os.trans h.os, l.tape.trans h.tape, l.output.trans h.output, Nat.le_trans h.size l.size, fun k hk hlt => (l.block k hlt).trans (h.block k hk hlt)⟩
/-- What a draw of a row of stages ends in. -/
def RowEnd (C : Nat) (a : Option Addr) (len cap p k n : Nat) (w : World) (e : Ending) (w' : World) : Prop :=
  ∃ (v : Value) (xs : List StageV) (seed' : Int) (p' : Nat), e = .returned v ∧ OwnS w' w.heap.size v xs ∧ xs.length ≤ n ∧ p' ≤ p + k ∧ Dr w' C a len cap p' seed' ∧ Only C w w'
def Cntchain7 (t : Int) : Prop := 0 ≤ t ∧ t ≤ 4
theorem cnt_chain7 : ∀ j, j < 5 → ∃ z, (#[.int .i64 2, .int .i64 1, .int .i64 3, .int .i64 0, .int .i64 4] : Array Value)[j]? = some (.int .i64 z) ∧ Cntchain7 z := by
  intro j hj
  have : j = 0 ∨ j = 1 ∨ j = 2 ∨ j = 3 ∨ j = 4 := by omega
  rcases this with rfl | rfl | rfl | rfl | rfl <;> exact ⟨_, rfl, by unfold Cntchain7; omega⟩
set_option maxRecDepth 100000 in
set_option maxHeartbeats 3200000 in
theorem chain7_any (C : Nat) (a0 : Option Addr) (len cap p : Nat) (seed : Int) (w : World) (h : Dr w C a0 len cap p seed) (hp : p ≤ 700000) :
    Calls Try.prog 137 #[.pointer (some ⟨C, 0, none⟩)] w (RowEnd C a0 len cap p 120 6 w) := by
  obtain ⟨i0, hi, hz0, hz1, hz2⟩ := info_parts infoStage
  have hC := curC h.cur
  obtain ⟨W, hW⟩ : ∃ W, w.alloc (.cells #[] 25) = W := ⟨_, rfl⟩
  have l0 : Lo w W := by rw [← hW]; exact lo_alloc _ _
  have R0 := Lib.hid (show OwnS W w.heap.size (.slice (some ⟨w.heap.size, 0, none⟩) 0 0) [] by rw [← hW]; exact World.ownsRow_lit w #[] 0 (Nat.le_refl _) (by decide) rfl)
  have O0 := Lib.hid (show Only C w W from Only.of_lo l0)
  have D0 := Lib.hid (h.lo l0)
  have hsW : w.heap.size ≤ W.heap.size := l0.size
  clear h l0
  go_enter Try.func137, Try.ntmps137
  go_wp2_with fail
  clear hW
  refine (among_new C a0 len cap p 5 seed W _ _ Cntchain7 D0.out (by omega) (by omega) (by omega) cnt_chain7).mono ?_
  rintro e w1 ⟨k, s1, p1, rfl, ⟨k0, k1⟩, hp1, d1, b1⟩
  have B1 := Lib.hid (O0.out.trans b1)
  have R1 := Lib.hid (R0.out.only b1 hC)
  have D1 := Lib.hid d1
  clear d1 b1 R0 O0 D0
  go_wp2
  go_loopw [3, 4] (fun v i wr => ∃ (m : Int) (xs : List StageV) (q : Nat) (sd : Int), i = .int .i64 m ∧ 0 ≤ m ∧ (xs.length : Int) + m ≤ 4 ∧ q ≤ p + 2 + 12 * xs.length ∧ Hid (OwnS wr w.heap.size v xs) ∧ Hid (Dr wr C a0 len cap q sd) ∧ Hid (Only C w wr)) (fun _ i _ => (intOf i).toNat)
  case atStart => exact ⟨k, [], p1, s1, rfl, k0, by simpa using k1, by simpa using hp1, R1, D1, B1⟩
  case round =>
    obtain ⟨m, xs, q, sd, rfl, m0, hxm, hq, HO, HD, HB⟩ := hrel
    obtain ⟨wq, rfl⟩ : ∃ wq : World, wq = wr := ⟨_, rfl⟩
    clear R1 D1 B1
    by_cases hlt : 0 < m
    · have ST := Lib.hid (stage7_any C a0 len cap q sd wq HD.out (by omega))
      go_wp2_with fail
      refine ST.out.mono ?_
      rintro e w2 ⟨b, s2, p2, rfl, hp2, d2, b2⟩
      obtain ⟨x, y, z⟩ := b
      have HO2 := Lib.hid (HO.out.only b2 hC)
      have HB2 := Lib.hid (HB.out.trans b2)
      have HD2 := Lib.hid d2
      obtain ⟨N, hN⟩ : ∃ N, xs.length = N := ⟨_, rfl⟩
      have HL := Lib.hid hN
      have ho2 := HO2.out
      unfold OwnS at ho2
      rw [hN] at ho2 hq hxm
      have hws := HB2.out.size
      have OB := Lib.hid (fun g hg => (ho2.lt g hg).1)
      clear d2 b2 ST HO HB HD hN
      go_wp2_with (at_builtin; refine wpList_append_own_at _ rfl _ _ 35 rfl w.heap.size 25 i0 (.agg #[.int .i64 0, .int .i64 0, .int .i64 0]) 3 24 Try.underlying35 hi hz0 hz1 hz2 rfl (by decide) _ _ _ rfl (ho2.alloc _) ⟨w2.heap.size, 0, none⟩ 1 1 [.int .i64 x, .int .i64 y, .int .i64 z] rfl rfl (World.news_of_block (cs := #[.int .i64 x, .int .i64 y, .int .i64 z]) (t := 25) (fr := (0, 0)) (heap_alloc_new w2 _)) (by simp [Value.oneCell']) (by unfold maxLen; omega) (by omega) (by simp; omega) ?_; intro v4 w4 hown4 hgrow4 hnil4 hloc4)
      have R := Lib.hid (show OwnS w4 w.heap.size v4 (xs ++ [⟨x, y, z⟩]) from ownS_snoc hown4 HL.out)
      have BL : Below w.heap.size w2 w4 := ((Below.refl _ _).alloc hws _).grown hgrow4 (by simp; omega) OB.out
      have HB4 := Lib.hid (HB2.out.fresh BL)
      have HD4 := Lib.hid (HD2.out.grown BL hC)
      clear hown4 hgrow4 hnil4 hloc4 ho2 OB BL
      go_wp2
      go_roundw
      case rel => exact ⟨m - 1, xs ++ [⟨x, y, z⟩], p2, s2, rfl, by omega, by rw [List.length_append]; simp only [List.length_cons, List.length_nil]; have := HL.out; omega, by rw [List.length_append]; simp only [List.length_cons, List.length_nil]; have := HL.out; omega, R, HD4, HB4⟩
      case measure => simp [intOf]; omega
    · have hm0 : m = 0 := by omega
      have hxn : xs.length ≤ 4 := by omega
      have ON := Lib.hid (one_num C a0 len cap q sd 40 wq HD.out (by omega) (by omega) (by omega))
      clear hm0 hxm m0
      go_wp2_with fail
      refine ON.out.mono ?_
      rintro e w2 ⟨bb, s2, p2, rfl, hp2, d2, b2⟩
      have HO2 := Lib.hid (HO.out.only b2 hC)
      have HB2 := Lib.hid (HB.out.trans b2)
      have HD2 := Lib.hid d2
      clear d2 b2 ON HO HB HD
      cases bb
      · go_wp2
        go_ret
        exact ⟨_, xs, s2, p2, rfl, HO2.out, by omega, by omega, HD2.out, HB2.out⟩
      · go_wp2
        obtain ⟨N0, hN0⟩ : ∃ N, xs.length = N := ⟨_, rfl⟩
        rw [hN0] at hq hxn
        have hf := stgRow_own HO2.out
        obtain ⟨af, cf, hvf, _, _⟩ := hf
        have HVF := Lib.hid hvf
        clear hvf
        go_loopw [3] (fun v wr => ∃ (ys : List StageV), ys.length ≤ 6 ∧ Hid (OwnS wr w.heap.size v ys) ∧ Hid (∃ a c, v = .slice a ys.length c) ∧ Hid (Dr wr C a0 len cap p2 s2) ∧ Hid (Only C w wr)) (fun v _ => 6 - lenOf v)
        case atStart => exact ⟨xs, by omega, HO2, Lib.hid ⟨af, cf, HVF.out⟩, HD2, HB2⟩
        case round =>
          obtain ⟨ys, hys, HO3, HV3, HD3, HB3⟩ := hrel
          obtain ⟨wz, rfl⟩ : ∃ wz : World, wz = wr := ⟨_, rfl⟩
          clear HO2 HD2 HB2
          obtain ⟨a3, c3, e3⟩ := HV3.out
          subst e3
          obtain ⟨N, hN⟩ : ∃ N, ys.length = N := ⟨_, rfl⟩
          have HL := Lib.hid hN
          have ho2 := HO3.out
          unfold OwnS at ho2
          rw [hN] at ho2 hys ⊢
          by_cases hl6 : N < 6
          · have hl6' : (N : Int) < 6 := by omega
            have hws := HB3.out.size
            have OB := Lib.hid (fun g hg => (ho2.lt g hg).1)
            clear hN
            go_wp2_with (at_builtin; refine wpList_append_own_at _ rfl _ _ 35 rfl w.heap.size 25 i0 (.agg #[.int .i64 0, .int .i64 0, .int .i64 0]) 3 24 Try.underlying35 hi hz0 hz1 hz2 rfl (by decide) _ _ _ rfl (ho2.alloc _) ⟨wz.heap.size, 0, none⟩ 1 1 [.int .i64 2, .int .i64 2, .int .i64 0] rfl rfl (World.news_of_block (cs := #[.int .i64 2, .int .i64 2, .int .i64 0]) (t := 25) (fr := (0, 0)) (heap_alloc_new wz _)) (by simp [Value.oneCell']) (by unfold maxLen; omega) (by omega) (by simp; omega) ?_; intro v4 w4 hown4 hgrow4 hnil4 hloc4)
            have R := Lib.hid (show OwnS w4 w.heap.size v4 (ys ++ [⟨2, 2, 0⟩]) from ownS_snoc hown4 HL.out)
            have BL : Below w.heap.size wz w4 := ((Below.refl _ _).alloc hws _).grown hgrow4 (by simp; omega) OB.out
            have HB4 := Lib.hid (HB3.out.fresh BL)
            have HD4 := Lib.hid (HD3.out.grown BL hC)
            have HLL := Lib.hid (show (ys ++ [(⟨2, 2, 0⟩ : StageV)]).length = N + 1 by rw [List.length_append, HL.out]; rfl)
            clear hown4 hgrow4 hnil4 hloc4 ho2 OB BL
            obtain ⟨a4, c4, e4, _, _⟩ := stgRow_own R.out
            rw [HLL.out] at e4
            subst e4
            go_wp2
            go_roundw
            case rel => exact ⟨ys ++ [⟨2, 2, 0⟩], by rw [HLL.out]; omega, R, Lib.hid ⟨a4, c4, by rw [HLL.out]⟩, HD4, HB4⟩
            case measure => simp [lenOf]; omega
          · have hge : ¬ (N : Int) < 6 := by omega
            have hr := HO3.out
            rw [hN] at hr
            have HR := Lib.hid hr
            clear hr hN
            go_wp2
            go_ret
            exact ⟨_, ys, s2, p2, rfl, HR.out, by have := HL.out; omega, by omega, HD3.out, HB3.out⟩
def Cntkit7 (t : Int) : Prop := 0 ≤ t ∧ t ≤ 6
theorem cnt_kit7 : ∀ j, j < 6 → ∃ z, (#[.int .i64 4, .int .i64 3, .int .i64 5, .int .i64 2, .int .i64 6, .int .i64 0] : Array Value)[j]? = some (.int .i64 z) ∧ Cntkit7 z := by
  intro j hj
  have : j = 0 ∨ j = 1 ∨ j = 2 ∨ j = 3 ∨ j = 4 ∨ j = 5 := by omega
  rcases this with rfl | rfl | rfl | rfl | rfl | rfl <;> exact ⟨_, rfl, by unfold Cntkit7; omega⟩
set_option maxRecDepth 100000 in
set_option maxHeartbeats 3200000 in
theorem kit7_any (C : Nat) (a0 : Option Addr) (len cap p : Nat) (seed : Int) (w : World) (h : Dr w C a0 len cap p seed) (hp : p ≤ 700000) :
    Calls Try.prog 146 #[.pointer (some ⟨C, 0, none⟩)] w (RowEnd C a0 len cap p 120 9 w) := by
  obtain ⟨i0, hi, hz0, hz1, hz2⟩ := info_parts infoStage
  have hC := curC h.cur
  obtain ⟨W, hW⟩ : ∃ W, w.alloc (.cells #[] 25) = W := ⟨_, rfl⟩
  have l0 : Lo w W := by rw [← hW]; exact lo_alloc _ _
  have R0 := Lib.hid (show OwnS W w.heap.size (.slice (some ⟨w.heap.size, 0, none⟩) 0 0) [] by rw [← hW]; exact World.ownsRow_lit w #[] 0 (Nat.le_refl _) (by decide) rfl)
  have O0 := Lib.hid (show Only C w W from Only.of_lo l0)
  have D0 := Lib.hid (h.lo l0)
  have hsW : w.heap.size ≤ W.heap.size := l0.size
  clear h l0
  go_enter Try.func146, Try.ntmps146
  go_wp2_with fail
  clear hW
  refine (among_new C a0 len cap p 6 seed W _ _ Cntkit7 D0.out (by omega) (by omega) (by omega) cnt_kit7).mono ?_
  rintro e w1 ⟨k, s1, p1, rfl, ⟨k0, k1⟩, hp1, d1, b1⟩
  have B1 := Lib.hid (O0.out.trans b1)
  have R1 := Lib.hid (R0.out.only b1 hC)
  have D1 := Lib.hid d1
  clear d1 b1 R0 O0 D0
  go_wp2
  go_loopw [3, 4] (fun v i wr => ∃ (m : Int) (xs : List StageV) (q : Nat) (sd : Int), i = .int .i64 m ∧ 0 ≤ m ∧ (xs.length : Int) + m ≤ 6 ∧ q ≤ p + 2 + 12 * xs.length ∧ Hid (OwnS wr w.heap.size v xs) ∧ Hid (Dr wr C a0 len cap q sd) ∧ Hid (Only C w wr)) (fun _ i _ => (intOf i).toNat)
  case atStart => exact ⟨k, [], p1, s1, rfl, k0, by simpa using k1, by simpa using hp1, R1, D1, B1⟩
  case round =>
    obtain ⟨m, xs, q, sd, rfl, m0, hxm, hq, HO, HD, HB⟩ := hrel
    obtain ⟨wq, rfl⟩ : ∃ wq : World, wq = wr := ⟨_, rfl⟩
    clear R1 D1 B1
    by_cases hlt : 0 < m
    · have ST := Lib.hid (stage7_any C a0 len cap q sd wq HD.out (by omega))
      go_wp2_with fail
      refine ST.out.mono ?_
      rintro e w2 ⟨b, s2, p2, rfl, hp2, d2, b2⟩
      obtain ⟨x, y, z⟩ := b
      have HO2 := Lib.hid (HO.out.only b2 hC)
      have HB2 := Lib.hid (HB.out.trans b2)
      have HD2 := Lib.hid d2
      obtain ⟨N, hN⟩ : ∃ N, xs.length = N := ⟨_, rfl⟩
      have HL := Lib.hid hN
      have ho2 := HO2.out
      unfold OwnS at ho2
      rw [hN] at ho2 hq hxm
      have hws := HB2.out.size
      have OB := Lib.hid (fun g hg => (ho2.lt g hg).1)
      clear d2 b2 ST HO HB HD hN
      go_wp2_with (at_builtin; refine wpList_append_own_at _ rfl _ _ 35 rfl w.heap.size 25 i0 (.agg #[.int .i64 0, .int .i64 0, .int .i64 0]) 3 24 Try.underlying35 hi hz0 hz1 hz2 rfl (by decide) _ _ _ rfl (ho2.alloc _) ⟨w2.heap.size, 0, none⟩ 1 1 [.int .i64 x, .int .i64 y, .int .i64 z] rfl rfl (World.news_of_block (cs := #[.int .i64 x, .int .i64 y, .int .i64 z]) (t := 25) (fr := (0, 0)) (heap_alloc_new w2 _)) (by simp [Value.oneCell']) (by unfold maxLen; omega) (by omega) (by simp; omega) ?_; intro v4 w4 hown4 hgrow4 hnil4 hloc4)
      have R := Lib.hid (show OwnS w4 w.heap.size v4 (xs ++ [⟨x, y, z⟩]) from ownS_snoc hown4 HL.out)
      have BL : Below w.heap.size w2 w4 := ((Below.refl _ _).alloc hws _).grown hgrow4 (by simp; omega) OB.out
      have HB4 := Lib.hid (HB2.out.fresh BL)
      have HD4 := Lib.hid (HD2.out.grown BL hC)
      clear hown4 hgrow4 hnil4 hloc4 ho2 OB BL
      go_wp2
      go_roundw
      case rel => exact ⟨m - 1, xs ++ [⟨x, y, z⟩], p2, s2, rfl, by omega, by rw [List.length_append]; simp only [List.length_cons, List.length_nil]; have := HL.out; omega, by rw [List.length_append]; simp only [List.length_cons, List.length_nil]; have := HL.out; omega, R, HD4, HB4⟩
      case measure => simp [intOf]; omega
    · have hm0 : m = 0 := by omega
      have hxn : xs.length ≤ 6 := by omega
      have ON := Lib.hid (one_num C a0 len cap q sd 30 wq HD.out (by omega) (by omega) (by omega))
      clear hm0 hxm m0
      go_wp2_with fail
      refine ON.out.mono ?_
      rintro e w2 ⟨bb, s2, p2, rfl, hp2, d2, b2⟩
      have HO2 := Lib.hid (HO.out.only b2 hC)
      have HB2 := Lib.hid (HB.out.trans b2)
      have HD2 := Lib.hid d2
      clear d2 b2 ON HO HB HD
      cases bb
      · go_wp2
        go_ret
        exact ⟨_, xs, s2, p2, rfl, HO2.out, by omega, by omega, HD2.out, HB2.out⟩
      · go_wp2
        obtain ⟨N0, hN0⟩ : ∃ N, xs.length = N := ⟨_, rfl⟩
        rw [hN0] at hq hxn
        have hf := stgRow_own HO2.out
        obtain ⟨af, cf, hvf, _, _⟩ := hf
        have HVF := Lib.hid hvf
        clear hvf
        go_loopw [3] (fun v wr => ∃ (ys : List StageV), ys.length ≤ 9 ∧ Hid (OwnS wr w.heap.size v ys) ∧ Hid (∃ a c, v = .slice a ys.length c) ∧ Hid (Dr wr C a0 len cap p2 s2) ∧ Hid (Only C w wr)) (fun v _ => 9 - lenOf v)
        case atStart => exact ⟨xs, by omega, HO2, Lib.hid ⟨af, cf, HVF.out⟩, HD2, HB2⟩
        case round =>
          obtain ⟨ys, hys, HO3, HV3, HD3, HB3⟩ := hrel
          obtain ⟨wz, rfl⟩ : ∃ wz : World, wz = wr := ⟨_, rfl⟩
          clear HO2 HD2 HB2
          obtain ⟨a3, c3, e3⟩ := HV3.out
          subst e3
          obtain ⟨N, hN⟩ : ∃ N, ys.length = N := ⟨_, rfl⟩
          have HL := Lib.hid hN
          have ho2 := HO3.out
          unfold OwnS at ho2
          rw [hN] at ho2 hys ⊢
          by_cases hl6 : N < 9
          · have hl6' : (N : Int) < 9 := by omega
            have hws := HB3.out.size
            have OB := Lib.hid (fun g hg => (ho2.lt g hg).1)
            clear hN
            go_wp2_with (at_builtin; refine wpList_append_own_at _ rfl _ _ 35 rfl w.heap.size 25 i0 (.agg #[.int .i64 0, .int .i64 0, .int .i64 0]) 3 24 Try.underlying35 hi hz0 hz1 hz2 rfl (by decide) _ _ _ rfl (ho2.alloc _) ⟨wz.heap.size, 0, none⟩ 1 1 [.int .i64 2, .int .i64 1, .int .i64 0] rfl rfl (World.news_of_block (cs := #[.int .i64 2, .int .i64 1, .int .i64 0]) (t := 25) (fr := (0, 0)) (heap_alloc_new wz _)) (by simp [Value.oneCell']) (by unfold maxLen; omega) (by omega) (by simp; omega) ?_; intro v4 w4 hown4 hgrow4 hnil4 hloc4)
            have R := Lib.hid (show OwnS w4 w.heap.size v4 (ys ++ [⟨2, 1, 0⟩]) from ownS_snoc hown4 HL.out)
            have BL : Below w.heap.size wz w4 := ((Below.refl _ _).alloc hws _).grown hgrow4 (by simp; omega) OB.out
            have HB4 := Lib.hid (HB3.out.fresh BL)
            have HD4 := Lib.hid (HD3.out.grown BL hC)
            have HLL := Lib.hid (show (ys ++ [(⟨2, 1, 0⟩ : StageV)]).length = N + 1 by rw [List.length_append, HL.out]; rfl)
            clear hown4 hgrow4 hnil4 hloc4 ho2 OB BL
            obtain ⟨a4, c4, e4, _, _⟩ := stgRow_own R.out
            rw [HLL.out] at e4
            subst e4
            go_wp2
            go_roundw
            case rel => exact ⟨ys ++ [⟨2, 1, 0⟩], by rw [HLL.out]; omega, R, Lib.hid ⟨a4, c4, by rw [HLL.out]⟩, HD4, HB4⟩
            case measure => simp [lenOf]; omega
          · have hge : ¬ (N : Int) < 9 := by omega
            have hr := HO3.out
            rw [hN] at hr
            have HR := Lib.hid hr
            clear hr hN
            go_wp2
            go_ret
            exact ⟨_, ys, s2, p2, rfl, HR.out, by have := HL.out; omega, by omega, HD3.out, HB3.out⟩
end Go.Proofs.Ytpklccpkgefniaa
namespace Go.Proofs.Ytpklccpkgefniaa
open Go.RowKit
theorem dr_new (w : World) (a : Option Addr) (len cap : Nat) (t : TypeId) (h : CodeAt w w.heap.size a len) : Dr (w.alloc (.cells #[.slice a len cap, .int .i64 0, .int .u64 0] t)) w.heap.size a len cap 0 0 :=
  ⟨cur_new w _ t, code_new h⟩
theorem lo_end {w w' : World} {o : Obj} (h : Only w.heap.size (w.alloc o) w') : Below w.heap.size w w' := lo_only h
theorem any5 {x0 x1 x2 x3 x4 : Int} : ∀ j, j < 5 → ∃ z, (#[.int .i64 x0, .int .i64 x1, .int .i64 x2, .int .i64 x3, .int .i64 x4] : Array Value)[j]? = some (.int .i64 z) ∧ True := by
  intro j hj
  have : j = 0 ∨ j = 1 ∨ j = 2 ∨ j = 3 ∨ j = 4 := by omega
  rcases this with rfl | rfl | rfl | rfl | rfl <;> exact ⟨_, rfl, trivial⟩
theorem any10 {x0 x1 x2 x3 x4 x5 x6 x7 x8 x9 : Int} : ∀ j, j < 10 → ∃ z, (#[.int .i64 x0, .int .i64 x1, .int .i64 x2, .int .i64 x3, .int .i64 x4, .int .i64 x5, .int .i64 x6, .int .i64 x7, .int .i64 x8, .int .i64 x9] : Array Value)[j]? = some (.int .i64 z) ∧ True := by
  intro j hj
  have : j = 0 ∨ j = 1 ∨ j = 2 ∨ j = 3 ∨ j = 4 ∨ j = 5 ∨ j = 6 ∨ j = 7 ∨ j = 8 ∨ j = 9 := by omega
  rcases this with rfl | rfl | rfl | rfl | rfl | rfl | rfl | rfl | rfl | rfl <;> exact ⟨_, rfl, trivial⟩
set_option maxHeartbeats 800000 in
theorem drawPull_any (a : Option Addr) (len cap : Nat) (w : World) (h : CodeAt w w.heap.size a len) :
    Calls Try.prog 62 #[.slice a len cap] w fun e w' => ∃ (v : Value) (xs : List StageV) (n : Int), e = .returned (.tuple #[v, .int .i64 n]) ∧ StgRow w' v xs ∧ xs.length ≤ 6 ∧ Below w.heap.size w w' := by
  have RR := Lib.hid (chain7_any w.heap.size a len cap 0 0 _ (dr_new w a len cap 128 h) (by omega))
  clear h
  go_enter Try.func62, Try.ntmps62
  go_wp2_with fail
  refine RR.out.mono ?_
  rintro e w1 ⟨v, xs, s1, p1, rfl, o1, hl, hp1, d1, b1⟩
  have O1 := Lib.hid o1
  have B1 := Lib.hid b1
  have HH := Lib.hid (haul7_any w.heap.size a len cap p1 s1 w1 d1 (by omega))
  clear o1 d1 b1 RR
  go_wp2_with fail
  refine HH.out.mono ?_
  rintro e w2 ⟨n, s2, p2, rfl, _, hp2, d2, b2⟩
  have O2 := Lib.hid (O1.out.only b2 (by simp))
  have L2 := Lib.hid (lo_end (B1.out.trans b2))
  clear d2 b2 HH
  go_wp2
  go_ret2
  exact ⟨v, xs, n, rfl, stgRow_own O2.out, hl, L2.out⟩
set_option maxHeartbeats 800000 in
theorem drawReach_any (a : Option Addr) (len cap : Nat) (w : World) (h : CodeAt w w.heap.size a len) :
    Calls Try.prog 69 #[.slice a len cap] w fun e w' => ∃ (v : Value) (xs : List StageV) (n : Int), e = .returned (.tuple #[v, .int .i64 n]) ∧ StgRow w' v xs ∧ xs.length ≤ 9 ∧ Below w.heap.size w w' := by
  have RR := Lib.hid (kit7_any w.heap.size a len cap 0 0 _ (dr_new w a len cap 128 h) (by omega))
  clear h
  go_enter Try.func69, Try.ntmps69
  go_wp2_with fail
  refine RR.out.mono ?_
  rintro e w1 ⟨v, xs, s1, p1, rfl, o1, hl, hp1, d1, b1⟩
  have O1 := Lib.hid o1
  have B1 := Lib.hid b1
  have D1 := Lib.hid d1
  clear o1 d1 b1 RR
  go_wp2_with fail
  refine (among_new w.heap.size a len cap p1 10 s1 w1 _ _ (fun _ => True) D1.out (by omega) (by omega) (by omega) any10).mono ?_
  rintro e w2 ⟨n, s2, p2, rfl, _, hp2, d2, b2⟩
  have O2 := Lib.hid (O1.out.only b2 (by simp))
  have L2 := Lib.hid (lo_end (B1.out.trans b2))
  clear d2 b2
  go_wp2
  go_ret2
  exact ⟨v, xs, n, rfl, stgRow_own O2.out, hl, L2.out⟩
set_option maxHeartbeats 800000 in
theorem drawIs_any (a : Option Addr) (len cap : Nat) (w : World) (h : CodeAt w w.heap.size a len) :
    Calls Try.prog 145 #[.slice a len cap] w fun e w' => ∃ b : StageV, e = .returned (.agg #[.int .i64 b.k, .int .i64 b.a, .int .i64 b.b]) ∧ Below w.heap.size w w' := by
  obtain ⟨W, hW⟩ : ∃ W, w.alloc (.cells #[.int .i64 0, .int .i64 0, .int .i64 0] 25) = W := ⟨_, rfl⟩
  have l0 : Below w.heap.size w W := by rw [← hW]; exact below_one _ _
  have RB := Lib.hid (show Fb W w.heap.size (.int .i64 0) (.int .i64 0) (.int .i64 0) by rw [← hW]; exact fb_new _ _ _ _ _)
  have hcode : CodeAt W W.heap.size a len := by
    have h2 := h.lo l0 (Nat.le_refl _)
    rcases h2 with h2 | ⟨b, off, e, hb, hc⟩
    · exact .inl h2
    · exact .inr ⟨b, off, e, Nat.lt_of_lt_of_le hb l0.size, hc⟩
  have RR := Lib.hid (stage7_any W.heap.size a len cap 0 0 _ (dr_new W a len cap 128 hcode) (by omega))
  have L0 := Lib.hid l0
  have hws : w.heap.size < W.heap.size := RB.out.1.1
  clear h hcode l0
  go_enter Try.func145, Try.ntmps145
  go_wp2_with fail
  clear hW
  refine RR.out.mono ?_
  rintro e w1 ⟨b, s1, p1, rfl, hp1, d1, b1⟩
  obtain ⟨x, y, z⟩ := b
  have L1 := Lib.hid (lo_end b1)
  have R1 := Lib.hid (RB.out.lo L1.out)
  obtain ⟨⟨_, z0, z1, z2⟩, fz⟩ := R1.out
  have k0 := fz 0
  have k1 := fz 1
  have k2 := fz 2
  have LL := Lib.hid (lo_on L0.out L1.out)
  clear d1 b1 fz RR RB
  go_wp2
  obtain ⟨⟨_, q0, q1, q2⟩, _⟩ := ((R1.out.set0 (.int .i64 x)).set1 (.int .i64 y)).set2 (.int .i64 z)
  exact bodyPost_ret (v := .agg #[.int .i64 x, .int .i64 y, .int .i64 z]) (by simp [results, Try.results145, go_sem, q0, q1, q2]) rfl ⟨⟨x, y, z⟩, rfl, ((LL.out.setCell (p := ⟨w.heap.size, 0, none⟩) (Nat.le_refl _) _).setCell (p := ⟨w.heap.size, 1, none⟩) (Nat.le_refl _) _).setCell (p := ⟨w.heap.size, 2, none⟩) (Nat.le_refl _) _⟩
theorem drawTurn_any (a : Option Addr) (len cap : Nat) (w : World) (h : CodeAt w w.heap.size a len) :
    Calls Try.prog 68 #[.slice a len cap] w fun e w' => ∃ b : StageV, e = .returned (.agg #[.int .i64 b.k, .int .i64 b.a, .int .i64 b.b]) ∧ Below w.heap.size w w' := by
  obtain ⟨W, hW⟩ : ∃ W, w.alloc (.cells #[.int .i64 0, .int .i64 0, .int .i64 0] 25) = W := ⟨_, rfl⟩
  have l0 : Below w.heap.size w W := by rw [← hW]; exact below_one _ _
  have RB := Lib.hid (show Fb W w.heap.size (.int .i64 0) (.int .i64 0) (.int .i64 0) by rw [← hW]; exact fb_new _ _ _ _ _)
  have hcode : CodeAt W W.heap.size a len := by
    have h2 := h.lo l0 (Nat.le_refl _)
    rcases h2 with h2 | ⟨b, off, e, hb, hc⟩
    · exact .inl h2
    · exact .inr ⟨b, off, e, Nat.lt_of_lt_of_le hb l0.size, hc⟩
  have RR := Lib.hid (drawIs_any a len cap W hcode)
  have L0 := Lib.hid l0
  clear h hcode l0
  go_enter Try.func68, Try.ntmps68
  go_wp2_with fail
  clear hW
  refine RR.out.mono ?_
  rintro e w1 ⟨b, rfl, l1⟩
  obtain ⟨x, y, z⟩ := b
  have R1 := Lib.hid (RB.out.lo l1)
  obtain ⟨⟨_, z0, z1, z2⟩, fz⟩ := R1.out
  have k0 := fz 0
  have k1 := fz 1
  have k2 := fz 2
  have LL := Lib.hid (lo_on L0.out l1)
  clear fz RR RB l1
  go_wp2
  obtain ⟨⟨_, q0, q1, q2⟩, _⟩ := ((R1.out.set0 (.int .i64 x)).set1 (.int .i64 y)).set2 (.int .i64 z)
  exact bodyPost_ret (v := .agg #[.int .i64 x, .int .i64 y, .int .i64 z]) (by simp [results, Try.results68, go_sem, q0, q1, q2]) rfl ⟨⟨x, y, z⟩, rfl, ((LL.out.setCell (p := ⟨w.heap.size, 0, none⟩) (Nat.le_refl _) _).setCell (p := ⟨w.heap.size, 1, none⟩) (Nat.le_refl _) _).setCell (p := ⟨w.heap.size, 2, none⟩) (Nat.le_refl _) _⟩
theorem stg_lit (w : World) (x y z : Int) : StgRow (w.alloc (.cells #[.int .i64 x, .int .i64 y, .int .i64 z] 25)) (.slice (some ⟨w.heap.size, 0, none⟩) 1 1) [⟨x, y, z⟩] := by
  refine ⟨_, 1, rfl, Nat.le_refl _, .inr ⟨w.heap.size, 0, rfl, by simp, fun j hj => ?_⟩⟩
  obtain rfl : j = 0 := by simpa using hj
  exact ⟨by rw [World.cell?_alloc_at _ _ _ _ rfl]; rfl, by rw [World.cell?_alloc_at _ _ _ _ rfl]; rfl, by rw [World.cell?_alloc_at _ _ _ _ rfl]; rfl⟩
set_option maxRecDepth 100000 in
set_option maxHeartbeats 3200000 in
theorem drawLever_any (a : Option Addr) (len cap : Nat) (w : World) (h : CodeAt w w.heap.size a len) :
    Calls Try.prog 63 #[.slice a len cap] w fun e w' => ∃ (b : StageV) (n m : Int), e = .returned (.tuple #[.agg #[.int .i64 b.k, .int .i64 b.a, .int .i64 b.b], .int .i64 n, .int .i64 m]) ∧ Below w.heap.size w w' := by
  obtain ⟨W, hW⟩ : ∃ W, w.alloc (.cells #[.int .i64 0, .int .i64 0, .int .i64 0] 25) = W := ⟨_, rfl⟩
  have l0 : Below w.heap.size w W := by rw [← hW]; exact below_one _ _
  have RB := Lib.hid (show Fb W w.heap.size (.int .i64 0) (.int .i64 0) (.int .i64 0) by rw [← hW]; exact fb_new _ _ _ _ _)
  have hcode : CodeAt W W.heap.size a len := by
    have h2 := h.lo l0 (Nat.le_refl _)
    rcases h2 with h2 | ⟨b, off, e, hb, hc⟩
    · exact .inl h2
    · exact .inr ⟨b, off, e, Nat.lt_of_lt_of_le hb l0.size, hc⟩
  have RR := Lib.hid (stage7_any W.heap.size a len cap 0 0 _ (dr_new W a len cap 128 hcode) (by omega))
  have L0 := Lib.hid l0
  have hws : w.heap.size < W.heap.size := RB.out.1.1
  have RC := Lib.hid (RB.out.lo (below_one W (.cells #[.slice a len cap, .int .i64 0, .int .u64 0] 128)))
  clear h hcode l0 RB
  go_enter Try.func63, Try.ntmps63
  go_wp2_with fail
  clear hW
  refine RR.out.mono ?_
  rintro e w1 ⟨b, s1, p1, rfl, hp1, d1, b1⟩
  obtain ⟨x, y, z⟩ := b
  have hsz : W.heap.size < w1.heap.size := by have := b1.size; simp at this; omega
  have l2 : Lo w1 (w1.alloc (.cells #[.int .i64 x, .int .i64 y, .int .i64 z] 25)) := lo_alloc _ _
  have B2 := Lib.hid (b1.trans (Only.of_lo l2))
  have R2 := Lib.hid ((RC.out.only b1 (by omega)).lo l2)
  have S2 := Lib.hid (fb_new w1 (.int .i64 x) (.int .i64 y) (.int .i64 z) 25)
  have D2 := Lib.hid (d1.lo l2)
  have ON := Lib.hid (one_num W.heap.size a len cap p1 s1 4 _ D2.out (by omega) (by omega) (by omega))
  have hgB : (W.alloc (.cells #[.slice a len cap, .int .i64 0, .int .u64 0] 128)).heap.size ≤ w1.heap.size := b1.size
  obtain ⟨g, hg⟩ : ∃ g, w1.heap.size = g := ⟨_, rfl⟩
  rw [hg] at S2 hsz hgB
  have HG := Lib.hid hg
  clear d1 b1 l2 RR RC hg
  go_wp2_with fail
  rw [HG.out]
  refine ON.out.mono ?_
  rintro e w3 ⟨bb, s3, p3, rfl, hp3, d3, b3⟩
  have B3 := Lib.hid (B2.out.trans b3)
  have R3 := Lib.hid (R2.out.only b3 (by omega))
  have S3 := Lib.hid (S2.out.only b3 (by omega))
  have D3 := Lib.hid d3
  clear d3 b3 ON B2 R2 S2 D2
  cases bb
  · have P1 := Lib.hid (pick_num W.heap.size a len cap p3 s3 6 w3 D3.out (by omega) (by omega) (by omega))
    go_wp2_with fail
    refine P1.out.mono ?_
    rintro e w4 ⟨u, s4, p4, rfl, ⟨u0, u1⟩, hp4, d4, b4⟩
    have B4 := Lib.hid (B3.out.trans b4)
    have R4 := Lib.hid (R3.out.only b4 (by omega))
    have S4 := Lib.hid (S3.out.only b4 (by omega))
    have P2 := Lib.hid (pick_num W.heap.size a len cap p4 s4 6 w4 d4 (by omega) (by omega) (by omega))
    clear d4 b4 P1 B3 R3 S3 D3
    go_wp2_with fail
    refine P2.out.mono ?_
    rintro e w5 ⟨t, s5, p5, rfl, ⟨t0, t1⟩, hp5, d5, b5⟩
    have B4' := Lib.hid (B4.out.trans b5)
    have R4' := Lib.hid (R4.out.only b5 (by omega))
    have S4' := Lib.hid (S4.out.only b5 (by omega))
    obtain ⟨W5, hW5⟩ : ∃ W5, ((w5.setCell ⟨g, 0, none⟩ (.int .i64 1)).setCell ⟨g, 1, none⟩ (.int .i64 (1 + u))).setCell ⟨g, 2, none⟩ (.int .i64 (1 + t)) = W5 := ⟨_, rfl⟩
    have S5 := Lib.hid (show Fb W5 g _ _ _ by rw [← hW5]; exact ((S4'.out.set0 (.int .i64 1)).set1 (.int .i64 (1 + u))).set2 (.int .i64 (1 + t)))
    have R5 := Lib.hid (show Fb W5 w.heap.size _ _ _ by rw [← hW5]; exact ((R4'.out.apart (by omega) 0 _).apart (by omega) 1 _).apart (by omega) 2 _)
    have B5 := Lib.hid (show Only W.heap.size _ W5 by rw [← hW5]; exact only_set_own (only_set_own (only_set_own B4'.out hgB 0 _) hgB 1 _) hgB 2 _)
    have D5 := Lib.hid (show Dr W5 W.heap.size a len cap p5 s5 by rw [← hW5]; exact ((d5.set (B := g) (by omega) (Nat.le_refl _) 0 _).set (B := g) (by omega) (Nat.le_refl _) 1 _).set (B := g) (by omega) (Nat.le_refl _) 2 _)
    obtain ⟨⟨_, c0, c1, c2⟩, fc⟩ := S4'.out
    have f0 := fc 0
    have f1 := fc 1
    have f2 := fc 2
    clear fc d5 b5 P2 B4 R4 S4 B4' R4' S4'
    obtain ⟨y, hy⟩ : ∃ y, 1 + u = y := ⟨_, rfl⟩
    obtain ⟨z, hz⟩ : ∃ z, 1 + t = z := ⟨_, rfl⟩
    rw [hy, hz] at S5 hW5
    have PQ := Lib.hid (pick_num W.heap.size a len cap p5 s5 20 W5 D5.out (by omega) (by omega) (by omega))
    go_wp2_with fail
    clear hW5 hy hz c0 c1 c2 f0 f1 f2
    refine PQ.out.mono ?_
    rintro e w6 ⟨q, s6, p6, rfl, ⟨q0, q1⟩, hp6, d6, b6⟩
    have B6 := Lib.hid (B5.out.trans b6)
    have R6 := Lib.hid (R5.out.only b6 (by omega))
    have S6 := Lib.hid (S5.out.only b6 (by omega))
    have D6 := Lib.hid d6
    obtain ⟨ld, hld⟩ : ∃ ld, 1 + q = ld := ⟨_, rfl⟩
    clear d6 b6 PQ B5 R5 S5 D5
    obtain ⟨⟨_, y0, y1, y2⟩, _⟩ := S6.out
    have LL := Lib.hid (below_one w6 (.cells #[.int .i64 1, .int .i64 y, .int .i64 z] 25))
    have LP := Lib.hid (specLeastPull_any (.slice (some ⟨w6.heap.size, 0, none⟩) 1 1) [⟨1, y, z⟩] ld _ (stg_lit w6 1 y z) (by simp))
    go_wp2_with fail
    clear hld y0 y1 y2
    refine LP.out.mono ?_
    rintro e w7 ⟨rfl, l7⟩
    have l67 := lo_on LL.out l7
    have B7 := Lib.hid (B6.out.trans (Only.of_lo l67))
    have R7 := Lib.hid (R6.out.lo l67)
    have S7 := Lib.hid (S6.out.lo l67)
    have D7 := Lib.hid (D6.out.lo l67)
    obtain ⟨p7, hp7⟩ : ∃ p7, p6 = p7 := ⟨_, rfl⟩
    obtain ⟨s7, hs7⟩ : ∃ s7, s6 = s7 := ⟨_, rfl⟩
    rw [hp7] at D7 hp6
    rw [hs7] at D7
    generalize leastF [(⟨1, y, z⟩ : StageV)] ld = py
    generalize askB [(⟨1, y, z⟩ : StageV)] ld = ok
    clear l7 l67 LP LL B6 R6 S6 D6 hp7 hs7
    cases ok with
    | false =>
      go_wp2_with fail
      refine (among_new W.heap.size a len cap p7 5 s7 w7 _ _ (fun _ => True) D7.out (by omega) (by omega) (by omega) any5).mono ?_
      rintro e w8 ⟨pu, s8, p8, rfl, _, hp8, d8, b8⟩
      have SZ := Lib.hid (S7.out.only b8 (by omega))
      have RZ := Lib.hid (R7.out.only b8 (by omega))
      have LZ := Lib.hid (lo_on L0.out (lo_end (B7.out.trans b8)))
      clear d8 b8
      obtain ⟨⟨_, y0, y1, y2⟩, _⟩ := SZ.out
      obtain ⟨⟨_, z0, z1, z2⟩, fz⟩ := RZ.out
      have k0 := fz 0
      have k1 := fz 1
      have k2 := fz 2
      clear fz
      go_wp2
      obtain ⟨⟨_, q0, q1, q2⟩, _⟩ := ((RZ.out.set0 (.int .i64 1)).set1 (.int .i64 y)).set2 (.int .i64 z)
      exact bodyPost_ret (v := .tuple #[.agg #[.int .i64 1, .int .i64 y, .int .i64 z], .int .i64 ld, .int .i64 pu]) (by simp [results, Try.results63, go_sem, q0, q1, q2]) rfl ⟨⟨1, y, z⟩, ld, pu, rfl, ((LZ.out.setCell (p := ⟨w.heap.size, 0, none⟩) (Nat.le_refl _) _).setCell (p := ⟨w.heap.size, 1, none⟩) (Nat.le_refl _) _).setCell (p := ⟨w.heap.size, 2, none⟩) (Nat.le_refl _) _⟩
    | true =>
      have ON := Lib.hid (one_num W.heap.size a len cap p7 s7 3 w7 D7.out (by omega) (by omega) (by omega))
      clear D7
      go_wp2_with fail
      refine ON.out.mono ?_
      rintro e w9 ⟨bb, s9, p9, rfl, hp9, d9, b9⟩
      obtain ⟨p7', hp7'⟩ : ∃ p, p9 = p := ⟨_, rfl⟩
      have B9 := Lib.hid (B7.out.trans b9)
      have R9 := Lib.hid (R7.out.only b9 (by omega))
      have S9 := Lib.hid (S7.out.only b9 (by omega))
      have D9 := Lib.hid d9
      clear d9 b9 ON B7 R7 S7 hp7'
      cases bb
      · have SZ := S9
        have RZ := R9
        have LZ := Lib.hid (lo_on L0.out (lo_end B9.out))
        obtain ⟨pu, hpu⟩ : ∃ pu, py = pu := ⟨_, rfl⟩
        rw [hpu]
        clear hpu
        obtain ⟨⟨_, y0, y1, y2⟩, _⟩ := SZ.out
        obtain ⟨⟨_, z0, z1, z2⟩, fz⟩ := RZ.out
        have k0 := fz 0
        have k1 := fz 1
        have k2 := fz 2
        clear fz
        go_wp2
        obtain ⟨⟨_, q0, q1, q2⟩, _⟩ := ((RZ.out.set0 (.int .i64 1)).set1 (.int .i64 y)).set2 (.int .i64 z)
        exact bodyPost_ret (v := .tuple #[.agg #[.int .i64 1, .int .i64 y, .int .i64 z], .int .i64 ld, .int .i64 pu]) (by simp [results, Try.results63, go_sem, q0, q1, q2]) rfl ⟨⟨1, y, z⟩, ld, pu, rfl, ((LZ.out.setCell (p := ⟨w.heap.size, 0, none⟩) (Nat.le_refl _) _).setCell (p := ⟨w.heap.size, 1, none⟩) (Nat.le_refl _) _).setCell (p := ⟨w.heap.size, 2, none⟩) (Nat.le_refl _) _⟩
      · have B7 := B9
        have R7 := R9
        have S7 := S9
        have D7 := D9
        go_wp2_with fail
        refine (among_new W.heap.size a len cap p9 5 s9 w9 _ _ (fun _ => True) D7.out (by omega) (by omega) (by omega) any5).mono ?_
        rintro e w8 ⟨pu, s8, p8, rfl, _, hp8, d8, b8⟩
        have SZ := Lib.hid (S7.out.only b8 (by omega))
        have RZ := Lib.hid (R7.out.only b8 (by omega))
        have LZ := Lib.hid (lo_on L0.out (lo_end (B7.out.trans b8)))
        clear d8 b8
        obtain ⟨⟨_, y0, y1, y2⟩, _⟩ := SZ.out
        obtain ⟨⟨_, z0, z1, z2⟩, fz⟩ := RZ.out
        have k0 := fz 0
        have k1 := fz 1
        have k2 := fz 2
        clear fz
        go_wp2
        obtain ⟨⟨_, q0, q1, q2⟩, _⟩ := ((RZ.out.set0 (.int .i64 1)).set1 (.int .i64 y)).set2 (.int .i64 z)
        exact bodyPost_ret (v := .tuple #[.agg #[.int .i64 1, .int .i64 y, .int .i64 z], .int .i64 ld, .int .i64 pu]) (by simp [results, Try.results63, go_sem, q0, q1, q2]) rfl ⟨⟨1, y, z⟩, ld, pu, rfl, ((LZ.out.setCell (p := ⟨w.heap.size, 0, none⟩) (Nat.le_refl _) _).setCell (p := ⟨w.heap.size, 1, none⟩) (Nat.le_refl _) _).setCell (p := ⟨w.heap.size, 2, none⟩) (Nat.le_refl _) _⟩
  · have B5 := B3
    have R5 := R3
    have S5 := S3
    have D5 := D3
    clear B3 R3 S3 D3
    have PQ := Lib.hid (pick_num W.heap.size a len cap p3 s3 20 w3 D5.out (by omega) (by omega) (by omega))
    go_wp2_with fail
    refine PQ.out.mono ?_
    rintro e w6 ⟨q, s6, p6, rfl, ⟨q0, q1⟩, hp6, d6, b6⟩
    have B6 := Lib.hid (B5.out.trans b6)
    have R6 := Lib.hid (R5.out.only b6 (by omega))
    have S6 := Lib.hid (S5.out.only b6 (by omega))
    have D6 := Lib.hid d6
    obtain ⟨ld, hld⟩ : ∃ ld, 1 + q = ld := ⟨_, rfl⟩
    clear d6 b6 PQ B5 R5 S5 D5
    obtain ⟨⟨_, y0, y1, y2⟩, _⟩ := S6.out
    have LL := Lib.hid (below_one w6 (.cells #[.int .i64 x, .int .i64 y, .int .i64 z] 25))
    have LP := Lib.hid (specLeastPull_any (.slice (some ⟨w6.heap.size, 0, none⟩) 1 1) [⟨x, y, z⟩] ld _ (stg_lit w6 x y z) (by simp))
    go_wp2_with fail
    clear hld y0 y1 y2
    refine LP.out.mono ?_
    rintro e w7 ⟨rfl, l7⟩
    have l67 := lo_on LL.out l7
    have B7 := Lib.hid (B6.out.trans (Only.of_lo l67))
    have R7 := Lib.hid (R6.out.lo l67)
    have S7 := Lib.hid (S6.out.lo l67)
    have D7 := Lib.hid (D6.out.lo l67)
    obtain ⟨p7, hp7⟩ : ∃ p7, p6 = p7 := ⟨_, rfl⟩
    obtain ⟨s7, hs7⟩ : ∃ s7, s6 = s7 := ⟨_, rfl⟩
    rw [hp7] at D7 hp6
    rw [hs7] at D7
    generalize leastF [(⟨x, y, z⟩ : StageV)] ld = py
    generalize askB [(⟨x, y, z⟩ : StageV)] ld = ok
    clear l7 l67 LP LL B6 R6 S6 D6 hp7 hs7
    cases ok with
    | false =>
      go_wp2_with fail
      refine (among_new W.heap.size a len cap p7 5 s7 w7 _ _ (fun _ => True) D7.out (by omega) (by omega) (by omega) any5).mono ?_
      rintro e w8 ⟨pu, s8, p8, rfl, _, hp8, d8, b8⟩
      have SZ := Lib.hid (S7.out.only b8 (by omega))
      have RZ := Lib.hid (R7.out.only b8 (by omega))
      have LZ := Lib.hid (lo_on L0.out (lo_end (B7.out.trans b8)))
      clear d8 b8
      obtain ⟨⟨_, y0, y1, y2⟩, _⟩ := SZ.out
      obtain ⟨⟨_, z0, z1, z2⟩, fz⟩ := RZ.out
      have k0 := fz 0
      have k1 := fz 1
      have k2 := fz 2
      clear fz
      go_wp2
      obtain ⟨⟨_, q0, q1, q2⟩, _⟩ := ((RZ.out.set0 (.int .i64 x)).set1 (.int .i64 y)).set2 (.int .i64 z)
      exact bodyPost_ret (v := .tuple #[.agg #[.int .i64 x, .int .i64 y, .int .i64 z], .int .i64 ld, .int .i64 pu]) (by simp [results, Try.results63, go_sem, q0, q1, q2]) rfl ⟨⟨x, y, z⟩, ld, pu, rfl, ((LZ.out.setCell (p := ⟨w.heap.size, 0, none⟩) (Nat.le_refl _) _).setCell (p := ⟨w.heap.size, 1, none⟩) (Nat.le_refl _) _).setCell (p := ⟨w.heap.size, 2, none⟩) (Nat.le_refl _) _⟩
    | true =>
      have ON := Lib.hid (one_num W.heap.size a len cap p7 s7 3 w7 D7.out (by omega) (by omega) (by omega))
      clear D7
      go_wp2_with fail
      refine ON.out.mono ?_
      rintro e w9 ⟨bb, s9, p9, rfl, hp9, d9, b9⟩
      obtain ⟨p7', hp7'⟩ : ∃ p, p9 = p := ⟨_, rfl⟩
      have B9 := Lib.hid (B7.out.trans b9)
      have R9 := Lib.hid (R7.out.only b9 (by omega))
      have S9 := Lib.hid (S7.out.only b9 (by omega))
      have D9 := Lib.hid d9
      clear d9 b9 ON B7 R7 S7 hp7'
      cases bb
      · have SZ := S9
        have RZ := R9
        have LZ := Lib.hid (lo_on L0.out (lo_end B9.out))
        obtain ⟨pu, hpu⟩ : ∃ pu, py = pu := ⟨_, rfl⟩
        rw [hpu]
        clear hpu
        obtain ⟨⟨_, y0, y1, y2⟩, _⟩ := SZ.out
        obtain ⟨⟨_, z0, z1, z2⟩, fz⟩ := RZ.out
        have k0 := fz 0
        have k1 := fz 1
        have k2 := fz 2
        clear fz
        go_wp2
        obtain ⟨⟨_, q0, q1, q2⟩, _⟩ := ((RZ.out.set0 (.int .i64 x)).set1 (.int .i64 y)).set2 (.int .i64 z)
        exact bodyPost_ret (v := .tuple #[.agg #[.int .i64 x, .int .i64 y, .int .i64 z], .int .i64 ld, .int .i64 pu]) (by simp [results, Try.results63, go_sem, q0, q1, q2]) rfl ⟨⟨x, y, z⟩, ld, pu, rfl, ((LZ.out.setCell (p := ⟨w.heap.size, 0, none⟩) (Nat.le_refl _) _).setCell (p := ⟨w.heap.size, 1, none⟩) (Nat.le_refl _) _).setCell (p := ⟨w.heap.size, 2, none⟩) (Nat.le_refl _) _⟩
      · have B7 := B9
        have R7 := R9
        have S7 := S9
        have D7 := D9
        go_wp2_with fail
        refine (among_new W.heap.size a len cap p9 5 s9 w9 _ _ (fun _ => True) D7.out (by omega) (by omega) (by omega) any5).mono ?_
        rintro e w8 ⟨pu, s8, p8, rfl, _, hp8, d8, b8⟩
        have SZ := Lib.hid (S7.out.only b8 (by omega))
        have RZ := Lib.hid (R7.out.only b8 (by omega))
        have LZ := Lib.hid (lo_on L0.out (lo_end (B7.out.trans b8)))
        clear d8 b8
        obtain ⟨⟨_, y0, y1, y2⟩, _⟩ := SZ.out
        obtain ⟨⟨_, z0, z1, z2⟩, fz⟩ := RZ.out
        have k0 := fz 0
        have k1 := fz 1
        have k2 := fz 2
        clear fz
        go_wp2
        obtain ⟨⟨_, q0, q1, q2⟩, _⟩ := ((RZ.out.set0 (.int .i64 x)).set1 (.int .i64 y)).set2 (.int .i64 z)
        exact bodyPost_ret (v := .tuple #[.agg #[.int .i64 x, .int .i64 y, .int .i64 z], .int .i64 ld, .int .i64 pu]) (by simp [results, Try.results63, go_sem, q0, q1, q2]) rfl ⟨⟨x, y, z⟩, ld, pu, rfl, ((LZ.out.setCell (p := ⟨w.heap.size, 0, none⟩) (Nat.le_refl _) _).setCell (p := ⟨w.heap.size, 1, none⟩) (Nat.le_refl _) _).setCell (p := ⟨w.heap.size, 2, none⟩) (Nat.le_refl _) _⟩
end Go.Proofs.Ytpklccpkgefniaa
