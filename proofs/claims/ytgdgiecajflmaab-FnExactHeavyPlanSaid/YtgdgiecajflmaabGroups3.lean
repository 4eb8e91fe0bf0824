/- The contract of the program's coinsByOutcome. -/
import Derived.Test.YtgdgiecajflmaabGroups2
import Derived.WalkSpells
import Derived.Deep.QuietTactic
import Derived.BigQuiet
namespace Go.Proofs.Ytgdgiecajflmaab
open Go.RowKit Go.Maps
theorem wpList_mapEntry_eq {P : Program} (w : World) {ops : Array Oper} {rest : List Oper} {o : Oper} {a : Act} {Q : Exit → Act → World → Prop}
    (hg : o.guard = none) (m x : Operand) (t : TypeId) (hop : o.op = Op.mapEntry t m x) (mv kv : Value) (hm : a.eval m = mv) (hx : a.eval x = kv) (r : Value) (w1 : World) (hrun : (Instr.mapEntry t mv kv).run P w = .ok r w1)
    (hK : wpList P ops Q rest (a.put o.dst r) w1) : wpList P ops Q (o :: rest) a w := by
  refine wpList_plain hg fun K' hK' => ?_
  unfold Oper.wp
  simp [execOp, hop, hm, hx, hrun, Result.andThen]
  exact hK' _ _ hK
theorem wpList_entryStore_eq {P : Program} (w : World) {ops : Array Oper} {rest : List Oper} {o : Oper} {a : Act} {Q : Exit → Act → World → Prop}
    (hg : o.guard = none) (m s x : Operand) (t : TypeId) (hop : o.op = Op.entryStore t m s x) (mv sv xv : Value) (hm : a.eval m = mv) (hs : a.eval s = sv) (hx : a.eval x = xv) (w1 : World) (hrun : (Instr.entryStore t mv sv xv).run P w = .ok () w1)
    (hK : wpList P ops Q rest (a.put o.dst undef) w1) : wpList P ops Q (o :: rest) a w := by
  refine wpList_plain hg fun K' hK' => ?_
  unfold Oper.wp
  simp [execOp, hop, hm, hs, hx, hrun, Result.andThen]
  exact hK' _ _ hK
theorem infoA2 : (Try.prog.info? 66).map (fun i => (i.zero, i.size, i.bytes)) = some (some (.agg #[.int .i64 0, .int .i64 0]), 2, 16) := by kernel_rfl
/-- The coins that have come, the last one first: k of them with all kinds; and of one more coin j kinds. -/
def rowP (zs : List Int) (c j : Nat) : List (Int × Int) := ((zs.take j).map (fun z => ((c : Int), z))).reverse
def doneP (zs : List Int) : Nat → List (Int × Int)
  | 0 => []
  | k + 1 => rowP zs k zs.length ++ doneP zs k
theorem rowP_succ (zs : List Int) (c j : Nat) (h : j < zs.length) : rowP zs c (j + 1) = ((c : Int), zs.getD j 0) :: rowP zs c j := by
  unfold rowP
  rw [List.take_add_one, List.map_append, List.reverse_append]
  simp [List.getD, h]
theorem rowP_len (zs : List Int) (c j : Nat) (h : j ≤ zs.length) : (rowP zs c j).length = j := by simp [rowP]; omega
theorem doneP_len (zs : List Int) : ∀ k, (doneP zs k).length = k * zs.length := by
  intro k
  induction k with
  | zero => simp [doneP]
  | succ k ih => rw [doneP, List.length_append, ih, rowP_len zs k _ (Nat.le_refl _), Nat.succ_mul]; omega
noncomputable def keyP (xss : List (List Int)) (p : Int × Int) : Lit := klF (cdF xss p.1.toNat p.2)
theorem cdF_small {n : Int} {xss : List (List Int)} (hp : PlanF n xss) {c : Nat} (hc : (c : Int) < n) {z : Int} (hz : z = 1 ∨ z = -1) : ∀ j, -1 ≤ cdF xss c z j ∧ cdF xss c z j ≤ 1 := by
  intro j
  unfold cdF
  by_cases h : j < xss.length
  · rw [if_pos h]
    have hw := hp.each j h
    have hx := hw.2.1 c (by have := hw.1; omega)
    rcases hz with e | e <;> rw [e] <;> omega
  · rw [if_neg h]; omega
theorem sel_len (K : Int × Int → Lit) (l : Lit) (ps : List (Int × Int)) : (selF K l ps).length ≤ ps.length := List.length_filter_le _ _
set_option maxRecDepth 100000 in
set_option maxHeartbeats 6400000 in
theorem byOutcome_yes (N : Nat) (v u : Value) (xss : List (List Int)) (zs : List Int) (w : World) (hr : TabRow w v xss) (hb : SmallT xss) (hn : coinsB (N : Int) = true) (hp : PlanF (N : Int) xss) (hu : IntRow w u zs) (hz2 : zs.length ≤ 2) (hz : ∀ j, j < zs.length → zs.getD j 0 = 1 ∨ zs.getD j 0 = -1) :
    Calls Try.prog 85 #[.int .i64 (N : Int), v, u] w fun e w' => ∃ b, e = .returned (.tuple #[.map (some b), .bool true]) ∧ CoinsM w' b (N * zs.length) (keyP xss) (doneP zs N) ∧ w.heap.size ≤ b ∧ Below w.heap.size w w' := by
  have IP := Lib.hid (isPlan_any (N : Int) v xss w hr hb)
  rw [hn, show planB (N : Int) xss = true from propB_yes hp, Bool.true_and] at IP
  have hN : N ≤ 40 := by unfold coinsB at hn; simp at hn; omega
  have OO := Lib.hid (fun (c : Nat) (z : Int) w1 (l : Below w.heap.size w w1) (hc : (c : Int) < (N : Int)) (hz : z = 1 ∨ z = -1) => outcomeOf_any (N : Int) v xss c z w1 (hr.lo l) hp hc hz)
  have CS := Lib.hid (fun (c : Nat) (z : Int) (hc : (c : Int) < (N : Int)) (hz : z = 1 ∨ z = -1) => cdF_small hp hc hz)
  have HZ := Lib.hid hz
  obtain ⟨i0, hi, hz0, hz1, hz2'⟩ := info_parts infoA2
  have hmm := @run_makeMap Try.prog
  obtain ⟨au, cu, rfl, hu⟩ := hu
  have HU := Lib.hid hu
  have hv : ∃ a c, v = .slice a xss.length c := by obtain ⟨a, c, e, _⟩ := hr; exact ⟨a, c, e⟩
  obtain ⟨a, c, rfl⟩ := hv
  obtain ⟨Z, hZ⟩ : ∃ Z, zs.length = Z := ⟨_, rfl⟩
  have HZZ := Lib.hid hZ
  rw [hZ] at hz2 HZ ⊢
  clear hr hb hn hp hu hz hZ
  go_enter Try.func85, Try.ntmps85
  go_wp2_with fail
  refine IP.out.mono ?_
  rintro e w1 ⟨rfl, l1⟩
  have L1 := Lib.hid (l1.alloc l1.size (.map #[] 0))
  have C1 := Lib.hid (CoinsM.start w1 (keyP xss))
  have hb1 := l1.size
  clear l1 IP
  go_wp2
  go_loopw [25] (fun i wr => ∃ k : Nat, k ≤ N ∧ i = .int .i64 k ∧ Hid (CoinsM wr w1.heap.size (k * Z) (keyP xss) (doneP zs k)) ∧ Hid (Below w.heap.size w wr)) (fun i _ => N - (intOf i).toNat)
  case atStart => exact ⟨0, Nat.zero_le _, rfl, Lib.hid (by rw [Nat.zero_mul]; exact C1.out), L1⟩
  case round =>
    obtain ⟨k, hk, rfl, HC, HW⟩ := hrel
    obtain ⟨wq, rfl⟩ : ∃ wq : World, wq = wr := ⟨_, rfl⟩
    clear C1 L1
    by_cases hlt : k < N
    · have hlt' : (k : Int) < (N : Int) := by omega
      have HC0 := Lib.hid (show CoinsM wq w1.heap.size (k * Z + 0) (keyP xss) (rowP zs k 0 ++ doneP zs k) from HC.out)
      go_wp2
      go_loopw [30] (fun i ws => ∃ j : Nat, j ≤ Z ∧ i = .int .i64 j ∧ Hid (CoinsM ws w1.heap.size (k * Z + j) (keyP xss) (rowP zs k j ++ doneP zs k)) ∧ Hid (Below w.heap.size w ws)) (fun i _ => Z - (intOf i).toNat)
      case atStart => exact ⟨0, Nat.zero_le _, rfl, HC0, HW⟩
      case round =>
        obtain ⟨j, hj, rfl, HCJ, HWJ⟩ := hrel
        obtain ⟨ws, rfl⟩ : ∃ ws : World, ws = wr := ⟨_, rfl⟩
        clear HC0
        by_cases hjl : j < Z
        · have hjl' : (j : Int) < (Z : Int) := by omega
          rcases HU.out with h | ⟨gz, oz, rfl, hgz, hcz⟩
          · exfalso; rw [← HZZ.out, h] at hjl; simp at hjl
          have c1 := hcz j (by rw [HZZ.out]; exact hjl)
          rw [← HWJ.out.cell (p := ⟨gz, oz + j, none⟩) hgz] at c1
          have hz1' := HZ.out j hjl
          have HRP := Lib.hid (rowP_succ zs k j (by rw [HZZ.out]; exact hjl))
          generalize zs.getD j 0 = z at c1 hz1' HRP
          have OW := Lib.hid (OO.out k z ws HWJ.out hlt' hz1')
          have CB := Lib.hid (CS.out k z hlt' hz1')
          have KP := Lib.hid (show keyP xss ((k : Int), z) = klF (cdF xss k z) from rfl)
          generalize cdF xss k z = f at OW CB KP
          clear hcz
          go_wp2_with fail
          refine OW.out.mono ?_
          rintro e w4 ⟨rfl, l4⟩
          have L4 := Lib.hid (HWJ.out.trans (l4.mono HWJ.out.size))
          have C4 := Lib.hid (HCJ.out.lo l4)
          have hsz4 := L4.out.size
          obtain ⟨W, hW⟩ : ∃ W, w4.alloc (.cells #[.int .i64 (f 0), .int .i64 (f 1), .int .i64 (f 2), .int .i64 (f 3), .int .i64 (f 4)] 73) = W := ⟨_, rfl⟩
          have LW := Lib.hid (show Below w4.heap.size w4 W by rw [← hW]; exact (Below.refl _ _).alloc (Nat.le_refl _) _)
          have hszW := LW.out.size
          have LA := Lib.hid ((Below.refl W.heap.size W).alloc (Nat.le_refl _) (.cells #[.int .i64 (k : Int), .int .i64 z] 66))
          have C5 := (C4.out.lo LW.out).lo LA.out
          have hpl : (rowP zs k j ++ doneP zs k).length ≤ 200 := by
            rw [List.length_append, rowP_len zs k j (by rw [HZZ.out]; omega), doneP_len, HZZ.out]
            have := Nat.mul_le_mul (show k ≤ 40 by omega) hz2
            omega
          have hnn : k * Z + j < maxLen := by
            have := Nat.mul_le_mul (show k ≤ 40 by omega) hz2
            unfold maxLen
            omega
          have hml := sel_len (keyP xss) (keyP xss ((k : Int), z)) (rowP zs k j ++ doneP zs k)
          obtain ⟨v0, st, w5, hrun, hg5, hs5, hown5, hlt5, hback⟩ := coins_entry C5 hnn ((k : Int), z) f CB.out KP.out
          generalize (selF (keyP xss) (keyP xss ((k : Int), z)) (rowP zs k j ++ doneP zs k)).length = m at hown5 hback hml
          generalize cellsF (selF (keyP xss) (keyP xss ((k : Int), z)) (rowP zs k j ++ doneP zs k)).reverse = cs at hown5 hback
          have HBK := Lib.hid hback
          have hbW : w1.heap.size < W.heap.size := by
            obtain ⟨D, V, h1, _⟩ := (C4.out.lo LW.out).ex
            exact h1.lt
          have hm200 : m ≤ 200 := Nat.le_trans hml hpl
          have HNW := Lib.hid (show ∀ i u, (cellsF [((k : Int), z)])[i]? = some u → w5.cell? ((⟨W.heap.size, 0, none⟩ : Addr).add i) = some u from fun i u hi => by
            rw [Go.WideShapes.add_plain, World.cell?_of_block (hg5.block W.heap.size (by simp) (fun e => by have := Option.some.inj e; omega))]
            have := two_new W (k : Int) z 66 i u hi
            rwa [Go.WideShapes.add_plain] at this)
          have HG5 := Lib.hid hg5
          have hbase : w1.heap.size + 1 ≤ w5.heap.size := by rw [hs5]; simp; omega
          have e0 : (w4.alloc (.cells #[.int .i64 (f 0), .int .i64 (f 1), .int .i64 (f 2), .int .i64 (f 3), .int .i64 (f 4)] 73)) = W := hW
          have F5 := Lib.hid (fun i (h : i < 5) => show W.cell? ⟨w4.heap.size, i, none⟩ = some (.int .i64 (f i)) by rw [← hW]; exact lit_five w4 73 (f 0) (f 1) (f 2) (f 3) (f 4) f rfl rfl rfl rfl rfl i h)
          have d0 := F5.out 0 (by omega)
          have d1 := F5.out 1 (by omega)
          have d2 := F5.out 2 (by omega)
          have d3 := F5.out 3 (by omega)
          have d4 := F5.out 4 (by omega)
          have HF := Lib.hid (show codeV f = .agg #[.int .i64 (f 0), .int .i64 (f 1), .int .i64 (f 2), .int .i64 (f 3), .int .i64 (f 4)] from rfl)
          rw [HF.out] at hrun
          clear hback hml hpl hnn l4 OW CB KP hg5 C5
          go_wp2_with (first
            | (refine wpList_mapEntry_eq _ rfl _ _ 95 rfl _ _ rfl rfl _ _ hrun ?_)
            | (at_builtin; refine wpList_append_own_at _ rfl _ _ 54 rfl (w1.heap.size + 1) 66 i0 (.agg #[.int .i64 0, .int .i64 0]) 2 16 Try.underlying54 hi hz0 hz1 hz2' rfl (by decide) _ _ _ rfl hown5 ⟨W.heap.size, 0, none⟩ 1 1 (cellsF [((k : Int), z)]) rfl rfl HNW.out (cellsF_one [((k : Int), z)]) (by unfold maxLen; omega) (by omega) hbase ?_; intro v6 w6 hown6 hgrow6 hnil6 hloc6; obtain ⟨w7, hst, hcm, hg7⟩ := HBK.out w6 v6 hgrow6 hown6 hloc6)
            | (refine wpList_entryStore_eq _ rfl _ _ _ 95 rfl _ _ _ rfl rfl rfl _ hst ?_))
          have HN := Lib.hid (show CoinsM w7 w1.heap.size (k * Z + (j + 1)) (keyP xss) (rowP zs k (j + 1) ++ doneP zs k) by
            rw [HRP.out]; exact hcm)
          have B1 := (L4.out.trans (LW.out.mono L4.out.size)).trans (LA.out.mono (by omega))
          have B2 := B1.grown HG5.out (by simp; omega) (fun i hi => by have := Option.some.inj hi; omega)
          have B3 := B2.grown hgrow6 (by omega) (fun i hi => by have := (hown5.lt i hi).1; omega)
          have B4 := B3.grown hg7 B3.size (fun i hi => by have := Option.some.inj hi; omega)
          have HL := Lib.hid B4
          clear B1 B2 B3 B4 hst hcm hg7 hgrow6 hown6 hnil6 hloc6 hown5 hrun
          try go_frame
          go_wp2
          go_roundw
          case rel => exact ⟨j + 1, by omega, by go_num, HN, HL⟩
          case measure => simp [intOf]; omega
        · obtain rfl : j = Z := by omega
          have hge : ¬ (j : Int) < (j : Int) := by omega
          have HN := Lib.hid (show CoinsM ws w1.heap.size ((k + 1) * j) (keyP xss) (doneP zs (k + 1)) by
            rw [doneP, HZZ.out, Nat.succ_mul]; exact HCJ.out)
          go_wp2
          go_roundw
          case rel => exact ⟨k + 1, by omega, by go_num, HN, HWJ⟩
          case measure => simp [intOf]; omega
    · obtain rfl : k = N := by omega
      have hge : ¬ (k : Int) < (k : Int) := by omega
      go_wp2
      try rw [Exit.noGoto_ret]
      go_ret2
      exact ⟨_, rfl, HC.out, hb1, HW.out⟩
end Go.Proofs.Ytgdgiecajflmaab
