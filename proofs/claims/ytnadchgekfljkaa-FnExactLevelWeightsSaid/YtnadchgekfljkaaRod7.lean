/- The contract of the program's FixLeaf, all of it. -/
import Derived.Test.YtnadchgekfljkaaRod6
namespace Go.Proofs.Ytnadchgekfljkaa
open Go.RowKit
theorem wt_one {m : MobV} (hf : MobF m) : ∀ k i, m.am.length ≤ i + k → i < m.am.length → 1 ≤ wtM m i := by
  intro k
  induction k with
  | zero => intro i h1 h2; omega
  | succ k ih =>
    intro i h1 hi
    rw [wtM_eq hf i hi]
    have at_one : ∀ t, t < 2 * m.am.length → t / 2 = i → 1 ≤ atM (hvM m t) (wtM m) := fun t ht hti => by
      have := (hf.ends t ht).2
      unfold atM
      split
      · exact ih _ (by omega) (by omega)
      · omega
    have h0 := at_one (2 * i) (by omega) (by omega)
    have h3 := at_one (2 * i + 1) (by omega) (by omega)
    omega
theorem atM_one {m : MobV} (hf : MobF m) (t : Nat) (ht : t < 2 * m.am.length) : 1 ≤ atM (hvM m t) (wtM m) := by
  have := (hf.ends t ht).2
  unfold atM
  split
  · exact wt_one hf m.am.length _ (by omega) (by omega)
  · omega
theorem other_is (e : Nat) (he : e < 2) (w : World) : Calls Try.prog 103 #[.int .i64 (e : Int)] w fun r w' => r = .returned (.int .i64 ((1 - e : Nat) : Int)) ∧ w' = w := by
  rcases (show e = 0 ∨ e = 1 by omega) with rfl | rfl
  all_goals go_enter Try.func103, Try.ntmps103
  all_goals go_wp2
  all_goals go_ret
  all_goals exact ⟨rfl, rfl⟩
/-- An end at which a leaf hangs. -/
theorem fix_mem {m : MobV} (hf : MobF m) (i e : Int) : (i, e) ∈ (endT (rodF m) (2 * m.am.length)).map endP2 ↔ (rodB m i e = true ∧ 0 ≤ hvM m (2 * i.toNat + e.toNat)) := by
  rw [List.mem_map]
  constructor
  · rintro ⟨t, ht, he⟩
    obtain ⟨h1, h2⟩ := endT_mem.1 ht
    unfold endP2 at he
    have e1 : ((t / 2 : Nat) : Int) = i := congrArg Prod.fst he
    have e2 : ((t % 2 : Nat) : Int) = e := congrArg Prod.snd he
    have ht2 : 2 * i.toNat + e.toNat = t := by omega
    have := (be_rodF hf t h1).1 h2
    rw [ht2]
    refine ⟨?_, by omega⟩
    unfold rodB
    rw [(goodB_iff m).2 hf]
    simp
    omega
  · rintro ⟨h1, h2⟩
    unfold rodB at h1
    simp only [Bool.and_eq_true, decide_eq_true_eq] at h1
    obtain ⟨⟨_, h3, h4⟩, h5, h6⟩ := h1
    have ht : 2 * i.toNat + e.toNat < 2 * m.am.length := by omega
    have := (hf.ends _ ht).2
    refine ⟨2 * i.toNat + e.toNat, endT_mem.2 ⟨ht, (be_rodF hf _ ht).2 (by omega)⟩, ?_⟩
    unfold endP2
    rw [show (2 * i.toNat + e.toNat) / 2 = i.toNat by omega, show (2 * i.toNat + e.toNat) % 2 = e.toNat by omega]
    exact Prod.ext (by simp only; omega) (by simp only; omega)
set_option maxRecDepth 100000 in
set_option maxHeartbeats 3200000 in
theorem fix_out (v : Value) (m : MobV) (i e : Int) (w : World) (hv : MobRow w v m) (hb : BndM m) (hf : MobF m) (hm : ¬ (rodB m i e = true ∧ 0 ≤ hvM m (2 * i.toNat + e.toNat))) :
    Calls Try.prog 45 #[v, .int .i64 i, .int .i64 e] w fun q w' => q = .returned (.tuple #[.int .i64 0, .bool false]) ∧ Below w.heap.size w w' := by
  have h6 := hf.short
  have RO := Lib.hid (fun w1 (l : Below w.heap.size w w1) => rodsOf_yes v m w1 (hv.lo l) hb hf)
  rw [← fix_mem hf] at hm
  obtain ⟨a, c0, c, d, rfl⟩ := hv.form
  obtain ⟨n, hn⟩ : ∃ n, m.am.length = n := ⟨_, rfl⟩
  obtain ⟨W, hW⟩ : ∃ W, w.alloc (.cells #[.slice a m.am.length c, .slice c0 m.hu.length d] 27) = W := ⟨_, rfl⟩
  have LW := Lib.hid (show Below w.heap.size w W by rw [← hW]; exact (Below.refl _ _).alloc (Nat.le_refl _) _)
  have BX := Lib.hid (show Box2 W w.heap.size (.slice a m.am.length c) (.slice c0 m.hu.length d) by rw [← hW]; exact box2_new _ _ _ _)
  have RO1 := Lib.hid (RO.out W LW.out)
  rw [hn] at RO1 h6 BX hW hm
  rw [hn]
  have HM := Lib.hid hm
  clear hv hb hf RO hn hm
  generalize rodF m = S at *
  obtain ⟨_, u0, u1⟩ := BX.out
  go_enter Try.func45, Try.ntmps45
  go_wp2_with fail
  clear hW u0 u1
  refine RO1.out.mono ?_
  rintro q w1 ⟨g, b, rfl, H, hg, l1⟩
  have L1 := Lib.hid (lo_on LW.out l1)
  have LE := Lib.hid (leafEnds_any g _ n b S w1 h6 H)
  clear H l1 RO1
  go_wp2_with fail
  refine LE.out.mono ?_
  rintro q w2 ⟨ue, rfl, oe, l2⟩
  have L2 := Lib.hid (lo_on L1.out l2)
  have CE := Lib.hid (containsEnd_any ue i e _ false w2 (loadRow_ownE oe) (by rw [List.length_map]; have := endT_len S (2 * n); omega) ⟨fun h => (by cases h), fun h => absurd h HM.out⟩)
  clear l2 oe LE L1
  go_wp2_with fail
  refine CE.out.mono ?_
  rintro q w3 ⟨rfl, l3⟩
  have L3 := Lib.hid (lo_on L2.out l3)
  clear l3 CE L2
  go_wp2
  go_ret2
  exact ⟨rfl, L3.out⟩
set_option maxRecDepth 100000 in
set_option maxHeartbeats 3200000 in
theorem fix_in (v : Value) (m : MobV) (k e : Nat) (w : World) (hv : MobRow w v m) (hb : BndM m) (hf : MobF m) (hk : k < m.am.length) (he : e < 2) (hm : 0 ≤ hvM m (2 * k + e)) :
    Calls Try.prog 45 #[v, .int .i64 (k : Int), .int .i64 (e : Int)] w fun q w' => q = .returned (.tuple #[.int .i64 (fixV m k e), .bool (fixB m k e)]) ∧ Below w.heap.size w w' := by
  have h6 := hf.short
  have hr : rodB m (k : Int) (e : Int) = true := by unfold rodB; rw [(goodB_iff m).2 hf]; simp; omega
  have hmem : ((k : Int), (e : Int)) ∈ (endT (rodF m) (2 * m.am.length)).map endP2 := (fix_mem hf _ _).2 ⟨hr, by simpa using hm⟩
  have HFB := Lib.hid (show fixB m (k : Int) (e : Int) = (decide (fixO m (2 * k + e) % avM m (2 * k + e) = 0) && decide (fixO m (2 * k + e) / avM m (2 * k + e) ≤ 99)) by unfold fixB; rw [hr]; simp [hm])
  have HFV := Lib.hid (show fixV m (k : Int) (e : Int) = if fixB m (k : Int) (e : Int) = true then fixO m (2 * k + e) / avM m (2 * k + e) else 0 by unfold fixV; simp)
  have RO := Lib.hid (fun w1 (l : Below w.heap.size w w1) => rodsOf_yes v m w1 (hv.lo l) hb hf)
  have hoth : othM (2 * k + e) = 2 * k + (1 - e) := by unfold othM; split <;> omega
  have HFO : fixO m (2 * k + e) = (rodF m).ar (2 * k + (1 - e)) * atR (rodF m) (wtM m) (2 * k + (1 - e)) := by unfold fixO; rw [hoth, atR_rodF hf _ (by omega)]; rfl
  have hx := (hf.ends (2 * k + e) (by omega)).1
  have hxo := (hf.ends (2 * k + (1 - e)) (by omega)).1
  have hao := atM_one hf (2 * k + (1 - e)) (by omega)
  have hpb := pull_bnd (wtR_rodF hf) (2 * k + (1 - e)) (by omega) (ar_rodF hf _ (by omega))
  have hpo : 1 ≤ fixO m (2 * k + e) := by
    unfold fixO; rw [hoth]
    have := Int.mul_pos (show 0 < avM m (2 * k + (1 - e)) by omega) (show 0 < atM (hvM m (2 * k + (1 - e))) (wtM m) by omega)
    omega
  rw [← HFO] at hpb
  have PA := Lib.hid (fun (B : Nat) (b : Nat → Nat) w1 (H : RodsIn w1 B 0 m.am.length b (fun i => (i : Int)) (rodF m)) => pull_any (wtR_rodF hf) k (1 - e) w1 hk (by omega) (ar_rodF hf _ (by omega)) H)
  rw [← HFO] at PA
  obtain ⟨o, ho⟩ : ∃ o, fixO m (2 * k + e) = o := ⟨_, rfl⟩
  obtain ⟨x, hx2⟩ : ∃ x, avM m (2 * k + e) = x := ⟨_, rfl⟩
  have HARM := Lib.hid (show (rodF m).ar (2 * k + e) = x from hx2)
  rw [ho] at hpb hpo PA HFB HFV
  rw [hx2] at hx HFB HFV
  obtain ⟨rb, hrb⟩ : ∃ r, fixB m (k : Int) (e : Int) = r := ⟨_, rfl⟩
  obtain ⟨rv, hrv⟩ : ∃ r, fixV m (k : Int) (e : Int) = r := ⟨_, rfl⟩
  rw [hrb] at HFB HFV ⊢
  rw [hrv] at HFV ⊢
  have hx0 : ¬ x = 0 := by omega
  have hm1 : o % x = Int.tmod o x := (Int.tmod_eq_emod_of_nonneg hpb.1).symm
  have hm2 : o / x = Int.tdiv o x := (Int.tdiv_eq_ediv_of_nonneg hpb.1).symm
  have hr1 := Int.emod_nonneg o hx0
  have hr2 := Int.emod_lt_of_pos o (show 0 < x by omega)
  have hq1 := Int.ediv_nonneg hpb.1 (show 0 ≤ x by omega)
  have hq2 := Int.ediv_le_self x hpb.1
  have hq3 : o % x = 0 → 1 ≤ o / x := fun h => by
    have h1 := Int.mul_ediv_add_emod o x
    rw [h] at h1
    rcases Int.lt_or_le (o / x) 1 with h2 | h2
    · have : o / x = 0 := by omega
      rw [this] at h1
      simp at h1
      omega
    · exact h2
  rw [hm1] at hr1 hr2 HFB hq3
  rw [hm2] at hq1 hq2 HFB HFV hq3
  obtain ⟨r, hrr⟩ : ∃ r, Int.tmod o x = r := ⟨_, rfl⟩
  obtain ⟨q, hqq⟩ : ∃ r, Int.tdiv o x = r := ⟨_, rfl⟩
  rw [hrr] at hr1 hr2 HFB hq3
  rw [hqq] at hq1 hq2 HFB HFV hq3
  obtain ⟨a, c0, c, d, rfl⟩ := hv.form
  obtain ⟨n, hn⟩ : ∃ n, m.am.length = n := ⟨_, rfl⟩
  obtain ⟨W, hW⟩ : ∃ W, w.alloc (.cells #[.slice a m.am.length c, .slice c0 m.hu.length d] 27) = W := ⟨_, rfl⟩
  have LW := Lib.hid (show Below w.heap.size w W by rw [← hW]; exact (Below.refl _ _).alloc (Nat.le_refl _) _)
  have BX := Lib.hid (show Box2 W w.heap.size (.slice a m.am.length c) (.slice c0 m.hu.length d) by rw [← hW]; exact box2_new _ _ _ _)
  have RO1 := Lib.hid (RO.out W LW.out)
  rw [hn] at RO1 h6 BX hW hmem hk PA
  rw [hn]
  have HM := Lib.hid hmem
  have hk' : (k : Int) < (n : Int) := by omega
  have he' : (e : Int) < 2 := by omega
  clear hv hb hf RO hn hmem hrb hrv ho hx2 hao hxo HFO hm1 hm2 hr hoth
  generalize rodF m = S at *
  obtain ⟨_, u0, u1⟩ := BX.out
  go_enter Try.func45, Try.ntmps45
  go_wp2_with fail
  clear hW u0 u1
  refine RO1.out.mono ?_
  rintro q1 w1 ⟨g, b, rfl, H, hg, l1⟩
  have L1 := Lib.hid (lo_on LW.out l1)
  have LE := Lib.hid (leafEnds_any g _ n b S w1 h6 H)
  have HR := Lib.hid H
  clear H l1 RO1
  go_wp2_with fail
  refine LE.out.mono ?_
  rintro q1 w2 ⟨ue, rfl, oe, l2⟩
  have L2 := Lib.hid (lo_on L1.out l2)
  have HR2 := Lib.hid (HR.out.lo l2)
  have CE := Lib.hid (containsEnd_any ue k e _ true w2 (loadRow_ownE oe) (by rw [List.length_map]; have := endT_len S (2 * n); omega) ⟨fun _ => HM.out, fun _ => rfl⟩)
  clear l2 oe LE L1 HR
  go_wp2_with fail
  refine CE.out.mono ?_
  rintro q1 w3 ⟨rfl, l3⟩
  have L3 := Lib.hid (lo_on L2.out l3)
  have HR3 := Lib.hid (HR2.out.lo l3)
  clear l3 CE L2 HR2
  have cr := HR3.out.row k hk
  rw [if_neg (by omega)] at cr
  have ca := (HR3.out.rods.rod k (by omega) hk).arm e he
  rw [HARM.out] at ca
  have hbl := (HR3.out.rods.rod k (by omega) hk).lt
  have hgl := HR3.out.lt
  have C := Lib.hid (fun n1 => Calls.quiet_of (n := n1) (PA.out _ b (w3.drewN n1) (HR3.out.rods.lo (drewN_lo w3 n1))))
  have OT := Lib.hid (fun w => other_is e he w)
  clear HR3 PA
  go_wp2
  go_quiet ((first | (go_at_call 103; exact Calls.quiet_of_same (OT.out _)) | (go_at_call 111; exact C.out _)))
  have LF := Lib.hid (lo_drewN L3.out nq)
  clear C OT cr ca
  by_cases h0 : r = 0
  · have hq3 := hq3 h0
    have e3 := HFB.out
    rw [h0] at e3
    by_cases h9 : q ≤ 99
    · have e1 : rb = true := by rw [e3]; simp [h9]
      have e2 : rv = q := by rw [HFV.out, e1]; rfl
      have IW := Lib.hid (fun w => isWeight_is q true (by simp; omega) w)
      clear e3
      subst e1 e2
      go_wp2_with fail
      refine (IW.out _).mono ?_
      rintro q2 w4 ⟨rfl, rfl⟩
      go_wp2
      go_ret2
      exact ⟨rfl, LF.out⟩
    · have e1 : rb = false := by rw [e3]; simp [h9]
      have e2 : rv = 0 := by rw [HFV.out, e1]; rfl
      have IW := Lib.hid (fun w => isWeight_is q false (by simp; omega) w)
      clear e3
      subst e1 e2
      go_wp2_with fail
      refine (IW.out _).mono ?_
      rintro q2 w4 ⟨rfl, rfl⟩
      go_wp2
      go_ret2
      exact ⟨rfl, LF.out⟩
  · have e1 : rb = false := by rw [HFB.out]; simp [h0]
    have e2 : rv = 0 := by rw [HFV.out, e1]; rfl
    subst e1 e2
    go_wp2
    go_ret2
    exact ⟨rfl, LF.out⟩
set_option maxRecDepth 100000 in
theorem fix_bad (v : Value) (m : MobV) (i e : Int) (w : World) (hv : MobRow w v m) (hs : SmallM m) (hb : BndM m) (hf : goodB m = false) :
    Calls Try.prog 45 #[v, .int .i64 i, .int .i64 e] w fun q w' => q = .returned (.tuple #[.int .i64 0, .bool false]) ∧ Below w.heap.size w w' := by
  have RO := Lib.hid (fun w1 (l : Below w.heap.size w w1) => rodsOf_no v m w1 (hv.lo l) hs hb hf)
  obtain ⟨a, c0, c, d, rfl⟩ := hv.form
  generalize m.am.length = n at *
  generalize m.hu.length = n2 at *
  obtain ⟨W, hW⟩ : ∃ W, w.alloc (.cells #[.slice a n c, .slice c0 n2 d] 27) = W := ⟨_, rfl⟩
  have LW := Lib.hid (show Below w.heap.size w W by rw [← hW]; exact (Below.refl _ _).alloc (Nat.le_refl _) _)
  have BX := Lib.hid (show Box2 W w.heap.size (.slice a n c) (.slice c0 n2 d) by rw [← hW]; exact box2_new _ _ _ _)
  have RO1 := Lib.hid (RO.out W LW.out)
  clear hv hs hb hf RO
  obtain ⟨_, u0, u1⟩ := BX.out
  go_enter Try.func45, Try.ntmps45
  go_wp2_with fail
  clear hW u0 u1
  refine RO1.out.mono ?_
  rintro q w1 ⟨rfl, l1⟩
  have L1 := Lib.hid (lo_on LW.out l1)
  clear l1 RO1
  go_wp2_with fail
  refine (leafEnds_nil w1).mono ?_
  rintro q w2 ⟨rfl, rfl⟩
  have CE := Lib.hid (containsEnd_any (.slice none 0 0) i e [] false w2 (loadRow_nil _ _ _) (by simp) ⟨fun h => (by cases h), fun h => (by cases h)⟩)
  go_wp2_with fail
  refine CE.out.mono ?_
  rintro q w3 ⟨rfl, l3⟩
  have L3 := Lib.hid (lo_on L1.out l3)
  clear l3 CE L1
  go_wp2
  go_ret2
  exact ⟨rfl, L3.out⟩
theorem fix_impl (v : Value) (m : MobV) (i e : Int) (w : World) (hv : MobRow w v m) (hs : SmallM m) (hb : BndM m) :
    Calls Try.prog 45 #[v, .int .i64 i, .int .i64 e] w fun q w' => q = .returned (.tuple #[.int .i64 (fixV m i e), .bool (fixB m i e)]) ∧ Below w.heap.size w w' := by
  cases hg : goodB m with
  | false =>
    have e1 : fixB m i e = false := by unfold fixB rodB; rw [hg]; rfl
    have e2 : fixV m i e = 0 := by unfold fixV; rw [e1]; rfl
    rw [e1, e2]
    exact fix_bad v m i e w hv hs hb hg
  | true =>
    have hf := (goodB_iff m).1 hg
    by_cases hm : rodB m i e = true ∧ 0 ≤ hvM m (2 * i.toNat + e.toNat)
    · obtain ⟨h, h0⟩ := hm
      unfold rodB at h
      simp only [Bool.and_eq_true, decide_eq_true_eq] at h
      obtain ⟨⟨_, h2, h3⟩, h4, h5⟩ := h
      have a1 : ((i.toNat : Nat) : Int) = i := by omega
      have a2 : ((e.toNat : Nat) : Int) = e := by omega
      have := fix_in v m i.toNat e.toNat w hv hb hf (by omega) (by omega) h0
      rw [a1, a2] at this
      exact this
    · have e1 : fixB m i e = false := by
        unfold fixB
        cases h1 : rodB m i e with
        | false => rfl
        | true => rw [decide_eq_false (fun h => hm ⟨h1, h⟩)]; rfl
      have e2 : fixV m i e = 0 := by unfold fixV; rw [e1]; rfl
      rw [e1, e2]
      exact fix_out v m i e w hv hb hf hm
end Go.Proofs.Ytnadchgekfljkaa
