/- FhM, as one text. -/
import Derived.Test.YthncgcdnljoakaaG27
import Derived.Test.YthncgcdnljoakaaG23
import Derived.Test.YthncgcdnljoakaaG14
namespace Go.Proofs.Ythncgcdnljoakaa
open Go.RowKit
/-- As step_app_ints, for a result that may be empty. -/
theorem step_app_intsV {ops : Array Oper} {o : Oper} {a : Act} {w : World} {K : Act → World → Prop} {Q : Exit → Act → World → Prop} {E : Prop} (hgd : o.guard = none) (s x : Operand)
    (ho : o.op = .call { callee := .builtin .append, args := #[s, x], argTypes := #[38, 38] }) (B : Nat) (v : Value) (n : Nat) (xs : List Int) (hs : a.eval s = v) (hown : w.ownsRow B 3 1 v n (icells xs))
    (g o2 m c : Nat) (ns : List Int) (hx : a.eval x = .slice (some ⟨g, o2, none⟩) m c) (hl : ns.length = m) (hc : ∀ j, j < m → w.cell? ⟨g, o2 + j, none⟩ = some (.int .i64 (ns.getD j 0))) (T : Nat) (hT : n + m = T) (hsm : T ≤ 2000000) (hb : B ≤ w.heap.size)
    (h : ∀ v' w', w'.ownsRow B 3 1 v' T (icells (xs ++ ns)) → w.grownBy w' v.ownBlock → K (a.put o.dst v') w') :
    if Region.wanted o (yielded ops a.tmps) = true then Oper.wp Try.prog o a w K Q else E := by
  have hw : Region.wanted o (yielded ops a.tmps) = true := by simp [Region.wanted, hgd]
  rw [if_pos hw]
  obtain ⟨i0, hi, hz0, hz1, hz2⟩ := info_parts infoInt
  obtain ⟨v', w', hr, h2, h3, _⟩ := run_append_own (P := Try.prog) w B 38 o.type 3 i0 (.int .i64 0) 1 8 Try.underlying38 hi hz0 hz1 hz2 rfl (by decide) v n (icells xs) hown ⟨g, o2, none⟩ m c (icells ns) (by rw [icells_len, hl, Nat.mul_one]) (fun j u hj => by
    obtain ⟨hjl, rfl⟩ := icells_get ns j u hj
    rw [Go.WideShapes.add_plain]
    exact hc j (by omega)) (icells_one ns) (by unfold maxLen; omega) (by omega) hb
  rw [hT] at h2
  have happ : icells xs ++ icells ns = icells (xs ++ ns) := by unfold icells; rw [List.map_append]
  rw [happ] at h2
  unfold Oper.wp
  simp [execOp, ho, resolve, invoke, builtin, hs, hx, hr, Result.andThen]
  exact h v' w' h2 h3
theorem own_form0 {w : World} {B n : Nat} {v : Value} {xs : List Value} (h : w.ownsRow B 3 1 v n xs) : ∃ a c, v = .slice a n c := by
  rcases h.2 with ⟨e, h0⟩ | ⟨g, cap, cur, e, _⟩
  · exact ⟨none, 0, by rw [e, h0]⟩
  · exact ⟨_, cap, e⟩
def Wts (xs : List Int) : Prop := ∀ x, x ∈ xs → 1 ≤ x ∧ x ≤ 99
theorem wts_mob {m : MobV} {xs : List Int} (hf : MobF m) (hl : xs.length = m.am.length + 1) (hx : Wts xs) : MobF (hangM m xs) :=
  (goodB_iff _).1 (by
    rw [hang_good hf xs hl]
    exact (areB_iff _ _).2 ⟨fun i hi => hx _ (getD_mem xs 0 i hi), by omega⟩)
/-- What the search gives. -/
def MoreF (m : MobV) (begun left : List Int) (u : Value) (ok : Bool) (w' : World) : Prop :=
  ∃ all, IntRow w' u all ∧ (ok = true → HasLev m begun left all) ∧ (ok = false → NoLev m begun left ∧ (0 < left.length → all = []))
def MoreP (m : MobV) (begun left : List Int) (w : World) (e : Ending) (w' : World) : Prop := ∃ u ok, e = .returned (.tuple #[u, .bool ok]) ∧ MoreF m begun left u ok w' ∧ Below w.heap.size w w'
set_option maxRecDepth 100000 in
set_option maxHeartbeats 1600000 in
theorem more_base {m : MobV} (hf : MobF m) (vm : Value) (begun : List Int) (vb vl : Value) (w : World) (hl : begun.length = m.am.length + 1) (hx : Wts begun) (hv : MobRow w vm m) (hvb : RowS w vb begun) (hvl : ∃ a c, vl = .slice a 0 c) :
    Calls Try.prog 109 #[vm, vb, vl] w fun e w' => MoreP m begun [] w e w' := by
  obtain ⟨al, cl, rfl⟩ := hvl
  have HH := Lib.hid (fun w1 (l : Below w.heap.size w w1) => l5Hang_any vm vb m begun w1 (hv.lo l) hf (hvb.row.lo l) hl)
  have HQ := Lib.hid (wts_mob hf hl hx)
  have HLV := Lib.hid (fun u w1 (h : MobRow w1 u (hangM m begun)) => l5Level_any u (hangM m begun) w1 h HQ.out)
  have HRB := Lib.hid (fun w1 (l : Below w.heap.size w w1) => hvb.row.lo l)
  obtain ⟨lv, hlv⟩ : ∃ lv, levelB (hangM m begun) = lv := ⟨_, rfl⟩
  rw [hlv] at HLV
  have HV := Lib.hid hlv
  obtain ⟨a, c0, c, d, rfl⟩ := hv.form
  obtain ⟨gb, ob, cb, rfl, _⟩ := hvb
  obtain ⟨W, hW⟩ : ∃ W, w.alloc (.cells #[.slice a m.am.length c, .slice c0 m.hu.length d] 62) = W := ⟨_, rfl⟩
  have LW := Lib.hid (show Below w.heap.size w W by rw [← hW]; exact (Below.refl _ _).alloc (Nat.le_refl _) _)
  have BX := Lib.hid (show Box2 W w.heap.size (.slice a m.am.length c) (.slice c0 m.hu.length d) by rw [← hW]; exact box2_new _ _ _ _)
  have H1 := Lib.hid (HH.out W LW.out)
  obtain ⟨_, u0, u1⟩ := BX.out
  clear hv hl hx hlv HH
  go_enter Try.func109, Try.ntmps109
  go_wp2_with fail
  clear hW u0 u1
  refine H1.out.mono ?_
  rintro e w1 ⟨u, rfl, hm, _, l1⟩
  have L1 := Lib.hid (lo_on LW.out l1)
  have LV := Lib.hid (HLV.out u w1 hm)
  clear H1 l1 hm HLV
  go_wp2_with fail
  refine LV.out.mono ?_
  rintro e w2 ⟨rfl, l2⟩
  have L2 := Lib.hid (lo_on L1.out l2)
  have RB := Lib.hid (HRB.out w2 L2.out)
  clear LV l2 HRB
  go_wp2
  go_ret2
  unfold MoreP
  exact ⟨_, lv, rfl, ⟨begun, RB.out, fun h => hasLev_nil (by rw [HV.out, h]), fun h => ⟨noLev_nil (by rw [HV.out, h]), fun h0 => by simp at h0⟩⟩, L2.out⟩
end Go.Proofs.Ythncgcdnljoakaa
