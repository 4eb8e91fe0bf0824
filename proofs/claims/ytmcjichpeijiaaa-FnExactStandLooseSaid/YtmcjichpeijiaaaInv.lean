/- A region in whatever order, by one condition that each of its operations keeps. -/
import Derived.Orders
import Derived.RegionTactic
import Derived.KernelRfl
namespace Go.Proofs.Ytmcjichpeijiaaa
open Go
section
variable {P : Program} {ops : Array Oper} {Q : Exit → Act → World → Prop} {md : Region.Mode}
/-- How many have not come up. -/
def undone (L : List Bool) : Nat := L.countP (fun b => !b)
theorem undone_set : ∀ (L : List Bool) (i : Nat), i < L.length → L.getD i true = false → undone (L.set i true) + 1 = undone L := by
  intro L
  induction L with
  | nil => intro i h; simp at h
  | cons x L ih =>
    intro i h hf
    cases i with
    | zero =>
      obtain rfl : x = false := by simpa using hf
      simp [undone]
    | succ i =>
      have h1 := ih i (by simpa using h) (by simpa using hf)
      unfold undone at h1 ⊢
      rw [List.set_cons_succ, List.countP_cons, List.countP_cons]
      omega
theorem undone_zero : ∀ (L : List Bool), undone L = 0 → ∀ k, k < L.length → L.getD k false = true := by
  intro L
  induction L with
  | nil => intro _ k h; simp at h
  | cons x L ih =>
    intro h k hk
    unfold undone at h ih
    rw [List.countP_cons] at h
    cases k with
    | zero => cases x with
      | true => rfl
      | false => simp at h
    | succ k => have := ih (by omega) k (by simpa using hk); simpa using this
/-- Each operation waits for earlier ones alone. -/
def upward (ops : Array Oper) : Bool := (List.range ops.size).all fun i => ((ops[i]?).map (·.after.all fun e => decide (e.on < i))).getD true
theorem upward_at (hu : upward ops = true) {i : Nat} {o : Oper} (ho : ops[i]? = some o) {e} (he : e ∈ o.after) : e.on < i := by
  unfold upward at hu
  rw [List.all_eq_true] at hu
  have := hu i (List.mem_range.2 (Array.getElem?_eq_some_iff.1 ho).1)
  rw [ho] at this
  simp only [Option.map_some, Option.getD_some] at this
  have h2 := (Array.all_eq_true_iff_forall_mem.1 this) e he
  simpa using h2
theorem getD_two (L : Array Bool) (k : Nat) (h : k < L.size) : L.getD k true = L.getD k false := by simp [h]
theorem all_done (hu : upward ops = true) (L : Array Bool) (hs : L.size = ops.size) (hr : Region.ready md ops L = []) : ∀ k, k < ops.size → L.getD k false = true := by
  intro k
  induction k using Nat.strongRecOn with
  | _ k ih =>
    intro hk
    cases h : L.getD k false with
    | true => rfl
    | false =>
      exfalso
      have hm : k ∈ Region.ready md ops L := by
        rw [mem_ready]
        refine ⟨by rw [getD_two L k (by omega)]; exact h, ops[k], by simp [hk], ?_⟩
        intro e he _
        have hl := upward_at hu (i := k) (o := ops[k]) (by simp [hk]) he
        exact ih e.on hl (by omega)
      rw [hr] at hm
      cases hm
/-- What operation i is to keep. -/
def StepAt (P : Program) (md : Region.Mode) (ops : Array Oper) (Q : Exit → Act → World → Prop) (I : (Nat → Prop) → Act → World → Prop) (i : Nat) : Prop :=
  ∀ (D : Nat → Prop) (a : Act) (w : World), ¬ D i → (∀ o, ops[i]? = some o → ∀ e ∈ o.after, Region.binds md e = true → D e.on) → (∀ j o, ops[j]? = some o → D j → ∀ e ∈ o.after, Region.binds md e = true → D e.on) → I D a w → wpOp P ops Q i (fun a' w' => I (fun k => k = i ∨ D k) a' w') a w
theorem wpAny_inv (hu : upward ops = true) (I : (Nat → Prop) → Act → World → Prop) (step : ∀ i, i < ops.size → StepAt P md ops Q I i)
    (fin : ∀ (D : Nat → Prop) (a : Act) (w : World), (∀ k, k < ops.size → D k) → I D a w → Q .normal a w) :
    ∀ (fuel : Nat) (L : Array Bool) (a : Act) (w : World), L.size = ops.size → undone L.toList ≤ fuel → (∀ j o, ops[j]? = some o → L.getD j false = true → ∀ e ∈ o.after, Region.binds md e = true → L.getD e.on false = true) → I (fun k => L.getD k false = true) a w → wpAny P md ops Q fuel L a w := by
  intro fuel
  induction fuel with
  | zero =>
    intro L a w hs hc _ hI
    have hd : ∀ k, k < ops.size → L.getD k false = true := fun k hk => by
      have := undone_zero L.toList (by omega) k (by simpa using (by omega : k < L.size))
      simpa using this
    refine ⟨?_, fin _ a w hd hI⟩
    cases hr : Region.ready md ops L with
    | nil => rfl
    | cons j js =>
      have hj : j ∈ Region.ready md ops L := by rw [hr]; exact List.mem_cons_self ..
      obtain ⟨h0, o, ho, _⟩ := mem_ready.1 hj
      have hjs := (Array.getElem?_eq_some_iff.1 ho).1
      have := hd j hjs
      rw [getD_two L j (by omega)] at h0
      rw [h0] at this
      cases this
  | succ fuel ih =>
    intro L a w hs hc hcl hI
    refine ⟨fun hr => fin _ a w (all_done hu L hs hr) hI, fun i hi => ?_⟩
    obtain ⟨h0, o, ho, hall⟩ := mem_ready.1 hi
    have hib := (Array.getElem?_eq_some_iff.1 ho).1
    have h1 := step i hib (fun k => L.getD k false = true) a w (by rw [← getD_two L i (by omega), h0]; simp) (fun o' ho' e he hb => by rw [ho] at ho'; cases ho'; exact hall e he hb) hcl hI
    refine wpOp_mono (fun a' w' hI' => ih (L.setIfInBounds i true) a' w' (by simpa using hs) ?_ ?_ ?_) h1
    · have h2 := undone_set L.toList i (by simpa using (by omega : i < L.size)) (by simpa using h0)
      rw [Array.toList_setIfInBounds]
      omega
    · intro j o' ho' hj e he hb
      by_cases hji : j = i
      · subst hji
        rw [ho] at ho'
        cases ho'
        exact getD_set_true (hall e he hb)
      · have hj' : L.getD j false = true := by rw [← getD_set_ne (listed := L) (i := i) false (Ne.symm hji)]; exact hj
        exact getD_set_true (hcl j o' ho' hj' e he hb)
    · refine cast (congrArg (fun D => I D a' w') (funext fun k => propext ?_)) hI'
      by_cases hk : k = i
      · subst hk
        have : (L.setIfInBounds k true).getD k false = true := by simp [show k < L.size by omega]
        exact ⟨fun _ => this, fun _ => .inl rfl⟩
      · have : (L.setIfInBounds i true).getD k false = L.getD k false := getD_set_ne false (Ne.symm hk)
        rw [this]
        exact ⟨fun h => h.resolve_left hk, .inr⟩
theorem undone_new (n : Nat) : undone (Array.replicate n false).toList = n := by
  unfold undone
  rw [Array.toList_replicate, List.countP_replicate]
  simp
/-- THE REGION: the condition holds behind the draw with nothing done, each operation keeps it, and with all done it gives the post. -/
theorem wp_region_inv {id : Nat} {a : Act} {w : World} (hm : P.follows .mixedOrders = true) (hu : upward ops = true) (I : (Nat → Prop) → Act → World → Prop)
    (h0 : I (fun _ => False) a w.drew) (step : ∀ i, i < ops.size → StepAt P .any ops Q I i) (fin : ∀ (D : Nat → Prop) (a : Act) (w : World), (∀ k, k < ops.size → D k) → I D a w → Q .normal a w) : (Code.region id ops true).wp P Q a w := by
  refine wp_region_any hm (wpAny_inv hu I step fin _ _ _ _ (by simp) (by rw [undone_new]; exact Nat.le_refl _) ?_ ?_)
  · intro j o ho hj
    have := (Array.getElem?_eq_some_iff.1 ho).1
    simp [this] at hj
  refine cast (congrArg (fun D => I D a w.drew) (funext fun k => propext ?_)) h0
  constructor
  · exact fun h => h.elim
  · intro h
    by_cases hk : k < ops.size <;> simp [hk] at h
theorem lt_none {p : Nat → Prop} : ∀ i, i < 0 → p i := fun _ h => absurd h (Nat.not_lt_zero _)
theorem lt_more {p : Nat → Prop} {n : Nat} (h : p n) (k : ∀ i, i < n → p i) : ∀ i, i < n + 1 → p i := fun i hi => by
  by_cases e : i = n
  · rw [e]; exact h
  · exact k i (by omega)
def depsOf (md : Region.Mode) (ops : Array Oper) (j : Nat) : List Nat := ((ops[j]?).map (fun o => (o.after.toList.filter (Region.binds md)).map (·.on))).getD []
theorem deps_at {j : Nat} {o : Oper} (ho : ops[j]? = some o) {D : Nat → Prop} (h : ∀ e ∈ o.after, Region.binds md e = true → D e.on) : ∀ k ∈ depsOf md ops j, D k := by
  intro k hk
  unfold depsOf at hk
  rw [ho] at hk
  obtain ⟨e, he, rfl⟩ := List.mem_map.1 hk
  obtain ⟨h1, h2⟩ := List.mem_filter.1 he
  exact h e (by simpa using h1) h2
/-- An operation, written out, with what it waits for, and with what else is known to come behind what (cl). -/
theorem step_of {I : (Nat → Prop) → Act → World → Prop} {i : Nat} (o : Oper) (ds : List Nat) (cl : List (Nat × Nat)) (ho : ops[i]? = some o) (hd : depsOf md ops i = ds) (hc : (cl.all fun q => (depsOf md ops q.1).contains q.2) = true)
    (h : ∀ (D : Nat → Prop) (a : Act) (w : World), ¬ D i → (∀ k ∈ ds, D k) → (∀ q ∈ cl, D q.1 → D q.2) → I D a w → ∀ K' : Act → World → Prop, (∀ a' w', I (fun k => k = i ∨ D k) a' w' → K' a' w') → if Region.wanted o (yielded ops a.tmps) = true then Oper.wp P o a w K' Q else K' (a.put o.dst undef) w) : StepAt P md ops Q I i := by
  intro D a w hn ha hcl hI
  refine wpOp_step ho (fun K' hK => h D a w hn ?_ ?_ hI K' hK)
  · subst hd
    exact deps_at ho (ha o ho)
  · intro q hq hD
    rw [List.all_eq_true] at hc
    have h1 := hc q hq
    have h2 : q.2 ∈ depsOf md ops q.1 := by simpa using h1
    cases hoq : ops[q.1]? with
    | none => unfold depsOf at h2; rw [hoq] at h2; simp at h2
    | some oq => exact deps_at hoq (hcl q.1 oq hoq hD) q.2 h2
end
end Go.Proofs.Ytmcjichpeijiaaa
