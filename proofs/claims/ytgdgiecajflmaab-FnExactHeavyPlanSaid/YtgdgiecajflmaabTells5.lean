/- The model's TellsHeavy and TellsBoth, and both sides' one answer. -/
import Derived.Test.YtgdgiecajflmaabTells4
namespace Go.Proofs.Ytgdgiecajflmaab
open Go.RowKit Go.Maps
theorem doneP_mem (zs : List Int) : ∀ k p, p ∈ doneP zs k → ∃ c : Nat, c < k ∧ p.1 = (c : Int) ∧ p.2 ∈ zs := by
  intro k
  induction k with
  | zero => intro p h; simp [doneP] at h
  | succ k ih =>
    intro p h
    rw [doneP, List.mem_append] at h
    rcases h with h | h
    · rw [rowP, List.mem_reverse] at h
      obtain ⟨z, hz, e⟩ := List.mem_map.1 h
      subst e
      exact ⟨k, by omega, rfl, List.mem_of_mem_take hz⟩
    · obtain ⟨c, h1, h2⟩ := ih p h
      exact ⟨c, by omega, h2⟩
theorem key_out {n : Int} {xss : List (List Int)} (hp : PlanF n xss) {c d : Nat} (hc : (c : Int) < n) (hd : (d : Int) < n) {y z : Int} (hy : y = 1 ∨ y = -1) (hz : z = 1 ∨ z = -1) : klF (cdF xss c y) = klF (cdF xss d z) ↔ outF xss c y = outF xss d z := by
  constructor
  · intro h
    have := klF_inj (cdF_small hp hc hy) (cdF_small hp hd hz) h
    unfold outF
    refine List.map_congr_left (fun j hj => this j ?_)
    have := List.mem_range.1 hj
    have := hp.short
    omega
  · intro h
    have : cdF xss c y = cdF xss d z := by
      funext j
      by_cases hj : j < xss.length
      · rw [← outF_at xss c y j hj, ← outF_at xss d z j hj, h]
      · unfold cdF; rw [if_neg hj, if_neg hj]
    rw [this]
theorem apart_nodup (os : List (List Int)) : ApartF os ↔ os.Nodup := by
  unfold ApartF List.Nodup
  rw [List.pairwise_iff_getElem]
  constructor
  · intro h i j hi hj hij e
    have := h j hj i hij
    apply this
    simp only [List.getD, List.getElem?_eq_getElem hi, List.getElem?_eq_getElem hj, Option.getD_some]
    exact e.symm
  · intro h a ha b hb e
    have := h b a (by omega) ha hb
    apply this
    simp only [List.getD, List.getElem?_eq_getElem ha, List.getElem?_eq_getElem (show b < os.length by omega), Option.getD_some] at e
    exact e.symm
theorem zsF_mem {both : Bool} {z : Int} (h : z ∈ zsF both) : z = 1 ∨ z = -1 := by
  unfold zsF at h
  split at h
  · simpa using h
  · left; simpa using h
theorem tells_same (N : Nat) (xss : List (List Int)) (both : Bool) (hp : PlanF (N : Int) xss) : ApartF (outsF both xss N) ↔ ((doneP (zsF both) N).map (keyP xss)).Nodup := by
  rw [apart_nodup]
  unfold outsF List.Nodup
  rw [List.pairwise_map, List.pairwise_map, List.pairwise_reverse]
  have key : ∀ p q, p ∈ doneP (zsF both) N → q ∈ doneP (zsF both) N → (keyP xss p = keyP xss q ↔ outP xss p = outP xss q) := by
    intro p q h1 h2
    obtain ⟨c, hc, e1, m1⟩ := doneP_mem _ _ _ h1
    obtain ⟨d, hd, e2, m2⟩ := doneP_mem _ _ _ h2
    unfold keyP outP
    rw [e1, e2]
    exact key_out hp (by omega) (by omega) (zsF_mem m1) (zsF_mem m2)
  constructor
  · intro h
    exact h.imp_of_mem (fun {a b} ha hb hne e => hne ((key b a hb ha).1 e.symm))
  · intro h
    exact h.imp_of_mem (fun {a b} ha hb hne e => hne ((key a b ha hb).2 e.symm))
theorem tellB_zs (both : Bool) (n : Int) (xss : List (List Int)) (N : Nat) (hN : n = N) (hg : (coinsB n && planB n xss) = true) (hp : PlanF n xss) : propB (ApartF (outsF both xss N)) = tellB (zsF both) n xss := by
  subst hN
  have h := tells_same N xss both hp
  by_cases e : ApartF (outsF both xss N)
  · rw [propB_yes e, tellB, propB_yes ⟨hg, h.1 e⟩]
  · rw [propB_no e, tellB, propB_no (fun hh => e (h.2 hh.2))]
set_option maxRecDepth 100000 in
set_option maxHeartbeats 1600000 in
theorem tellsHeavy_spec (n : Int) (v : Value) (xss : List (List Int)) (w : World) (hr : TabRow w v xss) (hb : SmallT xss) :
    Calls Try.prog 42 #[.int .i64 n, v] w fun e w' => e = .returned (.tuple #[.bool (tellB [1] n xss), .bool (goodB n xss)]) ∧ Below w.heap.size w w' := by
  by_cases hg : (coinsB n && planB n xss) = true
  · have hg' := hg
    rw [Bool.and_eq_true] at hg'
    have hp := (propB_iff _).1 hg'.2
    obtain ⟨N, rfl⟩ : ∃ N : Nat, n = N := ⟨n.toNat, by have := hg'.1; unfold coinsB at this; simp at this; omega⟩
    have hNN : 2 ≤ N ∧ N ≤ 40 := by have := hg'.1; unfold coinsB at this; simp at this; omega
    have G := Lib.hid (l3Good_any (N : Int) v xss true hg w hr hb)
    have TE := Lib.hid (l3Tells_any N v xss false w hr (by omega) hNN.2 hp)
    rw [tellB_zs false (N : Int) xss N rfl hg hp] at TE
    rw [show goodB (N : Int) xss = true from hg]
    rw [show tellB [1] (N : Int) xss = tellB (zsF false) (N : Int) xss from rfl]
    generalize tellB (zsF false) (N : Int) xss = r0 at TE ⊢
    clear hg hg' hr hb hp
    go_enter Try.func42, Try.ntmps42
    go_wp2_with fail
    refine G.out.mono ?_
    rintro e w' ⟨rfl, rfl⟩
    go_wp2_with fail
    refine TE.out.mono ?_
    rintro e w2 ⟨rfl, l2⟩
    have L2 := Lib.hid l2
    clear l2
    go_wp2
    try rw [Exit.noGoto_ret]
    go_ret2
    exact ⟨rfl, L2.out⟩
  · have hf : (coinsB n && planB n xss) = false := by simpa using hg
    have G := Lib.hid (l3Good_any n v xss false hf w hr hb)
    rw [show tellB [1] n xss = false from propB_no (fun h => hg h.1), show goodB n xss = false from hf]
    clear hg hf hr hb
    go_enter Try.func42, Try.ntmps42
    go_wp2_with fail
    refine G.out.mono ?_
    rintro e w' ⟨rfl, rfl⟩
    go_wp2
    try rw [Exit.noGoto_ret]
    go_ret2
    exact ⟨rfl, Below.refl _ _⟩
set_option maxRecDepth 100000 in
set_option maxHeartbeats 1600000 in
theorem tellsBoth_spec (n : Int) (v : Value) (xss : List (List Int)) (w : World) (hr : TabRow w v xss) (hb : SmallT xss) :
    Calls Try.prog 44 #[.int .i64 n, v] w fun e w' => e = .returned (.tuple #[.bool (tellB [1, -1] n xss), .bool (goodB n xss)]) ∧ Below w.heap.size w w' := by
  by_cases hg : (coinsB n && planB n xss) = true
  · have hg' := hg
    rw [Bool.and_eq_true] at hg'
    have hp := (propB_iff _).1 hg'.2
    obtain ⟨N, rfl⟩ : ∃ N : Nat, n = N := ⟨n.toNat, by have := hg'.1; unfold coinsB at this; simp at this; omega⟩
    have hNN : 2 ≤ N ∧ N ≤ 40 := by have := hg'.1; unfold coinsB at this; simp at this; omega
    have G := Lib.hid (l3Good_any (N : Int) v xss true hg w hr hb)
    have TE := Lib.hid (l3Tells_any N v xss true w hr (by omega) hNN.2 hp)
    rw [tellB_zs true (N : Int) xss N rfl hg hp] at TE
    rw [show goodB (N : Int) xss = true from hg]
    rw [show tellB [1, -1] (N : Int) xss = tellB (zsF true) (N : Int) xss from rfl]
    generalize tellB (zsF true) (N : Int) xss = r0 at TE ⊢
    clear hg hg' hr hb hp
    go_enter Try.func44, Try.ntmps44
    go_wp2_with fail
    refine G.out.mono ?_
    rintro e w' ⟨rfl, rfl⟩
    go_wp2_with fail
    refine TE.out.mono ?_
    rintro e w2 ⟨rfl, l2⟩
    have L2 := Lib.hid l2
    clear l2
    go_wp2
    try rw [Exit.noGoto_ret]
    go_ret2
    exact ⟨rfl, L2.out⟩
  · have hf : (coinsB n && planB n xss) = false := by simpa using hg
    have G := Lib.hid (l3Good_any n v xss false hf w hr hb)
    rw [show tellB [1, -1] n xss = false from propB_no (fun h => hg h.1), show goodB n xss = false from hf]
    clear hg hf hr hb
    go_enter Try.func44, Try.ntmps44
    go_wp2_with fail
    refine G.out.mono ?_
    rintro e w' ⟨rfl, rfl⟩
    go_wp2
    try rw [Exit.noGoto_ret]
    go_ret2
    exact ⟨rfl, Below.refl _ _⟩
end Go.Proofs.Ytgdgiecajflmaab
