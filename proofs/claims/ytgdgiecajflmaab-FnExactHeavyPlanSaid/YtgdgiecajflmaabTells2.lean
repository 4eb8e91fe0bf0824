/- The program's TellsBoth. -/
import Derived.Test.YtgdgiecajflmaabTells1
namespace Go.Proofs.Ytgdgiecajflmaab
open Go.RowKit Go.Maps
set_option maxRecDepth 100000 in
set_option maxHeartbeats 1600000 in
theorem tellsBoth_impl (n : Int) (v : Value) (xss : List (List Int)) (w : World) (hr : TabRow w v xss) (hb : SmallT xss) :
    Calls Try.prog 43 #[.int .i64 n, v] w fun e w' => e = .returned (.tuple #[.bool (tellB [1, -1] n xss), .bool (goodB n xss)]) ∧ Below w.heap.size w w' := by
  by_cases hg : (coinsB n && planB n xss) = true
  · have hg' := hg
    rw [Bool.and_eq_true] at hg'
    obtain ⟨N, rfl⟩ : ∃ N : Nat, n = N := ⟨n.toNat, by have := hg'.1; unfold coinsB at this; simp at this; omega⟩
    have BY := Lib.hid (fun (w1 : World) (u : Value) (l : Below w.heap.size w w1) (hu : IntRow w1 u [1, -1]) => byOutcome_yes N v u xss [1, -1] w1 (hr.lo l) hb hg'.1 ((propB_iff _).1 hg'.2) hu (by simp) bothZ)
    have U1 := Lib.hid (rowLit w [1, -1])
    have LA := Lib.hid ((Below.refl w.heap.size w).alloc (Nat.le_refl _) (.cells #[.int .i64 1, .int .i64 (-1)] 3))
    have HT := Lib.hid (show tellB [1, -1] (N : Int) xss = (((cntL ((doneP [1, -1] N).map (keyP xss)) : Nat) : Int) == 2 * (N : Int)) by
      have hl : ((doneP [1, -1] N).map (keyP xss)).length = 2 * N := by rw [List.length_map, doneP_len]; simp; omega
      have h1 := cntL_nodup ((doneP [1, -1] N).map (keyP xss))
      rw [hl] at h1
      by_cases e : ((doneP [1, -1] N).map (keyP xss)).Nodup
      · rw [tellB, propB_yes ⟨hg, by simpa using e⟩, h1.2 e]; simp
      · rw [tellB, propB_no (fun hh => e (by simpa using hh.2))]
        symm
        simp only [beq_eq_false_iff_ne, ne_eq]
        intro e2
        exact e (h1.1 (by omega)))
    have hN40 : (N : Int) ≤ 40 := by have := hg'.1; unfold coinsB at this; simp at this; omega
    have HG := Lib.hid (show goodB (N : Int) xss = true from hg)
    rw [HT.out, HG.out]
    clear hg hg' hr hb HT HG
    go_enter Try.func43, Try.ntmps43
    go_wp2_with fail
    refine (BY.out _ _ LA.out U1.out).mono ?_
    rintro e w2 ⟨b, rfl, hc, hbb, l2⟩
    have L2 := Lib.hid (LA.out.trans (l2.mono (by simp)))
    obtain ⟨D, V, hown, hsz, _⟩ := hc.ex
    have HSZ := Lib.hid hsz
    clear hsz hbb l2 BY U1
    have hlen := fun ty => hown.len Try.underlying95 ty
    go_wp2
    try rw [Exit.noGoto_ret]
    go_ret2
    exact ⟨by rw [← HSZ.out]; rfl, L2.out⟩
  · have hf : (coinsB n && planB n xss) = false := by simpa using hg
    have BY := Lib.hid (fun (w1 : World) (u : Value) (l : Below w.heap.size w w1) => byOutcome_no n v u xss w1 (hr.lo l) hb hf)
    have LA := Lib.hid ((Below.refl w.heap.size w).alloc (Nat.le_refl _) (.cells #[.int .i64 1, .int .i64 (-1)] 3))
    rw [show tellB [1, -1] n xss = false from propB_no (fun h => hg h.1), show goodB n xss = false from hf]
    clear hg hf hr hb
    go_enter Try.func43, Try.ntmps43
    go_wp2_with fail
    refine (BY.out _ _ LA.out).mono ?_
    rintro e w2 ⟨rfl, l2⟩
    have L2 := Lib.hid (LA.out.trans (l2.mono (by simp)))
    go_wp2
    try rw [Exit.noGoto_ret]
    go_ret2
    exact ⟨rfl, L2.out⟩
end Go.Proofs.Ytgdgiecajflmaab
