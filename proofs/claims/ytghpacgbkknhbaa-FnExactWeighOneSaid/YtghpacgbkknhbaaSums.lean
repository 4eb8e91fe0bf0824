/- The contract of the model's sums that can be weighed. -/
import Derived.Test.YtghpacgbkknhbaaSumPlain
import Derived.Test.YtghpacgbkknhbaaKit1
namespace Go.Proofs.Ytghpacgbkknhbaa
open Go.RowKit
def loF (two : Bool) : Int := if two = true then -1 else 0
theorem loF_ok (two : Bool) : loF two = 0 ∨ loF two = -1 := by cases two; exact .inl rfl; exact .inr rfl
/-- What the sums up to index s give for index t. -/
def NextF (lo : Int) (xs : List Int) (k : Nat) (T : Int) (s t : Nat) : Prop := ∃ s' : Nat, s' < s ∧ ReachF lo xs k ((s' : Int) - T) ∧ ∃ g, lo ≤ g ∧ g ≤ 1 ∧ (t : Int) - T = ((s' : Int) - T) + g * xs.getD k 0
theorem next_zero (lo : Int) (xs : List Int) (k : Nat) (T : Int) (t : Nat) : propB (NextF lo xs k T 0 t) = false := propB_no (fun ⟨s', h, _⟩ => by omega)
theorem next_skip {lo : Int} {xs : List Int} {k : Nat} {T : Int} {s : Nat} (h : ¬ ReachF lo xs k ((s : Int) - T)) (t : Nat) : propB (NextF lo xs k T (s + 1) t) = propB (NextF lo xs k T s t) := by
  have : NextF lo xs k T (s + 1) t ↔ NextF lo xs k T s t := by
    constructor
    · rintro ⟨s', h1, h2, h3⟩
      by_cases e : s' = s
      · subst e; exact absurd h2 h
      · exact ⟨s', by omega, h2, h3⟩
    · rintro ⟨s', h1, h2, h3⟩
      exact ⟨s', by omega, h2, h3⟩
  rw [Bool.eq_iff_iff, propB_iff, propB_iff]
  exact this
theorem next_more {two : Bool} {xs : List Int} {k : Nat} {T : Int} {s : Nat} (h : ReachF (loF two) xs k ((s : Int) - T)) (t : Nat) :
    NextF (loF two) xs k T (s + 1) t ↔ NextF (loF two) xs k T s t ∨ t = s ∨ (t : Int) = s + xs.getD k 0 ∨ (two = true ∧ (t : Int) = s - xs.getD k 0) := by
  constructor
  · rintro ⟨s', h1, h2, g, g0, g1, e⟩
    by_cases es : s' = s
    · subst es
      rcases sign_cases (loF_ok two) g0 g1 with ⟨rfl, hl⟩ | rfl | rfl
      · refine .inr (.inr (.inr ⟨?_, by omega⟩))
        cases two
        · exact absurd hl (by decide)
        · rfl
      · exact .inr (.inl (by omega))
      · exact .inr (.inr (.inl (by omega)))
    · exact .inl ⟨s', by omega, h2, g, g0, g1, e⟩
  · rintro (⟨s', h1, h2, h3⟩ | e | e | ⟨rfl, e⟩)
    · exact ⟨s', by omega, h2, h3⟩
    · exact ⟨s, by omega, h, 0, by have := loF_ok two; omega, by omega, by rw [e, Int.zero_mul, Int.add_zero]⟩
    · exact ⟨s, by omega, h, 1, by have := loF_ok two; omega, by omega, by omega⟩
    · exact ⟨s, by omega, h, -1, by decide, by omega, by omega⟩
theorem next_full {lo : Int} {xs : List Int} {k : Nat} {T : Int} {M : Nat} (hM : ∀ z, ReachF lo xs k z → ∃ s' : Nat, s' < M ∧ (s' : Int) - T = z) (t : Nat) : propB (NextF lo xs k T M t) = propB (ReachF lo xs (k + 1) ((t : Int) - T)) := by
  rw [Bool.eq_iff_iff, propB_iff, propB_iff]
  constructor
  · rintro ⟨s', _, h2, g, g0, g1, e⟩
    exact ⟨_, g, h2, g0, g1, e⟩
  · rintro ⟨z, g, h2, g0, g1, e⟩
    obtain ⟨s', h1, e1⟩ := hM z h2
    exact ⟨s', h1, by rw [e1]; exact h2, g, g0, g1, by rw [e1]; exact e⟩
theorem sum_mono {xs : List Int} (hk : ∀ j, j < xs.length → 1 ≤ xs.getD j 0 ∧ xs.getD j 0 ≤ 99) (k : Nat) (h : k ≤ xs.length) : sumF (xs.take k) ≤ sumF xs := by
  have : ∀ n, k + n ≤ xs.length → sumF (xs.take k) ≤ sumF (xs.take (k + n)) := by
    intro n
    induction n with
    | zero => intro _; exact Int.le_refl _
    | succ n ih =>
      intro hn
      have h1 := ih (by omega)
      have h2 := hk (k + n) (by omega)
      rw [show k + (n + 1) = k + n + 1 by omega, sumF_take xs (k + n) (by omega)]
      omega
  have h2 := this (xs.length - k) (by omega)
  rw [show k + (xs.length - k) = xs.length by omega, List.take_length] at h2
  exact h2
theorem infoBool : (Try.prog.info? 4).map (fun i => (i.zero, i.size, i.bytes)) = some (some (.bool false), 1, 1) := by kernel_rfl
theorem make_bools (n : Nat) (hn : n ≤ 2000000) (u : World) :
    (Instr.makeSlice 104 (.int .i64 (n : Int)) (.int .i64 (n : Int))).run Try.prog u = .ok (.slice (some ⟨u.heap.size, 0, none⟩) n n) (u.alloc (.cells (madeCells #[.bool false] n) 4)) := by
  obtain ⟨i0, hi, hz0, hz1, hz2⟩ := info_parts infoBool
  have h := run_make (P := Try.prog) u 104 4 i0 (.bool false) Try.underlying104 hi hz0 .i64 .i64 (n : Int) (n : Int) (by omega) (Int.le_refl _) (by rw [hz2]; omega) (by omega)
  simpa [hz1, Value.cells] using h
theorem made_bool (m j : Nat) (h : j < m) : (madeCells #[.bool false] m)[j]? = some (.bool false) := by
  rw [← Array.getElem?_toList, toList_madeCells_one]; simp [h]
theorem least_is (a b : Int) (h : a ≤ b) (w : World) : Calls Try.prog 158 #[.int .i64 a, .int .i64 b] w fun e w' => e = .returned (.int .i64 a) ∧ w = w' := by
  by_cases h1 : a < b
  · go_enter Try.func158, Try.ntmps158
    go_wp2
    go_ret
    exact ⟨rfl, rfl⟩
  · obtain rfl : a = b := by omega
    go_enter Try.func158, Try.ntmps158
    go_wp2
    go_ret
    exact ⟨rfl, rfl⟩
theorem most_is (a b : Int) (h : b ≤ a) (w : World) : Calls Try.prog 132 #[.int .i64 a, .int .i64 b] w fun e w' => e = .returned (.int .i64 a) ∧ w = w' := by
  by_cases h1 : b < a
  · go_enter Try.func132, Try.ntmps132
    go_wp2
    go_ret
    exact ⟨rfl, rfl⟩
  · obtain rfl : b = a := by omega
    go_enter Try.func132, Try.ntmps132
    go_wp2
    go_ret
    exact ⟨rfl, rfl⟩
/-- Block g reads as the Bools f, M of them, and can be written. -/
def BoolsAt (w : World) (g M : Nat) (f : Nat → Bool) : Prop := (∀ s, s < M → w.cell? ⟨g, s, none⟩ = some (.bool (f s))) ∧ ∀ s, w.frozen? ⟨g, s, none⟩ = false
theorem BoolsAt.set {w : World} {g M : Nat} {f : Nat → Bool} (h : BoolsAt w g M f) (p : Nat) (hp : p < M) (b : Bool) : BoolsAt (w.setCell ⟨g, p, none⟩ (.bool b)) g M (fun s => if s = p then b else f s) := by
  refine ⟨fun s hs => ?_, fun s => by rw [World.frozen?_setCell]; exact h.2 s⟩
  have o := one_set w g p (.bool b) (h.1 p hp)
  by_cases e : s = p
  · subst e; simp only [if_true]; exact o.1
  · rw [o.2 s e]; simp only [e, if_false]; exact h.1 s hs
theorem BoolsAt.congr {w : World} {g M : Nat} {f f' : Nat → Bool} (h : BoolsAt w g M f) (e : ∀ s, s < M → f s = f' s) : BoolsAt w g M f' := ⟨fun s hs => by rw [← e s hs]; exact h.1 s hs, h.2⟩
theorem BoolsAt.lo {w w' : World} {g M : Nat} {f : Nat → Bool} (h : BoolsAt w g M f) (l : Below w.heap.size w w') (hg : g < w.heap.size) : BoolsAt w' g M f :=
  ⟨fun s hs => by rw [l.cell (p := ⟨g, s, none⟩) hg]; exact h.1 s hs, fun s => by rw [l.frozen (p := ⟨g, s, none⟩) hg]; exact h.2 s⟩
/-- The slice tells, from index 0 on, which of 0 .. T can be weighed. -/
def ToldRow (w : World) (v : Value) (lo : Int) (xs : List Int) : Prop :=
  ∃ (g T c : Nat), v = .slice (some ⟨g, T, none⟩) (T + 1) c ∧ (T : Int) = sumF xs ∧ g < w.heap.size ∧ ∀ n, n < T + 1 → w.cell? ⟨g, T + n, none⟩ = some (.bool (propB (ReachF lo xs xs.length (n : Int))))
set_option maxRecDepth 100000 in
set_option maxHeartbeats 6400000 in
theorem l3Sums_any (v : Value) (xs : List Int) (two : Bool) (w : World) (hr : IntRow w v xs) (K : KitF xs) :
    Calls Try.prog 108 #[v, .bool two] w fun e w' => ∃ u, e = .returned u ∧ ToldRow w' u (loF two) xs ∧ Below w.heap.size w w' := by
  obtain ⟨a, c, rfl, hr⟩ := hr
  have hk6 := K.short
  have HK := Lib.hid K
  rcases hr with h | ⟨g, off, rfl, hg, hc⟩
  · have := K.one; subst h; simp at this
  have HC := Lib.hid hc
  clear K hc
  go_enter Try.func108, Try.ntmps108
  go_wp2
  go_loopw [5, 6] (fun s i wr => ∃ (k : Nat) (y : Int), k ≤ xs.length ∧ i = .int .i64 k ∧ s = .int .i64 y ∧ Hid (sumF (xs.take k) = y) ∧ wr = w) (fun _ i _ => xs.length - (intOf i).toNat)
  case atStart => exact ⟨0, 0, Nat.zero_le _, rfl, rfl, Lib.hid rfl, rfl⟩
  case round =>
    obtain ⟨k, y, hk, rfl, rfl, HY, rfl⟩ := hrel
    have hb := sum_small HK.out.each k hk
    rw [HY.out] at hb
    obtain ⟨b0, b1⟩ := hb
    by_cases hlt : k < xs.length
    · have h1 := HC.out k hlt
      have hlt' : (k : Int) < (xs.length : Int) := by omega
      have hx := HK.out.each k hlt
      have HT := Lib.hid (sumF_take xs k hlt)
      generalize xs.getD k 0 = x at h1 hx HT
      obtain ⟨x0, x1⟩ := hx
      go_wp2
      go_roundw
      case rel => exact ⟨k + 1, _, by omega, by go_num, rfl, Lib.hid (by rw [HT.out, HY.out]), trivial⟩
      case measure => simp [intOf]; omega
    · obtain rfl : k = xs.length := by omega
      obtain ⟨wz, rfl⟩ : ∃ wz : World, wz = wr := ⟨_, rfl⟩
      have hge : ¬ (xs.length : Int) < (xs.length : Int) := by omega
      have hys := HY.out
      rw [List.take_length] at hys
      obtain ⟨T, rfl⟩ := Int.eq_ofNat_of_zero_le (show 0 ≤ y by omega)
      have HTS := Lib.hid hys
      have hT6 : T ≤ 600 := by omega
      have hM : (2 : Int) * (T : Int) + 1 = ((2 * T + 1 : Nat) : Int) := by omega
      have HMk := make_bools (2 * T + 1) (by omega)
      obtain ⟨M, hMM⟩ : ∃ M : Nat, 2 * T + 1 = M := ⟨_, rfl⟩
      rw [hMM] at hM HMk
      have HMM := Lib.hid hMM
      have hTM : T < M := by omega
      have hTM' : (T : Int) < (M : Int) := by omega
      have hMs : M ≤ 2000 := by omega
      have B0 := Lib.hid (show BoolsAt (wz.alloc (.cells (madeCells #[.bool false] M) 4)) wz.heap.size M (fun _ => false) from ⟨fun s hs => by rw [World.cell?_alloc_at _ _ _ _ rfl]; exact made_bool _ _ hs, fun s => World.frozen?_alloc_at _ _ _ _ rfl⟩)
      have c0 := B0.out.1 T hTM
      have f0 := B0.out.2 T
      have B1 := Lib.hid ((B0.out.set T hTM true).congr (f' := fun s => propB (ReachF (loF two) xs 0 ((s : Int) - (T : Int)))) (fun s _ => by
        by_cases e : s = T
        · subst e; rw [show propB (ReachF (loF two) xs 0 ((s : Int) - (s : Int))) = true from propB_yes (show (s : Int) - (s : Int) = 0 by omega)]; simp
        · rw [show propB (ReachF (loF two) xs 0 ((s : Int) - (T : Int))) = false from propB_no (fun h => e (by have h' : (s : Int) - (T : Int) = 0 := h; omega))]; simp [e]))
      have LL1 := Lib.hid (((Below.refl wz.heap.size wz).alloc (Nat.le_refl _) (.cells (madeCells #[.bool false] M) 4)).setCell (p := ⟨wz.heap.size, T, none⟩) (Nat.le_refl _) (.bool true))
      have HSA := World.setCell_alloc_at (w := wz) (madeCells #[.bool false] M) 4 wz.heap.size T (.bool true) rfl
      rw [HSA] at B1 LL1
      clear hys hMM HY HSA
      go_wp2
      go_loopw [7, 8] (fun m i ws => ∃ (k g1 : Nat), k ≤ xs.length ∧ i = .int .i64 k ∧ m = .slice (some ⟨g1, 0, none⟩) M M ∧ wz.heap.size ≤ g1 ∧ g1 < ws.heap.size ∧ Hid (BoolsAt ws g1 M (fun s => propB (ReachF (loF two) xs k ((s : Int) - (T : Int))))) ∧ Hid (Below wz.heap.size wz ws)) (fun _ i _ => xs.length - (intOf i).toNat)
      case atStart => exact ⟨0, wz.heap.size, Nat.zero_le _, rfl, rfl, Nat.le_refl _, by simp, B1, LL1⟩
      case round =>
        obtain ⟨k, g1, hkl, rfl, rfl, hg1, hg1s, HB, HL⟩ := hrel
        clear B1 LL1 B0 c0 f0
        obtain ⟨wq, rfl⟩ : ∃ wq : World, wq = wr := ⟨_, rfl⟩
        have hsz := HL.out.size
        by_cases hlt : k < xs.length
        · have hlt' : (k : Int) < (xs.length : Int) := by omega
          have hx := HK.out.each k hlt
          have h1 := HC.out k hlt
          rw [← HL.out.cell (p := ⟨g, off + k, none⟩) hg] at h1
          have HNX := Lib.hid (show ∀ s : Nat, s < M → ReachF (loF two) xs k ((s : Int) - (T : Int)) → (s : Int) + xs.getD k 0 < (M : Int) ∧ (two = true → 0 ≤ (s : Int) - xs.getD k 0) from fun s hs h => by
            obtain ⟨r1, r2, r3⟩ := reach_bound (loF_ok two) HK.out.each k (by omega) _ h
            have hst := sumF_take xs k hlt
            have hle : sumF (xs.take (k + 1)) ≤ sumF xs := by
              have := sum_mono HK.out.each (k + 1) (by omega)
              exact this
            have e1 := HTS.out
            have e2 := HMM.out
            exact ⟨by omega, fun _ => by omega⟩)
          have HFU := Lib.hid (fun t => next_full (lo := loF two) (xs := xs) (k := k) (T := (T : Int)) (M := M) (fun z h => by
            obtain ⟨r1, r2, r3⟩ := reach_bound (loF_ok two) HK.out.each k (by omega) _ h
            have hle := sum_mono HK.out.each k (by omega)
            have e1 := HTS.out
            have e2 := HMM.out
            exact ⟨(z + T).toNat, by omega, by omega⟩) t)
          have HMR := Lib.hid (fun (s : Nat) (h : ReachF (loF two) xs k ((s : Int) - (T : Int))) t => next_more h t)
          have HSK := Lib.hid (fun (s : Nat) (h : ¬ ReachF (loF two) xs k ((s : Int) - (T : Int))) t => next_skip h t)
          have N0 := Lib.hid (show BoolsAt (wq.alloc (.cells (madeCells #[.bool false] M) 4)) wq.heap.size M (fun t => propB (NextF (loF two) xs k (T : Int) 0 t)) from ⟨fun s hs => by rw [World.cell?_alloc_at _ _ _ _ rfl]; show _ = some (Value.bool (propB (NextF (loF two) xs k (T : Int) 0 s))); rw [next_zero]; exact made_bool _ _ hs, fun s => World.frozen?_alloc_at _ _ _ _ rfl⟩)
          have LN0 := Lib.hid ((Below.refl wq.heap.size wq).alloc (Nat.le_refl _) (.cells (madeCells #[.bool false] M) 4))
          generalize hxe : xs.getD k 0 = x at h1 hx HNX HMR
          have HXE := Lib.hid hxe
          obtain ⟨x0, x1⟩ := hx
          clear hxe
          go_wp2
          go_loopw [10] (fun i ws => ∃ s : Nat, s ≤ M ∧ i = .int .i64 s ∧ Hid (BoolsAt ws wq.heap.size M (fun t => propB (NextF (loF two) xs k (T : Int) s t))) ∧ Hid (Below wq.heap.size wq ws) ∧ wq.heap.size < ws.heap.size) (fun i _ => M - (intOf i).toNat)
          case atStart => exact ⟨0, Nat.zero_le _, rfl, N0, LN0, by simp⟩
          case round =>
            obtain ⟨s, hsM, rfl, HN, HLs, hgs⟩ := hrel
            clear N0 LN0 HMk
            obtain ⟨wv, rfl⟩ : ∃ wv : World, wv = wr := ⟨_, rfl⟩
            by_cases hsl : s < M
            · have hsl' : (s : Int) < (M : Int) := by omega
              have hcs : wq.cell? ⟨g1, s, none⟩ = some (.bool (propB (ReachF (loF two) xs k ((s : Int) - (T : Int))))) := HB.out.1 s hsl
              rw [← HLs.out.cell (p := ⟨g1, s, none⟩) hg1s] at hcs
              have h1v : wv.cell? ⟨g, off + k, none⟩ = some (.int .i64 x) := by rw [HLs.out.cell (p := ⟨g, off + k, none⟩) (by simp only; omega)]; exact h1
              have fl : ∀ (wx : World) (t : Nat) (u : Value) (p : Addr), p.block ≠ wq.heap.size → (wx.setCell ⟨wq.heap.size, t, none⟩ u).cell? p = wx.cell? p := fun wx t u p hp => World.cell?_setCell_other _ _ _ _ (fun hh => hp (congrArg Addr.block hh).symm)
              have FL := Lib.hid fl
              clear fl
              by_cases hrs : ReachF (loF two) xs k ((s : Int) - (T : Int))
              · rw [show propB (ReachF (loF two) xs k ((s : Int) - (T : Int))) = true from propB_yes hrs] at hcs
                obtain ⟨nx1, nx2⟩ := HNX.out s hsl hrs
                have HMS := Lib.hid (HMR.out s hrs)
                obtain ⟨p, hp⟩ : ∃ p : Nat, (p : Int) = (s : Int) + x := ⟨((s : Int) + x).toNat, by omega⟩
                have hpM : p < M := by omega
                have hpM' : (p : Int) < (M : Int) := by omega
                have S1 := Lib.hid (HN.out.set s hsl true)
                have S2 := Lib.hid (S1.out.set p hpM true)
                obtain ⟨y0, d0⟩ : ∃ b, wv.cell? ⟨wq.heap.size, s, none⟩ = some (.bool b) := ⟨_, HN.out.1 s hsl⟩
                have q0 := HN.out.2 s
                obtain ⟨y1, d1⟩ : ∃ b, (wv.setCell ⟨wq.heap.size, s, none⟩ (.bool true)).cell? ⟨wq.heap.size, p, none⟩ = some (.bool b) := ⟨_, S1.out.1 p hpM⟩
                have q1 := S1.out.2 p
                have hlo1 : (s : Int) + x ≤ 2 * (T : Int) := by have := HMM.out; omega
                have LE := Lib.hid (fun w => least_is ((s : Int) + x) (2 * (T : Int)) hlo1 w)
                have hwsum : (s : Int) + x = (p : Int) := hp.symm
                have hgn : g ≠ wq.heap.size := by omega
                have h1w : (wv.setCell ⟨wq.heap.size, s, none⟩ (.bool true)).cell? ⟨g, off + k, none⟩ = some (.int .i64 x) := by rw [FL.out _ _ _ _ hgn]; exact h1v
                have h1z : ((wv.setCell ⟨wq.heap.size, s, none⟩ (.bool true)).setCell ⟨wq.heap.size, p, none⟩ (.bool true)).cell? ⟨g, off + k, none⟩ = some (.int .i64 x) := by rw [FL.out _ _ _ _ hgn]; exact h1w
                have HPP := Lib.hid hp
                have LS2 := Lib.hid ((HLs.out.setCell (p := ⟨wq.heap.size, s, none⟩) (Nat.le_refl _) (.bool true)).setCell (p := ⟨wq.heap.size, p, none⟩) (Nat.le_refl _) (.bool true))
                have HWS := Lib.hid hwsum
                cases two with
                | false =>
                  have HNN := Lib.hid (S2.out.congr (f' := fun t => propB (NextF (loF false) xs k (T : Int) (s + 1) t)) (fun t _ => by
                    rw [Bool.eq_iff_iff, propB_iff, HMS.out t]
                    by_cases e1 : t = p
                    · have := HPP.out; subst e1; simp; omega
                    · by_cases e2 : t = s
                      · subst e2; simp [e1]
                      · simp only [e1, e2, if_false, propB_iff, false_or]
                        constructor
                        · exact .inl
                        · rintro (h | h | h)
                          · exact h
                          · exact absurd (by have := HPP.out; omega) e1
                          · cases h.1))
                  clear hp hwsum S1 S2
                  go_wp2_with fail
                  refine (LE.out _).mono ?_
                  rintro e w' ⟨rfl, rfl⟩
                  rw [HWS.out]
                  go_wp2
                  go_roundw
                  case rel => exact ⟨s + 1, by omega, by go_num, HNN, LS2, by simp; exact hgs⟩
                  case measure => simp [intOf]; omega
                | true =>
                  obtain ⟨q, hq⟩ : ∃ q : Nat, (q : Int) = (s : Int) - x := ⟨((s : Int) - x).toNat, by have := nx2 rfl; omega⟩
                  have hqM : q < M := by omega
                  have hqM' : (q : Int) < (M : Int) := by omega
                  have S3 := Lib.hid (S2.out.set q hqM true)
                  obtain ⟨y2, d2⟩ : ∃ b, ((wv.setCell ⟨wq.heap.size, s, none⟩ (.bool true)).setCell ⟨wq.heap.size, p, none⟩ (.bool true)).cell? ⟨wq.heap.size, q, none⟩ = some (.bool b) := ⟨_, S2.out.1 q hqM⟩
                  have q2 := S2.out.2 q
                  have ME := Lib.hid (fun w => most_is ((s : Int) - x) 0 (by have := nx2 rfl; omega) w)
                  have HQQ := Lib.hid hq
                  have HWD := Lib.hid hq.symm
                  have LS3 := Lib.hid (LS2.out.setCell (p := ⟨wq.heap.size, q, none⟩) (Nat.le_refl _) (.bool true))
                  have HNN := Lib.hid (S3.out.congr (f' := fun t => propB (NextF (loF true) xs k (T : Int) (s + 1) t)) (fun t _ => by
                    rw [Bool.eq_iff_iff, propB_iff, HMS.out t]
                    by_cases e3 : t = q
                    · have := HQQ.out; subst e3; simp; omega
                    · by_cases e1 : t = p
                      · have := HPP.out; subst e1; simp [e3]; omega
                      · by_cases e2 : t = s
                        · subst e2; simp [e1, e3]
                        · simp only [e1, e2, e3, if_false, propB_iff, false_or]
                          constructor
                          · exact .inl
                          · rintro (h | h | h)
                            · exact h
                            · exact absurd (by have := HPP.out; omega) e1
                            · exact absurd (by have := HQQ.out; have := h.2; omega) e3))
                  clear hp hwsum hq S1 S2 S3
                  go_wp2_with fail
                  refine (LE.out _).mono ?_
                  rintro e w' ⟨rfl, rfl⟩
                  rw [HWS.out]
                  go_wp2_with fail
                  refine (ME.out _).mono ?_
                  rintro e w' ⟨rfl, rfl⟩
                  rw [HWD.out]
                  go_wp2
                  go_roundw
                  case rel => exact ⟨s + 1, by omega, by go_num, HNN, LS3, by simp; exact hgs⟩
                  case measure => simp [intOf]; omega
              · rw [show propB (ReachF (loF two) xs k ((s : Int) - (T : Int))) = false from propB_no hrs] at hcs
                have HNN := Lib.hid (HN.out.congr (f' := fun t => propB (NextF (loF two) xs k (T : Int) (s + 1) t)) (fun t _ => (HSK.out s hrs t).symm))
                clear hrs
                go_wp2
                go_roundw
                case rel => exact ⟨s + 1, by omega, by go_num, HNN, HLs, hgs⟩
                case measure => simp [intOf]; omega
            · obtain rfl : s = M := by omega
              have hge2 : ¬ (s : Int) < (s : Int) := by omega
              have HNN := Lib.hid (HN.out.congr (f' := fun t => propB (ReachF (loF two) xs (k + 1) ((t : Int) - (T : Int)))) (fun t _ => HFU.out t))
              have LLL := Lib.hid (HL.out.trans (HLs.out.mono hsz))
              go_wp2
              go_roundw
              case rel => exact ⟨k + 1, wq.heap.size, by omega, by go_num, rfl, hsz, hgs, HNN, LLL⟩
              case measure => simp [intOf]; omega
        · obtain rfl : k = xs.length := by omega
          have hge2 : ¬ (xs.length : Int) < (xs.length : Int) := by omega
          go_wp2
          go_ret
          refine ⟨_, rfl, ⟨g1, T, M - T, ?_, HTS.out.symm, hg1s, fun n hn => ?_⟩, HL.out⟩
          · rw [show M - T = T + 1 by have := HMM.out; omega]; rfl
          · refine (HB.out.1 (T + n) (by have := HMM.out; omega)).trans ?_
            show some (Value.bool (propB (ReachF (loF two) xs xs.length (((T + n : Nat) : Int) - (T : Int))))) = _
            rw [show ((T + n : Nat) : Int) - (T : Int) = (n : Int) by omega]
end Go.Proofs.Ytghpacgbkknhbaa
