/- The contracts of the law's own functions on rows of loads. -/
import Derived.Test.YtcfbnadefdcjaaaLoads
import Derived.Maps.AppendAt
import Derived.Deep.RegionHeld3
import Derived.Lib.LaidTab
namespace Go.Proofs.Ytcfbnadefdcjaaa
open Go.RowKit
def SzLoad (n : Nat) (w : World) (e : Ending) (w' : World) : Prop := ∃ z : Int, e = .returned (.int .i64 z) ∧ w = w' ∧ (z < 0 ∨ (0 ≤ z ∧ n ≤ 1048576))
theorem szLoad_any (a : Option Addr) (n c : Nat) (w : World) (hn : n ≤ maxLen) : Calls Try.prog 24 #[.slice a n c, .int .i64 1048576] w (SzLoad n w) := by
  unfold maxLen at hn
  by_cases h : n ≤ 1048576
  · have h1 : ¬ (1048576 : Int) - n < 0 := by omega
    go_enter Try.func24, Try.ntmps24
    go_wp2
    go_ret
    exact ⟨_, rfl, rfl, .inr ⟨by omega, h⟩⟩
  · have h1 : (1048576 : Int) - n < 0 := by omega
    go_enter Try.func24, Try.ntmps24
    go_wp2
    go_ret
    exact ⟨_, rfl, rfl, .inl (by decide)⟩
theorem alloc_two (w : World) (o o' : Obj) : Below w.heap.size w ((w.alloc o).alloc o') := (((Below.refl _ _).alloc (Nat.le_refl _) o).alloc (by simp) o')
theorem alloc_three (w : World) (o o' o'' : Obj) : Below w.heap.size w (((w.alloc o).alloc o').alloc o'') := (alloc_two w o o').alloc (by simp; omega) o''
theorem eqLoad_any (p q : Int) (w : World) : Calls Try.prog 93 #[.agg #[.int .i64 p, .int .i64 q], .agg #[.int .i64 p, .int .i64 q]] w fun e w' => e = .returned (.bool true) ∧ Below w.heap.size w w' := by
  go_enter Try.func93, Try.ntmps93
  go_wp2
  go_ret
  exact ⟨rfl, alloc_two _ _ _⟩
theorem toLoad_any (p q : Int) (w : World) : Calls Try.prog 92 #[.agg #[.int .i64 p, .int .i64 q]] w fun e w' => e = .returned (.agg #[.int .i64 p, .int .i64 q]) ∧ Below w.heap.size w w' := by
  go_enter Try.func92, Try.ntmps92
  go_wp2
  refine bodyPost_ret (v := .agg #[.int .i64 p, .int .i64 q]) (by simp [results, Try.results92, go_sem]) rfl ⟨rfl, alloc_three _ _ _ _⟩
set_option maxHeartbeats 1600000 in
theorem eqLoads_same (va vb : Value) (xs : List (Int × Int)) (w : World) (ha : LoadRow w va xs) (hb : LoadRow w vb xs) (hn : xs.length ≤ 2000000) :
    Calls Try.prog 29 #[va, vb] w fun e w' => e = .returned (.bool true) ∧ Below w.heap.size w w' := by
  obtain ⟨a, c, rfl, ha⟩ := ha
  obtain ⟨a', c', rfl, hb⟩ := hb
  go_enter Try.func29, Try.ntmps29
  go_wp2
  go_loopw [5] (fun i wr => ∃ k : Nat, k ≤ xs.length ∧ i = .int .i64 k ∧ Below w.heap.size w wr) (fun i _ => xs.length - (intOf i).toNat)
  case atStart => exact ⟨0, Nat.zero_le _, rfl, Below.refl _ _⟩
  case round =>
    obtain ⟨k, hk, rfl, hw⟩ := hrel
    by_cases hlt : k < xs.length
    · rcases ha with h | ⟨g, off, rfl, hg, hc⟩
      · subst h; simp at hlt
      rcases hb with h | ⟨g', off', rfl, hg', hc'⟩
      · subst h; simp at hlt
      obtain ⟨h1, h2⟩ := hc k hlt
      obtain ⟨h3, h4⟩ := hc' k hlt
      have hlt' : (k : Int) < (xs.length : Int) := by omega
      clear hc hc'
      generalize xs.getD k (0, 0) = x at h1 h2 h3 h4
      obtain ⟨p, q⟩ := x
      simp only at h1 h2 h3 h4
      have hgr : g < wr.heap.size := Nat.lt_of_lt_of_le hg hw.size
      have hgr' : g' < wr.heap.size := Nat.lt_of_lt_of_le hg' hw.size
      rw [← hw.cell (p := ⟨g, off + k * 2, none⟩) hg] at h1
      rw [← hw.cell (p := ⟨g, off + k * 2 + 1, none⟩) hg] at h2
      rw [← hw.cell (p := ⟨g', off' + k * 2, none⟩) hg'] at h3
      rw [← hw.cell (p := ⟨g', off' + k * 2 + 1, none⟩) hg'] at h4
      go_wp2_with fail
      go_region_held3 (fun w' => w'.cell? ⟨g, off + k * 2, none⟩ = some (.int .i64 p) ∧ w'.cell? ⟨g, off + k * 2 + 1, none⟩ = some (.int .i64 q) ∧ w'.cell? ⟨g', off' + k * 2, none⟩ = some (.int .i64 p) ∧ w'.cell? ⟨g', off' + k * 2 + 1, none⟩ = some (.int .i64 q)) (first | exact ⟨(hl.cell (p := ⟨g, off + k * 2, none⟩) hgr).trans h1, (hl.cell (p := ⟨g, off + k * 2 + 1, none⟩) hgr).trans h2, (hl.cell (p := ⟨g', off' + k * 2, none⟩) hgr').trans h3, (hl.cell (p := ⟨g', off' + k * 2 + 1, none⟩) hgr').trans h4⟩ | go_keep)
        (first | (go_at_call 93; refine (eqLoad_any p q _).mono ?_; rintro e w1 ⟨rfl, hl⟩))
      go_wp2
      go_roundw
      case rel => exact ⟨k + 1, by omega, by go_num, (hw.drew).trans (hl.mono hw.size)⟩
      case measure => simp [intOf]; omega
    · have hge : ¬ (k : Int) < (xs.length : Int) := by omega
      go_wp2
      go_ret
      exact ⟨rfl, hw⟩
end Go.Proofs.Ytcfbnadefdcjaaa
