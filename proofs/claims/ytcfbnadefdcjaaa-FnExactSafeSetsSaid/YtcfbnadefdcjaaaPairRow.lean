/- A row of loads that came in, as the walks take it. -/
import Derived.Test.YtcfbnadefdcjaaaLoads
namespace Go.Proofs.Ytcfbnadefdcjaaa
open Go.RowKit
theorem cell_lt {w : World} {p : Addr} {v : Value} (h : w.cell? p = some v) : p.block < w.heap.size := by
  rcases Nat.lt_or_ge p.block w.heap.size with h' | h'
  · exact h'
  · simp [World.cell?, Array.getElem?_eq_none h'] at h
theorem pairs_row {w : World} {a : Option Addr} {len cap : Nat} {zs : List (Int × Int)} (h : IsPairs .i64 w a len cap zs) : zs.length = len ∧ len ≤ maxLen ∧ LoadRow w (.slice a zs.length cap) zs := by
  obtain ⟨hl, hc, hm, hd⟩ := h
  refine ⟨hl, by omega, a, cap, rfl, ?_⟩
  by_cases h0 : zs = []
  · exact .inl h0
  · have hpos : 0 < zs.length := List.length_pos_iff.2 h0
    rcases hd with ⟨_, h2, _⟩ | ⟨⟨b, off, spot⟩, rfl, hp⟩
    · omega
    · have hc0 := (hp 0 (by omega)).one
      have hs : spot = none := by simpa [Addr.add] using World.cell?_spot hc0
      subst hs
      rw [Go.WideShapes.add_plain] at hc0
      refine .inr ⟨b, off, rfl, cell_lt hc0, fun i hi => ?_⟩
      have h1 := (hp i (by omega)).one
      have h2 := (hp i (by omega)).two
      rw [Go.WideShapes.add_plain] at h1 h2
      exact ⟨h1, by rw [Nat.add_assoc]; exact h2⟩
end Go.Proofs.Ytcfbnadefdcjaaa
