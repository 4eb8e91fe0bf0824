/- Rows of loads among the arguments of a law: copied into memory of the law's own. -/
import Derived.Test.YtcfbnadefdcjaaaLoadOwn
import Derived.Test.YtcfbnadefdcjaaaLoadTo
namespace Go.Proofs.Ytcfbnadefdcjaaa
open Go.RowKit
theorem toLoads_mine (a : Option Addr) (c : Nat) (xs : List (Int × Int)) (w : World) (hr : LoadRow w (.slice a xs.length c) xs) (hn : xs.length ≤ 2000000) :
    Calls Try.prog 26 #[.slice a xs.length c] w fun e w' => ∃ v, e = .returned v ∧ MineL w' w.heap.size w'.heap.size v xs ∧ Below w.heap.size w w' := by
  refine (toLoads_all a c xs w hr hn).mono ?_
  rintro e w' ⟨rfl, h1, h2, h3, h4⟩
  refine ⟨_, rfl, ?_, h4⟩
  obtain ⟨a', c', he, hc⟩ := h1
  rcases hc with h | ⟨g, off, e1, hg, hc⟩
  · subst h; exact .inl ⟨rfl, _, _, rfl⟩
  · cases he
    cases e1
    exact .inr ⟨_, _, rfl, Nat.le_refl _, h3, Nat.le_refl _, fun j hj => by have := hc j hj; rw [Nat.zero_add] at this; exact this, h2⟩
end Go.Proofs.Ytcfbnadefdcjaaa
