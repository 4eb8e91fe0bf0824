/- What the rows of this chapter ask of the cells that came in; the model's IsBody. -/
import Derived.Test.YtmcjichpeijiaaaBo7
import Derived.OpenShut
namespace Go.Proofs.Ytmcjichpeijiaaa
open Go.RowKit Go.Maps
theorem pairs_wf {w : World} {a : Option Addr} {len cap : Nat} {zs : List (Int × Int)} (h : IsPairs .i64 w a len cap zs) : WfL zs := by
  obtain ⟨hl, _, _, hd⟩ := h
  intro c hc
  obtain ⟨k, hk, rfl⟩ := getD_mem hc
  rcases hd with ⟨_, h0, _⟩ | ⟨x, _, hp⟩
  · omega
  · have := hp k (by omega)
    exact ⟨bounds_i64 this.wf1, bounds_i64 this.wf2⟩
theorem specIsBody_any (v : Value) (xs : List (Int × Int)) (w : World) (hr : LoadRow w v xs) :
    Calls Try.prog 20 #[v] w fun e w' => e = .returned (.bool (bodB xs)) ∧ Below w.heap.size w w' := by
  have C := Lib.hid (l8Body_any v xs w hr)
  generalize bodB xs = r at *
  clear hr
  go_enter Try.func20, Try.ntmps20
  go_wp2_with fail
  refine C.out.mono ?_
  rintro e w1 ⟨rfl, l1⟩
  go_wp2
  go_ret
  exact ⟨rfl, l1⟩
end Go.Proofs.Ytmcjichpeijiaaa
