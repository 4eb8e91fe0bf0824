/- What every draw stands on: the cursor as a draw makes it, lists of texts to draw from, texts of zeros. -/
import Derived.Test.YtpklccpkgefniaaCur
import Derived.Test.YtpklccpkgefniaaWorld
import Derived.ProofKit
import Derived.OpenShut
namespace Go.Proofs.Ytpklccpkgefniaa
open Go.RowKit
theorem block_lt {w : World} {a : Addr} {v : Value} (h : w.cell? a = some v) : a.block < w.heap.size := by
  rcases Nat.lt_or_ge a.block w.heap.size with h' | h'
  · exact h'
  · simp [World.cell?, Array.getElem?_eq_none h'] at h
theorem CurAt.lo {w w' : World} {C : Nat} {cv : Value} {p seed : Int} (h : CurAt w C cv p seed) (l : Lo w w') : CurAt w' C cv p seed := by
  have hb : C < w.heap.size := block_lt h.code
  exact ⟨by rw [l.cell (p := ⟨C, 0, none⟩) hb]; exact h.code, by rw [l.cell (p := ⟨C, 1, none⟩) hb]; exact h.place, by rw [l.cell (p := ⟨C, 2, none⟩) hb]; exact h.seed,
    by rw [l.frozen (p := ⟨C, 1, none⟩) hb]; exact h.free1, by rw [l.frozen (p := ⟨C, 2, none⟩) hb]; exact h.free2⟩
theorem lo_alloc (w : World) (o : Obj) : Lo w (w.alloc o) := (Below.refl _ _).alloc (Nat.le_refl _) o
/-- A code that came in, as the row's proof opens it. -/
theorem code_of_row {w : World} {a : Option Addr} {len cap : Nat} {zs : List Int}
    (h : (a = none ∧ len = 0 ∧ cap = 0 ∧ zs = []) ∨ ∃ x, a = some x ∧ len ≤ cap ∧ cap ≤ maxLen ∧ zs.length = cap ∧ (∀ i, i < zs.length → w.cell? (x.add i) = some (.int .u8 (zs.getD i 0))) ∧ ∀ n ∈ zs, (Lit.int .u8 n).wf = true) :
    CodeAt w w.heap.size a len := by
  rcases h with ⟨_, h, _, _⟩ | ⟨⟨b, off, spot⟩, rfl, hl, _, hz, hc, hw⟩
  · exact .inl h
  · by_cases h0 : len = 0
    · exact .inl h0
    · have hc0 := hc 0 (by omega)
      have hs : spot = none := by simpa [Addr.add] using World.cell?_spot hc0
      subst hs
      rw [Go.WideShapes.add_plain] at hc0
      refine .inr ⟨b, off, rfl, block_lt hc0, fun i hi => ?_⟩
      have hci := hc i (by omega)
      rw [Go.WideShapes.add_plain] at hci
      have hm : zs.getD i 0 ∈ zs := by
        have hlt : i < zs.length := by omega
        simp only [List.getD, List.getElem?_eq_getElem hlt, Option.getD_some]
        exact List.getElem_mem hlt
      have hb := bounds_u8 (hw _ hm)
      exact ⟨_, hci, hb.1, hb.2⟩
/-- The cursor as a draw makes it. -/
theorem cur_new (w : World) (cv : Value) (t : TypeId) : CurAt (w.alloc (.cells #[cv, .int .i64 0, .int .u64 0] t)) w.heap.size cv ((0 : Nat) : Int) 0 := by
  refine ⟨?_, ?_, ?_, ?_, ?_⟩
  · rw [World.cell?_alloc_at _ _ _ _ rfl]; rfl
  · rw [World.cell?_alloc_at _ _ _ _ rfl]; rfl
  · rw [World.cell?_alloc_at _ _ _ _ rfl]; rfl
  · exact World.frozen?_alloc_at _ _ _ _ rfl
  · exact World.frozen?_alloc_at _ _ _ _ rfl
/-- Whatever goes on in the cursor's new block and beyond leaves what was there. -/
theorem lo_only {w w' : World} {o : Obj} (h : Only w.heap.size (w.alloc o) w') : Lo w w' :=
  Below.trans (lo_alloc w o) (h.below (by simp))
theorem code_new {w : World} {a : Option Addr} {len : Nat} {o : Obj} (h : CodeAt w w.heap.size a len) : CodeAt (w.alloc o) w.heap.size a len := h.on (lo_alloc w o) (Nat.le_refl _)
theorem CodeAt.only {w w' : World} {C : Nat} {a : Option Addr} {len : Nat} (h : CodeAt w C a len) (k : Only C w w') (hC : C ≤ w.heap.size) : CodeAt w' C a len := h.on (k.below hC) (Nat.le_refl _)
theorem CodeAt.lo {w w' : World} {B : Nat} {a : Option Addr} {len : Nat} (h : CodeAt w B a len) (k : Lo w w') (hB : B ≤ w.heap.size) : CodeAt w' B a len := h.on k hB
theorem curC {w : World} {C : Nat} {cv : Value} {p seed : Int} (h : CurAt w C cv p seed) : C < w.heap.size := block_lt (a := ⟨C, 0, none⟩) h.code
theorem lit_cells (w : World) (cs : Array Value) (t : TypeId) (j : Nat) : (w.alloc (.cells cs t)).cell? ⟨w.heap.size, j, none⟩ = cs[j]? := by
  rw [World.cell?_alloc_at _ _ _ _ rfl]
/-- A text of zeros. -/
def zerosB (n : Nat) : ByteArray := ⟨(List.replicate n 0).toArray⟩
theorem zerosB_size (n : Nat) : (zerosB n).size = n := by show (List.replicate n (0 : UInt8)).length = n; simp
theorem infoByte : (Try.prog.info? 5).map (fun i => (i.zero, i.size, i.bytes)) = some (some (.int .u8 0), 1, 1) := by kernel_rfl
theorem make_bytes (n : Nat) (hn : n ≤ 1000000) (u : World) :
    (Instr.makeSlice 63 (.int .i64 (n : Int)) (.int .i64 (n : Int))).run Try.prog u = .ok (.slice (some ⟨u.heap.size, 0, none⟩) n n) (u.alloc (.cells (madeCells #[.int .u8 0] n) 5)) := by
  obtain ⟨i0, hi, hz0, hz1, hz2⟩ := info_parts infoByte
  have h := run_make (P := Try.prog) u 63 5 i0 (.int .u8 0) Try.underlying63 hi hz0 .i64 .i64 (n : Int) (n : Int) (by omega) (Int.le_refl _) (by rw [hz2]; omega) (by omega)
  simpa [hz1, Value.cells] using h
theorem back_zeros (n : Nat) (u : World) :
    (convert 63 9 (.slice (some ⟨u.heap.size, 0, none⟩) n n)).run Try.prog (u.alloc (.cells (madeCells #[.int .u8 0] n) 5)) = .ok (.string (zerosB n)) (u.alloc (.cells (madeCells #[.int .u8 0] n) 5)) := by
  have h := run_convert_bytes_back (P := Try.prog) (u.alloc (.cells (madeCells #[.int .u8 0] n) 5)) 63 9 5 ⟨u.heap.size, 0, none⟩ n (List.replicate n 0) Try.underlying63 Try.underlying5 Try.underlying9 (fun j hj => by
    simp only [List.length_replicate] at hj
    rw [Go.WideShapes.add_plain, Nat.zero_add, lit_cells, ← Array.getElem?_toList, toList_madeCells_one]
    simp [hj])
  simpa [zerosB] using h
end Go.Proofs.Ytpklccpkgefniaa
