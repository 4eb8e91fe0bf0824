/- A row of cells of its own is appended to, with what may be empty; the model's l8Put: its search. -/
import Derived.Test.YtmcjichpeijiaaaBo8
import Derived.Test.YtmcjichpeijiaaaInv
import Derived.Deep.AppendLies
import Derived.Laws.OwnMore
namespace Go.Proofs.Ytmcjichpeijiaaa
open Go.RowKit Go.Maps
theorem run_append_at {P : Program} (w : World) (base : Nat) (t ty e : TypeId) (i : TypeInfo) (z : Value) (size bytes : Nat) (ht : P.underlying t = some (.slice e)) (hi : P.info? e = some i) (hz : i.zero = some z)
    (hsize : i.size = size) (hby : i.bytes = bytes) (hzs : z.cells.size = size) (hsz : 0 < size)
    (v : Value) (n : Nat) (xs : List Value) (hown : w.ownsRow base e size v n xs)
    (a : Addr) (m c : Nat) (news : List Value) (hl : news.length = m * size) (hnews : ∀ j u, news[j]? = some u → w.cell? (a.add j) = some u) (h1 : ∀ u ∈ news, u.oneCell' = true)
    (h63 : n + m ≤ maxLen) (hbytes : (n + m) * bytes ≤ 140737488355328) (hbase : base ≤ w.heap.size) :
    ∃ v' w', (Builtin.append_ #[t, t] ty #[v, .slice (some a) m c]).run P w = .ok v' w' ∧ w'.ownsRow base e size v' (n + m) (xs ++ news) ∧ w.grownBy w' v.ownBlock ∧ (v'.ownBlock = v.ownBlock ∨ v'.ownBlock = some w.heap.size) := by
  by_cases hm : m = 0
  · subst hm
    have hn : news = [] := List.eq_nil_of_length_eq_zero (by simpa using hl)
    subst hn
    subst hsize
    rcases hown.2 with ⟨rfl, rfl⟩ | ⟨g, cap, cur, rfl, hbg, hg, hnc, hcm, hcs, htake⟩
    · have hx : xs = [] := List.eq_nil_of_length_eq_zero (by simpa using hown.1)
      subst hx
      refine ⟨.slice none 0 0, w, ?_, World.ownsRow_nil w base e i.size, ⟨rfl, rfl, rfl, Nat.le_refl _, fun _ _ _ => rfl⟩, .inl rfl⟩
      simp [Builtin.append_, run_underlying ht, sizeOf, typeInfo, hi, Builtin.lenOf, Builtin.firstCells, loadCells, loadCellsFrom]
    · have hfit : n * i.size + ([] : List Value).length ≤ cur.size := by rw [hcs]; simpa using Nat.mul_le_mul_right _ hnc
      have hr := run_append_room (P := P) w t ty e i ht hi g n cap cur hg a 0 c [] hl hnews h1 hnc hfit
      refine ⟨_, _, hr, ⟨by rw [List.append_nil]; exact hown.1, .inr ⟨g, cap, _, rfl, hbg, setRow_heap w g cur _ e _ hg, hnc, hcm, ?_, ?_⟩⟩, ⟨rfl, rfl, rfl, by simp, fun k _ hk => setRow_other w g k _ (fun e => hk (by simp [Value.ownBlock, e]))⟩, .inl rfl⟩
      · simp only [List.size_toArray, List.length_append, List.length_take, List.length_drop, Array.length_toList, List.length_nil]
        simp only [List.length_nil, Nat.add_zero] at hfit
        omega
      · have hlen : (xs ++ ([] : List Value)).length = (n + 0) * i.size := by simpa using hown.1
        rw [htake, ← hlen]
        exact List.take_left
  · obtain ⟨g, cap, w', hr, h2, h3, h4, h5⟩ := run_append_lies (P := P) w t ty base e i z size bytes ht hi hz hsize hby hzs hsz v n xs hown a m c news hl hnews h1 (by omega) h63 hbytes hbase w.heap.size rfl
    refine ⟨_, w', hr, h2, h3, ?_⟩
    rcases h4 with h4 | h4
    · exact .inl (by rw [h4]; rfl)
    · exact .inr (by rw [h4]; rfl)
theorem row_cells {w : World} {g off m : Nat} {ns : List (Int × Int)} (hl : ns.length = m) (hc : ∀ j, j < m → w.cell? ⟨g, off + j * 2, none⟩ = some (.int .i64 (ns.getD j (0, 0)).1) ∧ w.cell? ⟨g, off + j * 2 + 1, none⟩ = some (.int .i64 (ns.getD j (0, 0)).2)) :
    ∀ j u, (cellsF ns)[j]? = some u → w.cell? ((⟨g, off, none⟩ : Addr).add j) = some u := loadRow_news (by rw [hl]; exact hc)
/-- A row of cells of its own is appended to, in a region that draws. -/
theorem step_app_c {ops : Array Oper} {o : Oper} {a : Act} {w : World} {K : Act → World → Prop} {Q : Exit → Act → World → Prop} {E : Prop} (hgd : o.guard = none) (s x : Operand)
    (ho : o.op = .call { callee := .builtin .append, args := #[s, x], argTypes := #[22, 22] }) (B : Nat) (v : Value) (xs : List (Int × Int)) (hs : a.eval s = v) (hown : OwnC w B v xs)
    (g o2 m c : Nat) (ns : List (Int × Int)) (hx : a.eval x = .slice (some ⟨g, o2, none⟩) m c) (hl : ns.length = m) (hc : ∀ j, j < m → w.cell? ⟨g, o2 + j * 2, none⟩ = some (.int .i64 (ns.getD j (0, 0)).1) ∧ w.cell? ⟨g, o2 + j * 2 + 1, none⟩ = some (.int .i64 (ns.getD j (0, 0)).2))
    (hsm : xs.length + m ≤ 2000000) (hb : B ≤ w.heap.size)
    (h : ∀ v' w', OwnC w' B v' (xs ++ ns) → w.grownBy w' v.ownBlock → (v'.ownBlock = v.ownBlock ∨ v'.ownBlock = some w.heap.size) → K (a.put o.dst v') w') :
    if Region.wanted o (yielded ops a.tmps) = true then Oper.wp Try.prog o a w K Q else E := by
  have hw : Region.wanted o (yielded ops a.tmps) = true := by simp [Region.wanted, hgd]
  rw [if_pos hw]
  obtain ⟨i0, hi, hz0, hz1, hz2⟩ := info_parts infoA2
  obtain ⟨v', w', hr, h2, h3, h4⟩ := run_append_at (P := Try.prog) w B 22 o.type 29 i0 (.agg #[.int .i64 0, .int .i64 0]) 2 16 Try.underlying22 hi hz0 hz1 hz2 rfl (by decide) v xs.length (cellsF xs) hown ⟨g, o2, none⟩ m c (cellsF ns) (by rw [cellsF_len, hl]) (row_cells hl hc) (cellsF_one ns) (by unfold maxLen; omega) (by omega) hb
  have hown' : OwnC w' B v' (xs ++ ns) := ownC_app h2 rfl hl
  unfold Oper.wp
  simp [execOp, ho, resolve, invoke, builtin, hs, hx, hr, Result.andThen]
  exact h v' w' hown' h3 h4
theorem putL_at {xs : List (Int × Int)} {c : Int × Int} {k : Nat} (h1 : ∀ j, j < k → bfC (xs.getD j (0, 0)) c = true) (h2 : k = xs.length ∨ bfC (xs.getD k (0, 0)) c = false) : putL xs c = xs.take k ++ c :: xs.drop k := by
  unfold putL
  have e : xs.takeWhile (fun y => bfC y c) = xs.take k ∧ xs.dropWhile (fun y => bfC y c) = xs.drop k := by
    induction k generalizing xs with
    | zero =>
      cases xs with
      | nil => simp
      | cons x l =>
        have : bfC x c = false := by simpa using h2
        simp [this]
    | succ k ih =>
      cases xs with
      | nil => simp
      | cons x l =>
        have hx : bfC x c = true := by simpa using h1 0 (by omega)
        have := ih (xs := l) (fun j hj => by simpa using h1 (j + 1) (by omega)) (by simpa using h2)
        simp [hx, this.1, this.2]
  rw [e.1, e.2]
end Go.Proofs.Ytmcjichpeijiaaa
