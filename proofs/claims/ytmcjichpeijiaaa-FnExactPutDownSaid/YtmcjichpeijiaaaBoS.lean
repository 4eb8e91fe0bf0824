/- Plain facts on searches over cells that hang together. No program stands here. -/
import Derived.Test.YtmcjichpeijiaaaBoR
namespace Go.Proofs.Ytmcjichpeijiaaa
/-- How far the model's search over places has come: the places found, n of them done, and of the next one's neighbors those below i. -/
structure BfsI (xs : List (Int × Int)) (L : List Nat) (n i : Nat) : Prop where
  lt : ∀ j ∈ L, j < xs.length
  nd : L.Nodup
  zero : 0 ∈ L
  path : ∀ j ∈ L, PathC xs (xs.getD 0 (0, 0)) (xs.getD j (0, 0))
  done : ∀ m, m < n → ∀ k, k < xs.length → nearB (xs.getD k (0, 0)) (xs.getD (L.getD m 0) (0, 0)) = true → k ∈ L
  part : ∀ k, k < i → nearB (xs.getD k (0, 0)) (xs.getD (L.getD n 0) (0, 0)) = true → k ∈ L
theorem nat_mem {L : List Nat} {m : Nat} (h : m < L.length) : L.getD m 0 ∈ L := by
  simp only [List.getD, List.getElem?_eq_getElem h, Option.getD_some]; exact List.getElem_mem h
theorem nat_app {L : List Nat} {m i : Nat} (h : m < L.length) : (L ++ [i]).getD m 0 = L.getD m 0 := by
  simp only [List.getD]; rw [List.getElem?_append_left h]
theorem BfsI.start {xs : List (Int × Int)} (h : 0 < xs.length) : BfsI xs [0] 0 0 :=
  ⟨fun j hj => by rw [List.mem_singleton] at hj; omega, by simp, by simp, fun j hj => by rw [List.mem_singleton] at hj; subst hj; exact .refl, fun m hm => by omega, fun k hk => by omega⟩
theorem BfsI.skip {xs : List (Int × Int)} {L : List Nat} {n i : Nat} (h : BfsI xs L n i) (hs : nearB (xs.getD i (0, 0)) (xs.getD (L.getD n 0) (0, 0)) = true → i ∈ L) : BfsI xs L n (i + 1) :=
  ⟨h.lt, h.nd, h.zero, h.path, h.done, fun k hk hn => by
    by_cases e : k = i
    · subst e; exact hs hn
    · exact h.part k (by omega) hn⟩
theorem BfsI.add {xs : List (Int × Int)} {L : List Nat} {n i : Nat} (h : BfsI xs L n i) (hi : i < xs.length) (hn : n < L.length) (hm : i ∉ L) (hs : nearB (xs.getD i (0, 0)) (xs.getD (L.getD n 0) (0, 0)) = true) : BfsI xs (L ++ [i]) n (i + 1) := by
  refine ⟨fun j hj => ?_, ?_, by simp [h.zero], fun j hj => ?_, fun m hmn k hk hh => ?_, fun k hk hh => ?_⟩
  · rcases List.mem_append.1 hj with hj | hj
    · exact h.lt j hj
    · rw [List.mem_singleton] at hj; omega
  · rw [List.nodup_append]
    refine ⟨h.nd, by simp, fun x hx y hy e => ?_⟩
    rw [List.mem_singleton] at hy
    subst hy; subst e; exact hm hx
  · rcases List.mem_append.1 hj with hj | hj
    · exact h.path j hj
    · rw [List.mem_singleton] at hj; subst hj
      exact .step (h.path _ (nat_mem hn)) (mem_getD hi) (nearB_symm hs)
  · rw [nat_app (by omega)] at hh
    exact List.mem_append_left _ (h.done m hmn k hk hh)
  · rw [nat_app hn] at hh
    by_cases e : k = i
    · subst e; simp
    · exact List.mem_append_left _ (h.part k (by omega) hh)
theorem BfsI.next {xs : List (Int × Int)} {L : List Nat} {n : Nat} (h : BfsI xs L n xs.length) : BfsI xs L (n + 1) 0 :=
  ⟨h.lt, h.nd, h.zero, h.path, fun m hm k hk hh => by
    by_cases e : m = n
    · subst e; exact h.part k hk hh
    · exact h.done m (by omega) k hk hh, fun k hk => by omega⟩
theorem BfsI.len {xs : List (Int × Int)} {L : List Nat} {n i : Nat} (h : BfsI xs L n i) : L.length ≤ xs.length := by
  have := nodup_le L (List.range xs.length) h.nd (fun j hj => by rw [List.mem_range]; exact h.lt j hj)
  simpa using this
theorem getD_inj {xs : List (Int × Int)} (hx : xs.Nodup) {i j : Nat} (hi : i < xs.length) (hj : j < xs.length) (h : xs.getD i (0, 0) = xs.getD j (0, 0)) : i = j := by
  simp only [List.getD, List.getElem?_eq_getElem hi, List.getElem?_eq_getElem hj, Option.getD_some] at h
  exact (List.getElem_inj hx).1 h
theorem BfsI.finish {xs : List (Int × Int)} {L : List Nat} (h : BfsI xs L L.length 0) (h0 : 0 < xs.length) (hx : xs.Nodup) : L.length = xs.length ↔ ConnC xs := by
  have e : (L.map fun j => xs.getD j (0, 0)).length = L.length := List.length_map _
  rw [← e, reach_all (xs := xs) (rs := L.map fun j => xs.getD j (0, 0)) (a := xs.getD 0 (0, 0)) (mem_getD h0) (List.mem_map_of_mem h.zero)]
  · exact ⟨fun k => k.2, fun k => ⟨hx, k⟩⟩
  · rw [List.Nodup, List.pairwise_map]
    exact List.Pairwise.imp_of_mem (fun {i j} hi hj hne e => hne (getD_inj hx (h.lt i hi) (h.lt j hj) e)) h.nd
  · intro r hr
    obtain ⟨j, hj, rfl⟩ := List.mem_map.1 hr
    exact mem_getD (h.lt j hj)
  · intro r hr
    obtain ⟨j, hj, rfl⟩ := List.mem_map.1 hr
    exact h.path j hj
  · intro r hr d hd hn
    obtain ⟨j, hj, rfl⟩ := List.mem_map.1 hr
    obtain ⟨k, hk, rfl⟩ := getD_mem hd
    obtain ⟨m, hm, e2⟩ := List.mem_iff_getElem.1 hj
    have e3 : L.getD m 0 = j := by simp only [List.getD, List.getElem?_eq_getElem hm, Option.getD_some, e2]
    exact List.mem_map_of_mem (f := fun j => xs.getD j (0, 0)) (h.done m hm k hk (by rw [e3]; exact nearB_symm hn))
/-- How far the program's search over cells has come. -/
structure BfsM (xs R : List (Int × Int)) (n i : Nat) : Prop where
  sub : ∀ r ∈ R, r ∈ xs
  nd : R.Nodup
  head : xs.getD 0 (0, 0) ∈ R
  path : ∀ r ∈ R, PathC xs (xs.getD 0 (0, 0)) r
  done : ∀ m, m < n → ∀ d ∈ nb4 (R.getD m (0, 0)), d ∈ xs → d ∈ R
  part : ∀ j, j < i → (nb4 (R.getD n (0, 0))).getD j (0, 0) ∈ xs → (nb4 (R.getD n (0, 0))).getD j (0, 0) ∈ R
theorem cell_app {R : List (Int × Int)} {m : Nat} {c : Int × Int} (h : m < R.length) : (R ++ [c]).getD m (0, 0) = R.getD m (0, 0) := by
  simp only [List.getD]; rw [List.getElem?_append_left h]
theorem nb4_at {c : Int × Int} {j : Nat} (h : j < 4) : nearB c ((nb4 c).getD j (0, 0)) = true := by
  rw [← mem_nb4]
  exact mem_getD (by show j < 4; exact h)
theorem BfsM.start {xs : List (Int × Int)} (h : 0 < xs.length) : BfsM xs [xs.getD 0 (0, 0)] 0 0 :=
  ⟨fun r hr => by rw [List.mem_singleton] at hr; subst hr; exact mem_getD h, by simp, by simp, fun r hr => by rw [List.mem_singleton] at hr; subst hr; exact .refl, fun m hm => by omega, fun j hj => by omega⟩
theorem BfsM.skip {xs R : List (Int × Int)} {n i : Nat} (h : BfsM xs R n i) (hs : (nb4 (R.getD n (0, 0))).getD i (0, 0) ∈ xs → (nb4 (R.getD n (0, 0))).getD i (0, 0) ∈ R) : BfsM xs R n (i + 1) :=
  ⟨h.sub, h.nd, h.head, h.path, h.done, fun j hj hn => by
    by_cases e : j = i
    · subst e; exact hs hn
    · exact h.part j (by omega) hn⟩
theorem BfsM.add {xs R : List (Int × Int)} {n i : Nat} (h : BfsM xs R n i) (hi : i < 4) (hn : n < R.length) (hx : (nb4 (R.getD n (0, 0))).getD i (0, 0) ∈ xs) (hm : (nb4 (R.getD n (0, 0))).getD i (0, 0) ∉ R) : BfsM xs (R ++ [(nb4 (R.getD n (0, 0))).getD i (0, 0)]) n (i + 1) := by
  refine ⟨fun r hr => ?_, ?_, List.mem_append_left _ h.head, fun r hr => ?_, fun m hmn d hd hdx => ?_, fun j hj hjx => ?_⟩
  · rcases List.mem_append.1 hr with hr | hr
    · exact h.sub r hr
    · rw [List.mem_singleton] at hr; subst hr; exact hx
  · rw [List.nodup_append]
    refine ⟨h.nd, by simp, fun x hx y hy e => ?_⟩
    rw [List.mem_singleton] at hy
    subst hy; subst e; exact hm hx
  · rcases List.mem_append.1 hr with hr | hr
    · exact h.path r hr
    · rw [List.mem_singleton] at hr; subst hr
      exact .step (h.path _ (mem_getD hn)) hx (nb4_at hi)
  · rw [cell_app (by omega)] at hd
    exact List.mem_append_left _ (h.done m hmn d hd hdx)
  · rw [cell_app hn] at hjx ⊢
    by_cases e : j = i
    · subst e; simp
    · exact List.mem_append_left _ (h.part j (by omega) hjx)
theorem BfsM.next {xs R : List (Int × Int)} {n : Nat} (h : BfsM xs R n 4) : BfsM xs R (n + 1) 0 :=
  ⟨h.sub, h.nd, h.head, h.path, fun m hm d hd hdx => by
    by_cases e : m = n
    · subst e
      obtain ⟨j, hj, rfl⟩ := getD_mem hd
      exact h.part j hj hdx
    · exact h.done m (by omega) d hd hdx, fun k hk => by omega⟩
theorem BfsM.len {xs R : List (Int × Int)} {n i : Nat} (h : BfsM xs R n i) : R.length ≤ xs.length := nodup_le _ _ h.nd h.sub
theorem BfsM.finish {xs R : List (Int × Int)} (h : BfsM xs R R.length 0) (h0 : 0 < xs.length) : R.length = xs.length ↔ xs.Nodup ∧ ConnC xs := by
  refine reach_all (mem_getD h0) h.head h.nd h.sub h.path fun r hr d hd hn => ?_
  obtain ⟨m, hm, rfl⟩ := getD_mem hr
  exact h.done m hm d ((mem_nb4 _ _).2 hn) hd
noncomputable def connB (xs : List (Int × Int)) : Bool := propB (ConnC xs)
theorem connB_iff (xs : List (Int × Int)) : connB xs = true ↔ ConnC xs := propB_iff _
noncomputable def hangB2 (xs : List (Int × Int)) : Bool := propB (xs.Nodup ∧ ConnC xs)
theorem hangB2_iff (xs : List (Int × Int)) : hangB2 xs = true ↔ xs.Nodup ∧ ConnC xs := propB_iff _
theorem BfsI.said {xs : List (Int × Int)} {L : List Nat} (h : BfsI xs L L.length 0) (h0 : 0 < xs.length) (hx : xs.Nodup) : decide (L.length = xs.length) = connB xs := by
  have := h.finish h0 hx
  cases e : connB xs with
  | true => rw [decide_eq_true_iff]; exact this.2 ((connB_iff _).1 e)
  | false => rw [decide_eq_false_iff_not]; intro k; rw [(connB_iff _).2 (this.1 k)] at e; cases e
theorem BfsM.said {xs R : List (Int × Int)} (h : BfsM xs R R.length 0) (h0 : 0 < xs.length) : decide (R.length = xs.length) = hangB2 xs := by
  have := h.finish h0
  cases e : hangB2 xs with
  | true => rw [decide_eq_true_iff]; exact this.2 ((hangB2_iff _).1 e)
  | false => rw [decide_eq_false_iff_not]; intro k; rw [(hangB2_iff _).2 (this.1 k)] at e; cases e
end Go.Proofs.Ytmcjichpeijiaaa
