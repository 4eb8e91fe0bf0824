/- Plain facts on the search for the fewest stages. No program stands here. -/
import Derived.Test.YtgjchkcjlmklbaaChP
import Derived.Test.YtgjchkcjlmklbaaAsc
namespace Go.Proofs.Ytgjchkcjlmklbaa
/-- The stages at some places. -/
def pickF (kit : List StageV) (xs : List Int) : List StageV := xs.map (fun x => kit.getD x.toNat stZ)
/-- Whether a gain will do. -/
def doesB (exact : Bool) (g : Int × Int) (n : Int) : Bool := decide (g.1 = n * g.2) || (!exact && decide (n * g.2 < g.1))
def hitB (exact : Bool) (kit : List StageV) (n : Int) (xs : List Int) : Bool := decide (xs.length ≤ 5) && doesB exact (chF (pickF kit xs)) n
def kitB (kit : List StageV) (n : Int) : Bool := allB kit && decide (kit.length ≤ 8) && (decide (1 ≤ n) && decide (n ≤ 1000000))
theorem kitB_iff (kit : List StageV) (n : Int) : kitB kit n = true ↔ (allB kit = true ∧ kit.length ≤ 8) ∧ 1 ≤ n ∧ n ≤ 1000000 := by unfold kitB; simp
def foundF (exact : Bool) (kit : List StageV) (n : Int) : Option (List Int) := if kitB kit n = true then (everyF kit.length).find? (hitB exact kit n) else none
theorem pick_all {kit : List StageV} (h : allB kit = true) {m : Nat} {xs : List Int} (hx : xs ∈ levF kit.length m) : allB (pickF kit xs) = true := by
  rw [allB_iff]
  intro s hs
  unfold pickF at hs
  rw [List.mem_map] at hs
  obtain ⟨x, hx', rfl⟩ := hs
  have := lev_in _ _ xs hx x hx'
  exact allB_at h (by omega)
theorem pick_len (kit : List StageV) (xs : List Int) : (pickF kit xs).length = xs.length := by simp [pickF]
/-- The first hit of a list that is reckoned place by place. -/
theorem upto_split (n : Nat) : ∀ a b, a < b → ∃ post, uptoF n b = uptoF n a ++ (levF n a ++ post) := by
  intro a b
  induction b with
  | zero => intro h; omega
  | succ b ih =>
    intro h
    by_cases e : a = b
    · subst e; exact ⟨[], by rw [uptoF, List.append_nil]⟩
    · obtain ⟨p, hp⟩ := ih (by omega)
      exact ⟨p ++ levF n b, by rw [uptoF, hp]; simp⟩
/-- The model goes through the levels. -/
theorem found_lev (exact : Bool) (kit : List StageV) (n : Int) (hk : kitB kit n = true) (m i : Nat) (hm : m ≤ kit.length) (hi : i < (levF kit.length m).length)
    (hp : hitB exact kit n ((levF kit.length m).getD i []) = true) (hn : ∀ j, j < i → hitB exact kit n ((levF kit.length m).getD j []) = false) (hu : ∀ xs ∈ uptoF kit.length m, hitB exact kit n xs = false) :
    foundF exact kit n = some ((levF kit.length m).getD i []) := by
  unfold foundF
  rw [if_pos hk]
  obtain ⟨post, hq⟩ := upto_split kit.length m (kit.length + 1) (by omega)
  unfold everyF
  rw [hq, List.find?_append, List.find?_append, find_at _ _ [] i hi hp hn, List.find?_eq_none.2 (fun x hx => by rw [hu x hx]; simp)]
  rfl
theorem found_none (exact : Bool) (kit : List StageV) (n : Int) (hk : kitB kit n = true) (m : Nat) (hm : m = kit.length + 1 ∨ m = 6 ∧ 6 ≤ kit.length) (hu : ∀ xs ∈ uptoF kit.length m, hitB exact kit n xs = false) :
    foundF exact kit n = none := by
  unfold foundF
  rw [if_pos hk]
  rw [List.find?_eq_none]
  intro xs hx
  rcases hm with rfl | ⟨rfl, h6⟩
  · rw [hu xs hx]; simp
  · obtain ⟨k, hk', hl⟩ := upto_mem hx
    by_cases h : k < 6
    · obtain ⟨post, hq⟩ := upto_split kit.length k 6 h
      rw [hu xs (by rw [hq]; simp [hl])]
      simp
    · have := lev_len _ _ xs hl
      unfold hitB
      rw [show decide (xs.length ≤ 5) = false by simp; omega]
      simp
/-- The program goes through its queue. -/
theorem found_que (exact : Bool) (kit : List StageV) (n : Int) (hk : kitB kit n = true) (i : Nat) (hi : i < (everyF kit.length).length)
    (hp : hitB exact kit n ((everyF kit.length).getD i []) = true) (hn : ∀ j, j < i → hitB exact kit n ((everyF kit.length).getD j []) = false) : foundF exact kit n = some ((everyF kit.length).getD i []) := by
  unfold foundF
  rw [if_pos hk]
  exact find_at _ _ _ i hi hp hn
theorem found_que_no (exact : Bool) (kit : List StageV) (n : Int) (hk : kitB kit n = true) (hn : ∀ j, j < (everyF kit.length).length → hitB exact kit n ((everyF kit.length).getD j []) = false) : foundF exact kit n = none := by
  unfold foundF
  rw [if_pos hk]
  exact find_no _ _ _ hn
end Go.Proofs.Ytgjchkcjlmklbaa
