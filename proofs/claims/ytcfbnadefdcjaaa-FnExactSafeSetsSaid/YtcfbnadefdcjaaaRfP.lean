/- Plain facts on rafts: sets told by the digits of a number, reserves, decks, ways. No program stands here. -/
import Derived.Test.YtcfbnadefdcjaaaGp
import Derived.Test.YtcfbnadefdcjaaaRfC
import Derived.Test.YtcfbnadefdcjaaaImpl4
namespace Go.Proofs.Ytcfbnadefdcjaaa
/-- A set of n items. -/
noncomputable def setB (n : Nat) (xs : List Int) : Bool := propB (∀ i, i < xs.length → (0 ≤ xs.getD i 0 ∧ xs.getD i 0 < n) ∧ (0 < i → xs.getD (i - 1) 0 < xs.getD i 0))
theorem setB_iff (n : Nat) (xs : List Int) : setB n xs = true ↔ ∀ i, i < xs.length → (0 ≤ xs.getD i 0 ∧ xs.getD i 0 < n) ∧ (0 < i → xs.getD (i - 1) 0 < xs.getD i 0) := propB_iff _
theorem nx_take (xs : List Int) (k : Nat) (h : k < xs.length) : nxF (xs.take (k + 1)) = xs.getD k 0 + 1 := by
  unfold nxF
  rw [List.length_take, Nat.min_eq_left h, if_neg (by omega), Nat.succ_sub_one]
  simp [List.getD]
theorem set_lev {n : Nat} {xs : List Int} (h : setB n xs = true) : ∀ k, k ≤ xs.length → xs.take k ∈ levF n k := by
  have h1 := (setB_iff n xs).1 h
  intro k
  induction k with
  | zero => intro _; simp [levF]
  | succ k ih =>
    intro hk
    have a := ih (by omega)
    have b := h1 k (by omega)
    rw [levF, List.mem_flatMap]
    refine ⟨_, a, ?_⟩
    have e : xs.take (k + 1) = xs.take k ++ [xs.getD k 0] := by
      rw [List.take_add_one, List.getElem?_eq_getElem (by omega)]
      simp [List.getD, List.getElem?_eq_getElem (show k < xs.length by omega)]
    have hz : 0 ≤ nxF (xs.take k) ∧ nxF (xs.take k) ≤ xs.getD k 0 := by
      cases k with
      | zero => simp [nxF]; exact b.1.1
      | succ k => rw [nx_take xs k (by omega)]; have b1 := (h1 k (by omega)).1; have b2 := b.2 (by omega); rw [Nat.succ_sub_one] at b2; exact ⟨by omega, by omega⟩
    unfold kidsF
    rw [List.mem_map]
    refine ⟨(xs.getD k 0 - nxF (xs.take k)).toNat, List.mem_range.2 (by omega), ?_⟩
    rw [e]
    congr 2
    omega
theorem lev_every {n m : Nat} {xs : List Int} (h : xs ∈ levF n m) (hm : m ≤ n) : xs ∈ everyF n := by
  obtain ⟨t, ht⟩ := upto_pre n (m + 1) (n - m)
  rw [show m + 1 + (n - m) = n + 1 by omega] at ht
  unfold everyF
  rw [← ht]
  refine List.mem_append_left _ ?_
  rw [uptoF]
  exact List.mem_append_right _ h
theorem set_every {n : Nat} {xs : List Int} (h : setB n xs = true) : xs ∈ everyF n ∧ xs.length ≤ n := by
  have h1 := set_lev h xs.length (Nat.le_refl _)
  rw [List.take_length] at h1
  have := lev_short2 h1
  exact ⟨lev_every h1 this, this⟩
theorem set_code {n : Nat} (hn : n ≤ 8) {xs : List Int} (h : setB n xs = true) : bitsF n (codeF xs) = xs ∧ codeF xs < 2 ^ n := code_bits hn (set_every h).1
theorem bits_succ (n c : Nat) : bitsF (n + 1) c = bitsF n c ++ (if c.testBit n = true then [(n : Int)] else []) := by
  unfold bitsF
  rw [List.range_succ, List.filter_append, List.map_append]
  congr 1
  by_cases h : c.testBit n = true <;> simp [h]
theorem bits_in (n c : Nat) : ∀ x ∈ bitsF n c, 0 ≤ x ∧ x < n := by
  intro x hx
  unfold bitsF at hx
  rw [List.mem_map] at hx
  obtain ⟨i, hi, rfl⟩ := hx
  rw [List.mem_filter, List.mem_range] at hi
  omega
theorem bits_len (n c : Nat) : (bitsF n c).length ≤ n := by
  unfold bitsF
  rw [List.length_map]
  exact Nat.le_trans (List.length_filter_le _ _) (by simp)
theorem code_take (xs : List Int) (k : Nat) (h : k < xs.length) : codeF (xs.take (k + 1)) = codeF (xs.take k) + 2 ^ (xs.getD k 0).toNat := by
  unfold codeF
  rw [List.take_add_one, List.getElem?_eq_getElem h, List.map_append, List.sum_append]
  simp [List.getD, List.getElem?_eq_getElem h]
/-- Loads at some places, by the digits of a number. -/
def onL (row : List (Int × Int)) (c : Nat) : List (Int × Int) := pickL row (bitsF row.length c)
/-- Both reserves of what is on a raft. -/
def rsA (a b o : Int) (zs : List (Int × Int)) : Int := o * (b - a) + 2 * momF a zs
def rsB (a b o : Int) (zs : List (Int × Int)) : Int := o * (b - a) - 2 * momF b zs
def safeF (a b o : Int) (zs : List (Int × Int)) : Bool := decide (0 ≤ rsA a b o zs) && decide (0 ≤ rsB a b o zs)
def raftB (a b o : Int) : Bool := baseB a b && (decide (1 ≤ o) && decide (o ≤ 99))
def cargoB (a b o : Int) (row : List (Int × Int)) : Bool := raftB a b o && (decide (row.length ≤ 8) && row.all loadB)
theorem baseB_ok {a b : Int} (h : baseB a b = true) : (0 ≤ a ∧ a ≤ 60) ∧ (0 ≤ b ∧ b ≤ 60) ∧ a ≤ b := by simpa [baseB, and_assoc] using h
theorem raftB_iff (a b o : Int) : raftB a b o = true ↔ baseB a b = true ∧ 1 ≤ o ∧ o ≤ 99 := by simp [raftB]
theorem cargoB_iff (a b o : Int) (row : List (Int × Int)) : cargoB a b o row = true ↔ raftB a b o = true ∧ row.length ≤ 8 ∧ RowF row := by
  unfold cargoB
  rw [rowF_iff]
  rw [Bool.and_eq_true, Bool.and_eq_true, decide_eq_true_eq, List.all_eq_true]
  constructor
  · rintro ⟨h0, h, h1⟩; exact ⟨h0, h, by omega, h1⟩
  · rintro ⟨h0, h, _, h1⟩; exact ⟨h0, h, h1⟩
theorem mom_abs (p : Int) (hp : 0 ≤ p ∧ p ≤ 60) (zs : List (Int × Int)) (h : ∀ x ∈ zs, (0 ≤ x.1 ∧ x.1 ≤ 60) ∧ 0 ≤ x.2 ∧ x.2 ≤ 99) : -(5940 * (zs.length : Int)) ≤ momF p zs ∧ momF p zs ≤ 5940 * zs.length := by
  induction zs with
  | nil => simp [momF]
  | cons x l ih =>
    have h1 := h x (by simp)
    have h2 := ih (fun y hy => h y (by simp [hy]))
    simp only [momF, List.length_cons]
    have h3 : -5940 ≤ x.2 * (x.1 - p) ∧ x.2 * (x.1 - p) ≤ 5940 := by
      have e1 : x.2 * (x.1 - p) ≤ 99 * 60 := Int.le_trans (Int.mul_le_mul_of_nonneg_left (show x.1 - p ≤ 60 by omega) h1.2.1) (Int.mul_le_mul_of_nonneg_right h1.2.2 (by decide))
      have e2 : x.2 * (p - x.1) ≤ 99 * 60 := Int.le_trans (Int.mul_le_mul_of_nonneg_left (show p - x.1 ≤ 60 by omega) h1.2.1) (Int.mul_le_mul_of_nonneg_right h1.2.2 (by decide))
      have e3 : x.2 * (x.1 - p) = -(x.2 * (p - x.1)) := by rw [← Int.mul_neg]; congr 1; omega
      omega
    omega
/-- Without an item at a place there is no load. -/
theorem mom_filter (p : Int) (d : List (Int × Int)) : momF p (d.filter (fun x => !(x == (0, 0)))) = momF p d := by
  induction d with
  | nil => rfl
  | cons x l ih =>
    rw [List.filter_cons]
    by_cases h : x = (0, 0)
    · subst h; simp [momF, ih]
    · have : (!(x == (0, 0))) = true := by simp [h]
      rw [if_pos this, momF, momF, ih]
end Go.Proofs.Ytcfbnadefdcjaaa
