/- Plain facts on the checksum of a list of bytes: no program stands here. -/
import Derived.WalkKit
namespace Go.Proofs.Ytlmnkkodfnlbmaa
def ckStep (h : Int) (c : UInt8) : Int := (41 * h + (c.toNat : Int) + 1) % 999979
def ck (l : List UInt8) : Int := l.foldl ckStep 7
theorem ckStep_bd (h : Int) (c : UInt8) : 0 ≤ ckStep h c ∧ ckStep h c ≤ 999978 := by
  unfold ckStep; exact ⟨Int.emod_nonneg _ (by decide), by have := Int.emod_lt_of_pos (41 * h + (c.toNat : Int) + 1) (b := 999979) (by decide); omega⟩
theorem ck_snoc (l : List UInt8) (c : UInt8) : ck (l ++ [c]) = ckStep (ck l) c := by simp [ck, List.foldl_append]
theorem ck_bd (l : List UInt8) : 0 ≤ ck l ∧ ck l ≤ 999978 := by
  rcases List.eq_nil_or_concat l with rfl | ⟨a, c, rfl⟩
  · decide
  · rw [List.concat_eq_append, ck_snoc]; exact ckStep_bd _ _
theorem take_snoc (s : ByteArray) (k : Nat) (h : k < s.size) : s.data.toList.take (k + 1) = s.data.toList.take k ++ [s[k]] := by
  rw [List.take_succ_eq_append_getElem (by simpa using h)]; rfl
theorem take_all (s : ByteArray) : s.data.toList.take s.size = s.data.toList := List.take_of_length_le (by simp)
theorem ret_int {k : IntKind} {a b : Int} (h : a = b) : Ending.returned (.int k a) = .returned (.int k b) := by rw [h]
theorem byte_lt (c : UInt8) : (c.toNat : Int) ≤ 255 := by have := c.toNat_lt; omega
theorem ck_take_succ (s : ByteArray) (k : Nat) (h : k < s.size) : (41 * ck (s.data.toList.take k) + (s[k].toNat : Int) + 1) % 999979 = ck (s.data.toList.take (k + 1)) := by
  rw [take_snoc s k h, ck_snoc]; rfl
end Go.Proofs.Ytlmnkkodfnlbmaa
