/- Plain facts: what is split is joined again; the order of texts is strict. No program stands here. -/
import Derived.Test.YtlmnkkodfnlbmaaJoinPlain
import Derived.Test.YtlmnkkodfnlbmaaSplitPlain
namespace Go.Proofs.Ytlmnkkodfnlbmaa
theorem less_asym (a : List UInt8) : ∀ b, Op.bytesLess a b = true → Op.bytesLess b a = false := by
  induction a with
  | nil => intro b _; cases b <;> rfl
  | cons c a ih =>
    intro b h
    cases b with
    | nil => simp [Op.bytesLess] at h
    | cons d b =>
      simp only [Op.bytesLess, Bool.or_eq_true, Bool.and_eq_true, decide_eq_true_eq, beq_iff_eq] at h
      simp only [Op.bytesLess, Bool.or_eq_false_iff, Bool.and_eq_false_iff, decide_eq_false_iff_not, beq_eq_false_iff_ne]
      rcases h with h | ⟨rfl, h⟩
      · rw [UInt8.lt_iff_toNat_lt] at *
        exact ⟨by omega, .inl (fun e => by rw [e] at h; omega)⟩
      · rw [UInt8.lt_iff_toNat_lt]
        exact ⟨by omega, .inr (ih b h)⟩
theorem sp_free (b : Int) (l : List UInt8) : ∀ cur, has b cur = false → ∀ x ∈ sp b cur l, has b x = false := by
  induction l with
  | nil => intro cur h x hx; simp [sp] at hx; subst hx; exact h
  | cons c l ih =>
    intro cur h x hx
    rw [sp] at hx
    by_cases hc : (c.toNat : Int) = b
    · rw [if_pos hc] at hx
      rcases List.mem_cons.1 hx with rfl | hx
      · exact h
      · exact ih [] rfl x hx
    · rw [if_neg hc] at hx
      refine ih (cur ++ [c]) ?_ x hx
      rw [has_snoc, h]
      simpa using hc
theorem sp_join (c0 : UInt8) (l : List UInt8) : ∀ cur, Lib.join (sp (c0.toNat : Int) cur l) [c0] = cur ++ l := by
  induction l with
  | nil => intro cur; simp [sp, Lib.join_one]
  | cons c l ih =>
    intro cur
    rw [sp]
    by_cases hc : (c.toNat : Int) = (c0.toNat : Int)
    · rw [if_pos hc]
      have e : c = c0 := UInt8.toNat_inj.1 (by omega)
      subst e
      have h := ih []
      have hne := sp_ne (c.toNat : Int) l []
      cases hs : sp (c.toNat : Int) [] l with
      | nil => exact absurd hs hne
      | cons x r =>
        rw [hs] at h
        rw [Lib.join_cons] at h ⊢
        simp only [List.nil_append] at h
        rw [← h]
        simp [Lib.joinTail]
    · rw [if_neg hc, ih]; simp
end Go.Proofs.Ytlmnkkodfnlbmaa
