/-
  How the bytes of two numbers stand, as plain mathematics. No condition.
-/
import Derived.Test.YtgioaghhfcafpaaVlqAwake
namespace Go.Proofs.Ytgioaghhfcafpaa.Vlq
set_option linter.unusedVariables false
theorem less_snoc (l m : List UInt8) (c d : UInt8) (hl : l.length = m.length) (h : Op.bytesLess l m = true ∨ l = m ∧ c.toNat < d.toNat) : Op.bytesLess (l ++ [c]) (m ++ [d]) = true := by
  induction l generalizing m with
  | nil =>
    cases m with
    | nil =>
      rcases h with h | ⟨_, h⟩
      · simp [Op.bytesLess] at h
      · simp [Op.bytesLess, UInt8.lt_iff_toNat_lt, h]
    | cons b m => simp at hl
  | cons a l ih =>
    cases m with
    | nil => simp at hl
    | cons b m =>
      simp only [List.length_cons, Nat.add_right_cancel_iff] at hl
      simp only [List.cons_append, Op.bytesLess, Bool.or_eq_true, Bool.and_eq_true, decide_eq_true_eq, beq_iff_eq] at h ⊢
      rcases h with (h | ⟨h1, h2⟩) | ⟨h1, h2⟩
      · exact .inl h
      · exact .inr ⟨h1, ih m hl (.inl h2)⟩
      · injection h1 with h3 h4
        exact .inr ⟨h3, ih m hl (.inr ⟨h4, h2⟩)⟩
def Less (l m : List UInt8) : Prop := l.length < m.length ∨ l.length = m.length ∧ Op.bytesLess l m = true
theorem Less.snoc {l m : List UInt8} (c d : UInt8) (h : Less l m) : Less (l ++ [c]) (m ++ [d]) := by
  rcases h with h | ⟨h1, h2⟩
  · left; simp; exact h
  · right; exact ⟨by simp [h1], less_snoc l m c d h1 (.inl h2)⟩
theorem hi_less (a b : Nat) (h : a < b) : Less (hi a) (hi b) := by
  induction b using Nat.strongRecOn generalizing a with
  | _ b ih =>
    rw [hi_pos b (by omega)]
    rcases Nat.eq_zero_or_pos a with h0 | h0
    · subst h0
      left
      rw [hi_zero]; simp
    · rw [hi_pos a h0]
      by_cases hq : a / 128 < b / 128
      · exact (ih (b / 128) (by omega) (a / 128) hq).snoc _ _
      · have he : a / 128 = b / 128 := by omega
        right
        rw [he]
        refine ⟨by simp, less_snoc _ _ _ _ rfl (.inr ⟨rfl, ?_⟩)⟩
        simp; omega
theorem enc_less (a b : Nat) (h : a < b) : Less (enc a) (enc b) := by
  unfold enc
  by_cases hq : a / 128 < b / 128
  · exact (hi_less (a / 128) (b / 128) hq).snoc _ _
  · have he : a / 128 = b / 128 := by omega
    right
    rw [he]
    refine ⟨by simp, less_snoc _ _ _ _ rfl (.inr ⟨rfl, ?_⟩)⟩
    simp; omega
end Go.Proofs.Ytgioaghhfcafpaa.Vlq
