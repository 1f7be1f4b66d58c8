/-
  Plain mathematics: a name that may be has at most twenty-four bytes. No program.
-/
import Derived.Test.YtbckpcofcgapdaaLabelText
namespace Go.Proofs.Ytbckpcofcgapdaa.Wire
open Go.Lib Go.Proofs.Ytbckpcofcgapdaa.Label
set_option linter.unusedVariables false
theorem kind_form (x : Nat) (h : kindN x ≠ 4) : x < 128 ∨ (945 ≤ x ∧ x ≤ 969) := by
  unfold kindN at h
  split at h
  · omega
  · split at h
    · omega
    · split at h
      · omega
      · split at h <;> omega
set_option maxHeartbeats 4000000 in
theorem decN_inv (n b0 b1 b2 b3 x k : Nat) (h1 : b1 < 256) (hx : kindN x ≠ 4) (hd : decodeN n b0 b1 b2 b3 = (x, k)) (h0 : b0 < 256) : (x < 128 ∧ b0 = x ∧ k = 1) ∨ (945 ≤ x ∧ x ≤ 969 ∧ b0 = 192 + x / 64 ∧ b1 = 128 + x % 64 ∧ k = 2 ∧ 2 ≤ n) := by
  have hf := kind_form x hx
  have e1 := congrArg Prod.fst hd
  have e2 := congrArg Prod.snd hd
  clear hd hx
  unfold decodeN at e1 e2
  split at e1
  · rename_i g
    rw [if_pos g] at e2
    simp only at e1 e2
    omega
  · rename_i g
    rw [if_neg g] at e2
    split at e1
    · rename_i g2
      rw [if_pos g2] at e2
      split at e1
      · rename_i g3
        rw [if_pos g3] at e2
        simp only at e1 e2
        omega
      · simp only at e1
        omega
    · split at e1
      · split at e1 <;> (simp only at e1; omega)
      · split at e1
        · split at e1 <;> (simp only at e1; omega)
        · simp only at e1; omega
theorem okN_four (i x : Nat) (h : kindN x = 4) : okN i x = false := by simp [okN, h]
theorem allOk_kinds : ∀ (l : List Nat) (i : Nat), allOk i l = true → ∀ x ∈ l, kindN x ≠ 4
  | [], _, _, _, h => by simp at h
  | y :: l, i, h, x, hx => by
    simp only [allOk, Bool.and_eq_true] at h
    rcases List.mem_cons.1 hx with rfl | hx
    · intro hk
      rw [okN_four i x hk] at h
      exact Bool.noConfusion h.1
    · exact allOk_kinds l (i + 1) h.2 x hx
theorem bytes_two (s : ByteArray) (pos : Nat) (hp : pos ≤ s.size) (h : ∀ x ∈ runes s pos, kindN x ≠ 4) : s.size - pos ≤ 2 * (runes s pos).length := by
  induction hk : s.size - pos using Nat.strongRecOn generalizing pos with
  | _ k ih =>
    by_cases hlt : pos < s.size
    · have hw := wd_pos s pos hlt
      have hl := wd_le s pos hlt
      rw [runes_step s pos hlt] at h ⊢
      have hx := h (rn s pos) (by simp)
      have hd : decodeN (s.size - pos) (byt s pos) (byt s (pos + 1)) (byt s (pos + 2)) (byt s (pos + 3)) = (rn s pos, wd s pos) := by unfold rn wd; rw [← dec_eq]
      have hin := decN_inv _ _ _ _ _ _ _ (byt_lt s (pos + 1)) hx hd (byt_lt s pos)
      have hi := ih (s.size - (pos + wd s pos)) (by omega) (pos + wd s pos) hl (fun y hy => h y (by simp [hy])) rfl
      rw [List.length_cons]
      rcases hin with ⟨g1, g2, g3⟩ | ⟨g1, g2, g3, g4, g5, g6⟩ <;> omega
    · omega
/-- A name that may be has at most twenty-four bytes. -/
theorem name_24 (s : ByteArray) (h : fitL (runes s 0) = true) : s.size ≤ 24 := by
  simp only [fitL, Bool.and_eq_true, decide_eq_true_eq] at h
  have := bytes_two s 0 (by omega) (allOk_kinds _ 0 h.1)
  omega
end Go.Proofs.Ytbckpcofcgapdaa.Wire
