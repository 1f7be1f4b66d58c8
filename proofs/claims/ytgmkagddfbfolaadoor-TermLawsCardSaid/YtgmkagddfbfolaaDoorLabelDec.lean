/-
  Plain mathematics: the document's own reading of a rune out of up to four bytes is that of a range over the text. No program.
-/
import Derived.Test.YtgmkagddfbfolaaDoorLabelText
namespace Go.Proofs.YtgmkagddfbfolaaDoor.Label
open Go.Lib
set_option linter.unusedVariables false
set_option linter.unusedSimpArgs false
def wideN (n b0 b1 b2 b3 : Nat) : Nat :=
  if b0 < 194 ∨ 244 < b0 then 0
  else if n < (if b0 < 224 then 2 else if b0 < 240 then 3 else 4) then 0
  else if b1 < 128 ∨ 191 < b1 then 0
  else if 224 ≤ b0 ∧ (b2 < 128 ∨ 191 < b2) then 0
  else if 240 ≤ b0 ∧ (b3 < 128 ∨ 191 < b3) then 0
  else if (b0 = 224 ∧ b1 < 160) ∨ (b0 = 237 ∧ 159 < b1) ∨ (b0 = 240 ∧ b1 < 144) ∨ (b0 = 244 ∧ 143 < b1) then 0
  else if b0 < 224 then 2 else if b0 < 240 then 3 else 4
set_option maxHeartbeats 4000000 in
theorem wide_dec (n b0 b1 b2 b3 : Nat) (hn : 1 ≤ n) (h0 : b0 < 256) (h1 : b1 < 256) (h2 : b2 < 256) (h3 : b3 < 256) (hb : 128 ≤ b0) :
    decodeN n b0 b1 b2 b3 = (if wideN n b0 b1 b2 b3 = 0 then (65533, 1)
      else if b0 < 224 then (b0 % 32 * 64 + b1 % 64, 2)
      else if b0 < 240 then ((b0 % 16 * 64 + b1 % 64) * 64 + b2 % 64, 3)
      else (((b0 % 8 * 64 + b1 % 64) * 64 + b2 % 64) * 64 + b3 % 64, 4)) := by
  by_cases c2 : b0 < 224
  · have e1 : ¬ b0 < 128 := by omega
    have e2 : ¬ (b0 / 16 = 14) := by omega
    have e3 : ¬ (b0 / 8 = 30) := by omega
    have e4 : ¬ (224 ≤ b0) := by omega
    have e5 : ¬ (240 ≤ b0) := by omega
    have e6 : ¬ (b0 = 224) := by omega
    have e7 : ¬ (b0 = 237) := by omega
    have e8 : ¬ (b0 = 240) := by omega
    have e9 : ¬ (b0 = 244) := by omega
    simp only [decodeN, wideN, e1, e2, e3, e4, e5, e6, e7, e8, e9, c2, if_true, if_false, false_and, and_false, or_false, false_or]
    repeat' split
    all_goals first | (exfalso; omega) | rfl | (apply Prod.ext <;> simp only <;> omega)
  · by_cases c3 : b0 < 240
    · unfold decodeN wideN
      rw [if_neg (by omega), if_neg (by omega)]
      repeat' split
      all_goals first | (exfalso; omega) | rfl | (apply Prod.ext <;> simp only <;> omega)
    · unfold decodeN wideN
      rw [if_neg (by omega), if_neg (by omega), if_neg (by omega)]
      repeat' split
      all_goals first | (exfalso; omega) | rfl | (apply Prod.ext <;> simp only <;> omega)
end Go.Proofs.YtgmkagddfbfolaaDoor.Label
