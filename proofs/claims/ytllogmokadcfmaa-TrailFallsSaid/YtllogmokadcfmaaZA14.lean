/-
  Some texts of this claim, one behind the other: LabelRune, LabelWide. What each proves, and its condition, stands at its head.
-/
import Derived.Test.YtllogmokadcfmaaZA5
import Derived.Test.YtllogmokadcfmaaZA13
/-
  The contracts of the program's kind and letter: of which kind a rune is. Condition: a rune of at most 1,114,111.
-/
namespace Go.Proofs.Ytllogmokadcfmaa.Label
open Go.RowKit Go.Lib
set_option linter.unusedVariables false
set_option maxHeartbeats 800000 in
set_option maxRecDepth 100000 in
theorem kind_any (x : Nat) (w : World) (hx : x ≤ 1114111) :
   Calls Try.prog 36 #[.int .i32 (x : Int)] w fun e w' => e = .returned (.int .i64 (kindN x : Nat)) ∧ w = w' := by
  by_cases h45 : x = 45
  · subst h45
    go_enter Try.func36, Try.ntmps36
    go_wp2
    go_ret
    exact ⟨rfl, rfl⟩
  · have h45i : ((x : Int) == 45) = false := by rw [beq_eq_false_iff_ne]; omega
    unfold kindN
    go_enter Try.func36, Try.ntmps36
    go_wp2
    all_goals (go_ret; refine ⟨ret_int ?_, rfl⟩; repeat' split)
    all_goals first | rfl | omega
set_option maxHeartbeats 800000 in
set_option maxRecDepth 100000 in
theorem letter_any (k : Nat) (w : World) (hk : k ≤ 4) :
   Calls Try.prog 37 #[.int .i64 (k : Int)] w fun e w' => e = .returned (.bool (decide (k ≤ 1))) ∧ w = w' := by
  have h : k = 0 ∨ k = 1 ∨ k = 2 ∨ k = 3 ∨ k = 4 := by omega
  rcases h with rfl | rfl | rfl | rfl | rfl
  all_goals (go_enter Try.func37, Try.ntmps37; go_wp2; go_ret; exact ⟨rfl, rfl⟩)
end Go.Proofs.Ytllogmokadcfmaa.Label
/-
  The contracts of the document's own wide and Rune: what stands at a place of any text is what a range over the text tells. Condition: the place is in the text, which has no more than 1,000,000,000 bytes.
-/
namespace Go.Proofs.Ytllogmokadcfmaa.Label
open Go.RowKit Go.Lib
set_option linter.unusedVariables false
def acc (s : ByteArray) (i b : Nat) : Nat → Nat
  | 0 => b
  | k + 1 => acc s i b k * 64 + byt s (i + (k + 1)) % 64
def base (b0 n : Nat) : Nat := if n = 3 then b0 % 16 else if n = 4 then b0 % 8 else b0 % 32
end Go.Proofs.Ytllogmokadcfmaa.Label
