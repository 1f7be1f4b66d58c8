/-
  The contracts of the program's kind and letter: of which kind a rune is. Condition: a rune of at most 1,114,111.
-/
import Derived.Test.YtgmkagddfbfolaaDoorLabelDec
import Derived.Test.YtgmkagddfbfolaaDoorGrowWords
namespace Go.Proofs.YtgmkagddfbfolaaDoor.Label
open Go.RowKit Go.Lib
set_option linter.unusedVariables false
set_option maxHeartbeats 800000 in
set_option maxRecDepth 100000 in
theorem kind_any (x : Nat) (w : World) (hx : x ≤ 1114111) :
   Calls Tryd.prog 51 #[.int .i32 (x : Int)] w fun e w' => e = .returned (.int .i64 (kindN x : Nat)) ∧ w = w' := by
  by_cases h45 : x = 45
  · subst h45
    go_enter Tryd.func51, Tryd.ntmps51
    go_wp2
    go_ret
    exact ⟨rfl, rfl⟩
  · have h45i : ((x : Int) == 45) = false := by rw [beq_eq_false_iff_ne]; omega
    unfold kindN
    go_enter Tryd.func51, Tryd.ntmps51
    go_wp2
    all_goals (go_ret; refine ⟨ret_int ?_, rfl⟩; repeat' split)
    all_goals first | rfl | omega
set_option maxHeartbeats 800000 in
set_option maxRecDepth 100000 in
theorem letter_any (k : Nat) (w : World) (hk : k ≤ 4) :
   Calls Tryd.prog 52 #[.int .i64 (k : Int)] w fun e w' => e = .returned (.bool (decide (k ≤ 1))) ∧ w = w' := by
  have h : k = 0 ∨ k = 1 ∨ k = 2 ∨ k = 3 ∨ k = 4 := by omega
  rcases h with rfl | rfl | rfl | rfl | rfl
  all_goals (go_enter Tryd.func52, Tryd.ntmps52; go_wp2; go_ret; exact ⟨rfl, rfl⟩)
end Go.Proofs.YtgmkagddfbfolaaDoor.Label
