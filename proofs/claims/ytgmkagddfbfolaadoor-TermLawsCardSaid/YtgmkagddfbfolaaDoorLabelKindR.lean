/-
  The contract of the document's own Kind: of which kind a rune is. Condition: a rune of at most 1,114,111.
-/
import Derived.Test.YtgmkagddfbfolaaDoorLabelRune
namespace Go.Proofs.YtgmkagddfbfolaaDoor.Label
open Go.RowKit Go.Lib
set_option linter.unusedVariables false
set_option maxHeartbeats 800000 in
set_option maxRecDepth 100000 in
theorem refKind_any (x : Nat) (w : World) (hx : x ≤ 1114111) :
   Calls Tryd.prog 54 #[.int .i64 (x : Int)] w fun e w' => e = .returned (.int .i64 (kindN x : Nat)) ∧ w = w' := by
  by_cases h45 : x = 45
  · subst h45
    go_enter Tryd.func54, Tryd.ntmps54
    go_wp2
    go_ret
    exact ⟨rfl, rfl⟩
  · have h45i : ((x : Int) == 45) = false := by rw [beq_eq_false_iff_ne]; omega
    unfold kindN
    go_enter Tryd.func54, Tryd.ntmps54
    go_wp2
    all_goals (go_ret; refine ⟨ret_int ?_, rfl⟩; repeat' split)
    all_goals first | rfl | omega
end Go.Proofs.YtgmkagddfbfolaaDoor.Label
