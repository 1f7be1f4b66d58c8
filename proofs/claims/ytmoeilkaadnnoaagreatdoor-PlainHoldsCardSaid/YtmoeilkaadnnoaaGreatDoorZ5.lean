/-
  Some texts of this claim, one behind the other: FitRules. What each proves, and its condition, stands at its head.
-/
import Derived.Test.YtmoeilkaadnnoaaGreatDoorZ1
import Derived.Test.YtmoeilkaadnnoaaGreatDoorChecked
import Derived.Laws.EntriesVeiled
/-
  The contract of the program's rules: the five rules, in an array. No condition.
-/
namespace Go.Proofs.YtmoeilkaadnnoaaGreatDoor.Fit
open Go Go.RowKit Go.Lib
set_option linter.unusedVariables false
def rulesV : Array Value := #[.int .i64 1, .func (.func 59) #[] #[], .int .i64 2, .func (.func 60) #[] #[], .int .i64 3, .func (.func 61) #[] #[], .int .i64 4, .func (.func 62) #[] #[], .int .i64 5, .func (.func 63) #[] #[]]
theorem rule_at0 (w : World) : (Instr.index 94 (.agg rulesV) (.int .i64 0)).run Tryz.prog w = .ok (.agg #[.int .i64 1, .func (.func 59) #[] #[]]) w := by kernel_rfl
theorem rule_at1 (w : World) : (Instr.index 94 (.agg rulesV) (.int .i64 1)).run Tryz.prog w = .ok (.agg #[.int .i64 2, .func (.func 60) #[] #[]]) w := by kernel_rfl
theorem rule_at2 (w : World) : (Instr.index 94 (.agg rulesV) (.int .i64 2)).run Tryz.prog w = .ok (.agg #[.int .i64 3, .func (.func 61) #[] #[]]) w := by kernel_rfl
theorem rule_at3 (w : World) : (Instr.index 94 (.agg rulesV) (.int .i64 3)).run Tryz.prog w = .ok (.agg #[.int .i64 4, .func (.func 62) #[] #[]]) w := by kernel_rfl
theorem rule_at4 (w : World) : (Instr.index 94 (.agg rulesV) (.int .i64 4)).run Tryz.prog w = .ok (.agg #[.int .i64 5, .func (.func 63) #[] #[]]) w := by kernel_rfl
theorem info_rules : (Tryz.prog.info? 94).map (·.size) = some rulesV.size := by kernel_rfl
set_option maxHeartbeats 4000000 in
set_option maxRecDepth 100000 in
theorem rules_any (w : World) : Calls Tryz.prog 40 #[] w fun e w' => e = .returned (.agg rulesV) ∧ Below w.heap.size w w' := by
  go_enter Tryz.func40, Tryz.ntmps40
  go_wp2
  refine bodyPost_ret (results_cell_row rfl _ _ w.heap.size 94 rulesV (0, 0) _ rfl (heap_alloc_new w _) Tryz.underlying94 rfl info_rules) rfl ?_
  exact ⟨rfl, (Below.refl _ _).alloc (Nat.le_refl _) _⟩
end Go.Proofs.YtmoeilkaadnnoaaGreatDoor.Fit
