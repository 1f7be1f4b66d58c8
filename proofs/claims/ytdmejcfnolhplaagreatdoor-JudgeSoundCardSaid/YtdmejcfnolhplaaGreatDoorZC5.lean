/-
  Some texts of this claim, one behind the other: FitRules. What each proves, and its condition, stands at its head.
-/
import Derived.Test.YtdmejcfnolhplaaGreatDoorZC1
import Derived.Test.YtdmejcfnolhplaaGreatDoorChecked
import Derived.Laws.EntriesVeiled
/-
  The contract of the program's rules: the five rules, in an array. No condition.
-/
namespace Go.Proofs.YtdmejcfnolhplaaGreatDoor.Fit
open Go Go.RowKit Go.Lib
set_option linter.unusedVariables false
def rulesV : Array Value := #[.int .i64 1, .func (.func 43) #[] #[], .int .i64 2, .func (.func 44) #[] #[], .int .i64 3, .func (.func 45) #[] #[], .int .i64 4, .func (.func 46) #[] #[], .int .i64 5, .func (.func 47) #[] #[]]
theorem rule_at0 (w : World) : (Instr.index 84 (.agg rulesV) (.int .i64 0)).run Tryz.prog w = .ok (.agg #[.int .i64 1, .func (.func 43) #[] #[]]) w := by kernel_rfl
theorem rule_at1 (w : World) : (Instr.index 84 (.agg rulesV) (.int .i64 1)).run Tryz.prog w = .ok (.agg #[.int .i64 2, .func (.func 44) #[] #[]]) w := by kernel_rfl
theorem rule_at2 (w : World) : (Instr.index 84 (.agg rulesV) (.int .i64 2)).run Tryz.prog w = .ok (.agg #[.int .i64 3, .func (.func 45) #[] #[]]) w := by kernel_rfl
theorem rule_at3 (w : World) : (Instr.index 84 (.agg rulesV) (.int .i64 3)).run Tryz.prog w = .ok (.agg #[.int .i64 4, .func (.func 46) #[] #[]]) w := by kernel_rfl
theorem rule_at4 (w : World) : (Instr.index 84 (.agg rulesV) (.int .i64 4)).run Tryz.prog w = .ok (.agg #[.int .i64 5, .func (.func 47) #[] #[]]) w := by kernel_rfl
theorem info_rules : (Tryz.prog.info? 84).map (·.size) = some rulesV.size := by kernel_rfl
set_option maxHeartbeats 4000000 in
set_option maxRecDepth 100000 in
theorem rules_any (w : World) : Calls Tryz.prog 33 #[] w fun e w' => e = .returned (.agg rulesV) ∧ Below w.heap.size w w' := by
  go_enter Tryz.func33, Tryz.ntmps33
  go_wp2
  refine bodyPost_ret (results_cell_row rfl _ _ w.heap.size 84 rulesV (0, 0) _ rfl (heap_alloc_new w _) Tryz.underlying84 rfl info_rules) rfl ?_
  exact ⟨rfl, (Below.refl _ _).alloc (Nat.le_refl _) _⟩
end Go.Proofs.YtdmejcfnolhplaaGreatDoor.Fit
