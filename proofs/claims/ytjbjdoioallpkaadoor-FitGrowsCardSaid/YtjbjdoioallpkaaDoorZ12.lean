/-
  Some texts of this claim, one behind the other: FitRules. What each proves, and its condition, stands at its head.
-/
import Derived.Test.YtjbjdoioallpkaaDoorZ1
import Derived.Test.YtjbjdoioallpkaaDoorChecked
import Derived.Laws.EntriesVeiled
/-
  The contract of the program's rules: the five rules, in an array. No condition.
-/
namespace Go.Proofs.YtjbjdoioallpkaaDoor.Fit
open Go Go.RowKit Go.Lib
set_option linter.unusedVariables false
def rulesV : Array Value := #[.int .i64 1, .func (.func 40) #[] #[], .int .i64 2, .func (.func 41) #[] #[], .int .i64 3, .func (.func 42) #[] #[], .int .i64 4, .func (.func 43) #[] #[], .int .i64 5, .func (.func 44) #[] #[]]
theorem rule_at0 (w : World) : (Instr.index 79 (.agg rulesV) (.int .i64 0)).run Tryd.prog w = .ok (.agg #[.int .i64 1, .func (.func 40) #[] #[]]) w := by kernel_rfl
theorem rule_at1 (w : World) : (Instr.index 79 (.agg rulesV) (.int .i64 1)).run Tryd.prog w = .ok (.agg #[.int .i64 2, .func (.func 41) #[] #[]]) w := by kernel_rfl
theorem rule_at2 (w : World) : (Instr.index 79 (.agg rulesV) (.int .i64 2)).run Tryd.prog w = .ok (.agg #[.int .i64 3, .func (.func 42) #[] #[]]) w := by kernel_rfl
theorem rule_at3 (w : World) : (Instr.index 79 (.agg rulesV) (.int .i64 3)).run Tryd.prog w = .ok (.agg #[.int .i64 4, .func (.func 43) #[] #[]]) w := by kernel_rfl
theorem rule_at4 (w : World) : (Instr.index 79 (.agg rulesV) (.int .i64 4)).run Tryd.prog w = .ok (.agg #[.int .i64 5, .func (.func 44) #[] #[]]) w := by kernel_rfl
theorem info_rules : (Tryd.prog.info? 79).map (·.size) = some rulesV.size := by kernel_rfl
set_option maxHeartbeats 4000000 in
set_option maxRecDepth 100000 in
theorem rules_any (w : World) : Calls Tryd.prog 28 #[] w fun e w' => e = .returned (.agg rulesV) ∧ Below w.heap.size w w' := by
  go_enter Tryd.func28, Tryd.ntmps28
  go_wp2
  refine bodyPost_ret (results_cell_row rfl _ _ w.heap.size 79 rulesV (0, 0) _ rfl (heap_alloc_new w _) Tryd.underlying79 rfl info_rules) rfl ?_
  exact ⟨rfl, (Below.refl _ _).alloc (Nat.le_refl _) _⟩
end Go.Proofs.YtjbjdoioallpkaaDoor.Fit
