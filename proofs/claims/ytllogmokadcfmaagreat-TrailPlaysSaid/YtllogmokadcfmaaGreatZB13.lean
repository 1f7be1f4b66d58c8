/-
  Some texts of this claim, one behind the other: GrowWords. What each proves, and its condition, stands at its head.
-/
import Derived.Test.YtllogmokadcfmaaGreatZB1
import Derived.Test.YtllogmokadcfmaaGreatChecked
import Derived.Lib.SlBytesConst
import Derived.Test.YtllogmokadcfmaaGreatZB12
/-
  Words for the walk of regions that make memory: a new slice of bytes as a relation; what the conversion to a text yields in each world of the class. No condition.
-/
namespace Go.Proofs.YtllogmokadcfmaaGreat.Grow
open Go Go.RowKit
set_option linter.unusedVariables false
theorem call_isC {f : FuncId} {args : Array Value} {w' : World} {c : Value} (h : Calls Tryz.prog f args w' fun e w'' => e = .returned c ∧ Below w'.heap.size w' w'') :
    Calls Tryz.prog f args w' fun e w'' => ∃ v, e = .returned v ∧ Below w'.heap.size w' w'' ∧ isC c w'' v :=
  h.mono fun _ _ ⟨he, hb⟩ => ⟨_, he, hb, rfl⟩
section
variable {ops : Array Oper} {C : World → Prop} {T : List (Nat × Rel)} {Q : Exit → Act → World → Prop} {o : Oper} {rest : List Oper} {a : Act}
end
end Go.Proofs.YtllogmokadcfmaaGreat.Grow
