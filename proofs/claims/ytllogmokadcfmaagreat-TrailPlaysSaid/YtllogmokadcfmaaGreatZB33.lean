/-
  Some texts of this claim, one behind the other: VerPlace. What each proves, and its condition, stands at its head.
-/
import Derived.Test.YtllogmokadcfmaaGreatZB7
import Derived.Test.YtllogmokadcfmaaGreatZB13
import Derived.Shelf.Strconv.Itoa3
import Derived.Lib.LaidTab
import Derived.LoopTactic
import Derived.LoopN
import Derived.Laws.ResultCell
import Derived.ChangeKeysEq
/-
  The contracts of the program's and the document's own fit, Parts and Place. Condition: the program's table holds what its text lays in it.
-/
namespace Go.Proofs.YtllogmokadcfmaaGreat.Ver
open Go.RowKit Go.Lib
set_option linter.unusedVariables false
theorem refFit_yes (p : Int) (w : World) (h0 : 0 ≤ p) (h1 : p < 1000000000) :
    Calls Tryz.prog 61 #[.int .i64 p] w fun e w' => e = .returned (.bool true) ∧ w = w' := by
  go_enter Tryz.func61, Tryz.ntmps61
  go_wp2
  go_ret
  exact ⟨rfl, rfl⟩
theorem refFit_no (p : Int) (w : World) (h : ¬ (0 ≤ p ∧ p < 1000000000)) :
    Calls Tryz.prog 61 #[.int .i64 p] w fun e w' => e = .returned (.bool false) ∧ w = w' := by
  by_cases h0 : 0 ≤ p
  · have h1 : ¬ p < 1000000000 := fun h1 => h ⟨h0, h1⟩
    clear h
    go_enter Tryz.func61, Tryz.ntmps61
    go_wp2
    go_ret
    exact ⟨rfl, rfl⟩
  · clear h
    go_enter Tryz.func61, Tryz.ntmps61
    go_wp2
    go_ret
    exact ⟨rfl, rfl⟩
end Go.Proofs.YtllogmokadcfmaaGreat.Ver
