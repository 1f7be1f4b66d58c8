/-
  The contracts of the program's and the document's own After, and of the document's digits and text. Condition: the program's table holds what its text lays in it.
-/
import Derived.Test.YtnkcjemobljpdaaDoorVerPlace
namespace Go.Proofs.YtnkcjemobljpdaaDoor.Ver
open Go.RowKit Go.Lib
set_option linter.unusedVariables false
theorem end_v {k : IntKind} {a b : Int} (h : a = b) : Ending.returned (Value.int k a) = Ending.returned (.int k b) := by rw [h]
theorem conv1 (W : World) (z : Int) : (convert 62 9 (.slice (some ⟨W.heap.size, 0, none⟩) 1 1)).run Tryd.prog (W.alloc (.cells #[.int .u8 z] 5)) = .ok (.string (strOfNums [z])) (W.alloc (.cells #[.int .u8 z] 5)) :=
  conv_new W [z] 1
theorem strOfNums_one (z : Int) (y : Nat) (h : z = (y : Int)) : strOfNums [z] = str [UInt8.ofNat y] := by subst h; simp [strOfNums, str]
theorem one_size (z : Int) : (strOfNums [z]).size = 1 := by rw [strOfNums_size]; rfl
theorem end_s {a b : ByteArray} (h : a = b) : Ending.returned (Value.string a) = Ending.returned (.string b) := by rw [h]
end Go.Proofs.YtnkcjemobljpdaaDoor.Ver
