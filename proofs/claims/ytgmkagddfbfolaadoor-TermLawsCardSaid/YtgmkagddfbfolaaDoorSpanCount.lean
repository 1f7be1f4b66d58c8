/-
  Contracts of Count, the program's and the document's: of a set. Condition: the slice reads as a set's spans.
-/
import Derived.Test.YtgmkagddfbfolaaDoorSpanCells
namespace Go.Proofs.YtgmkagddfbfolaaDoor.Span
open Go.RowKit Go.Lib
set_option linter.unusedVariables false
/-- Count: of a set. -/
theorem take_snoc (l : List S) (k : Nat) (a : S) (h : l[k]? = some a) : l.take (k + 1) = l.take k ++ [a] := by
  rw [List.take_add_one, h]; rfl
theorem count_take {l : List S} (hs : isSet (-1) l = true) (k : Nat) : 0 ≤ count (l.take k) ∧ count (l.take k) ≤ 1000000001 := by
  have h : isSet (-1) (l.take k ++ l.drop k) = true := by rw [List.take_append_drop]; exact hs
  rw [isSet_append, Bool.and_eq_true] at h
  have h1 := count_range h.1
  have h2 := end_le h.1 (by omega)
  omega
end Go.Proofs.YtgmkagddfbfolaaDoor.Span
