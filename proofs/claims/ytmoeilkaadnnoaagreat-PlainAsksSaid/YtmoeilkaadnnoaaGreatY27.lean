/-
  Some texts of this claim, one behind the other: WireB. What each proves, and its condition, stands at its head.
-/
import Derived.Test.YtmoeilkaadnnoaaGreatY25
import Derived.Test.YtmoeilkaadnnoaaGreatY7
import Derived.Test.YtmoeilkaadnnoaaGreatY6
import Derived.Test.YtmoeilkaadnnoaaGreatY8
import Derived.Test.YtmoeilkaadnnoaaGreatY5
/-
  New slices of bytes that a call makes: the contracts of the program's Put and Text in one form, the words for an append of bytes to bytes in a region that draws. Condition: texts of at most 24 bytes.
-/
namespace Go.Proofs.YtmoeilkaadnnoaaGreat.Wire
open Go Go.RowKit Go.Lib Go.Proofs.YtmoeilkaadnnoaaGreat.Grow
open Go.Proofs.YtmoeilkaadnnoaaGreat.Vlq (enc held encs)
set_option linter.unusedVariables false
def MakesB (w : World) (L : List UInt8) (e : Ending) (w' : World) : Prop := ∃ A n c, e = .returned (.slice A n c) ∧ NewB w' w.heap.size A n c L ∧ Below w.heap.size w w'
def isI (l : List Int) : Rel := fun w v => ∃ A n c, v = .slice A n c ∧ Reads w w.heap.size 1 A n (ics l)
theorem isI_stable (l : List Int) : ∀ w w' v, Below w.heap.size w w' → isI l w v → isI l w' v :=
  fun _ _ _ hb ⟨A, n, c, hv, hn⟩ => ⟨A, n, c, hv, (hn.below hb).more hb.size⟩
def catsB (B : Nat) (L1 L2 : List UInt8) : Wr := fun w1 v w2 => ∃ A n c, v = .slice A n c ∧ NewB w2 B A n c (L1 ++ L2) ∧ Below B w1 w2
end Go.Proofs.YtmoeilkaadnnoaaGreat.Wire
