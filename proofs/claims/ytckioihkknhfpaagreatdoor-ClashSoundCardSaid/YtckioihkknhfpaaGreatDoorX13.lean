/-
  Some texts of this claim, one behind the other: SpanDo, SpanOn. What each proves, and its condition, stands at its head.
-/
import Derived.Test.YtckioihkknhfpaaGreatDoorX10
import Derived.Test.YtckioihkknhfpaaGreatDoorX3
import Derived.Test.YtckioihkknhfpaaGreatDoorX4
import Derived.Deep.RegionLaw
/-
  The contract of the document's Do, and of Union, Meet, Not, Of over it: the set of the places that an operation keeps. Condition: at most 10,000 spans each.
-/
namespace Go.Proofs.YtckioihkknhfpaaGreatDoor.Span
open Go Go.RowKit Go.Lib
set_option linter.unusedVariables false
def keptD (op : Int) (a b : List S) (p : Int) : Bool := toldM op (has a p) (has b p)
noncomputable def doS (op : Int) (a b : List S) : List S := nf (keptD op a b)
end Go.Proofs.YtckioihkknhfpaaGreatDoor.Span
/-
  The contracts of layer 6 in one form: slices that read so in the world at hand; what was made stays. And the chapter's examples (awake). No condition beyond each contract's own.
-/
namespace Go.Proofs.YtckioihkknhfpaaGreatDoor.Span
open Go Go.RowKit Go.Lib
set_option linter.unusedVariables false
section
variable {A A' : Option Addr} {n c n' c' : Nat} {l m : List S} {w : World}
theorem check_on (h : SpOn w A n l) (hn : n ≤ 1000000001) : Calls Tryz.prog 56 #[.slice A n c] w (Tells w (.bool (isSet (-1) l))) := check_any w h (Nat.le_refl _) hn
theorem refCheck_on (h : SpOn w A n l) (hn : n ≤ 1000000001) : Calls Tryz.prog 38 #[.slice A n c] w (Tells w (.bool (isSet (-1) l))) := tells_drew (refCheck_any w h hn)
theorem same_on (h : SpOn w A n l) (h' : SpOn w A' n' m) (hn : n ≤ 1000000001) (hn' : n' ≤ 1000000001) : Calls Tryz.prog 57 #[.slice A n c, .slice A' n' c'] w (Tells w (.bool (decide (l = m)))) := tells_drew (same_any w h h' hn hn')
theorem refSame_on (h : SpOn w A n l) (h' : SpOn w A' n' m) (hn : n ≤ 1000000001) (hn' : n' ≤ 1000000001) : Calls Tryz.prog 50 #[.slice A n c, .slice A' n' c'] w (Tells w (.bool (decide (l = m)))) := tells_drew (refSame_any w h h' hn hn')
theorem has_on (p : Int) (h : SpOn w A n l) (hn : n ≤ 1000000001) : Calls Tryz.prog 79 #[.slice A n c, .int .i64 p] w (Tells w (.bool (has l p))) := has_any p w h (Nat.le_refl _) hn
end
theorem spOn_one (w : World) (x y : Int) (g : Nat) (hg : g = w.heap.size) : SpOn (w.alloc (.cells #[.int .i64 x, .int .i64 y] 45)) (some ⟨g, 0, none⟩) 1 [(x, y)] :=
  (spIn_of_reads (reads_one w x y g hg)).more (by simp [hg])
end Go.Proofs.YtckioihkknhfpaaGreatDoor.Span
