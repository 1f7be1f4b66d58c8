/-
  Some texts of this claim, one behind the other: SpanCuts. What each proves, and its condition, stands at its head.
-/
import Derived.Test.YtdkcjjbnoeediaaZ9
import Derived.Test.YtdkcjjbnoeediaaZ12
import Derived.Lib.QuietBelow
/-
  The contract of the document's cuts. Condition: at most 1000 spans each.
-/
namespace Go.Proofs.Ytdkcjjbnoeediaa.Span
open Go Go.RowKit Go.Lib Go.Proofs.Ytdkcjjbnoeediaa.Grow
set_option linter.unusedVariables false
/-- The relation 'it is a slice of these places'. -/
def isI (L : List Int) : Rel := fun w v => ∃ A n c, v = .slice A n c ∧ Reads w w.heap.size 1 A n (ics L)
theorem isI_stable (L : List Int) : ∀ w w' v, Below w.heap.size w w' → isI L w v → isI L w' v :=
  fun _ _ _ hb ⟨A, n, c, hv, hn⟩ => ⟨A, n, c, hv, (hn.below hb).more hb.size⟩
theorem call_isI {f : FuncId} {args : Array Value} {w' : World} {L : List Int} (h : Calls Try.prog f args w' fun e w'' => ∃ A n c, e = .returned (.slice A n c) ∧ Reads w'' w''.heap.size 1 A n (ics L) ∧ Below w'.heap.size w' w'') :
    Calls Try.prog f args w' fun e w'' => ∃ v, e = .returned v ∧ Below w'.heap.size w' w'' ∧ isI L w'' v :=
  h.mono fun _ _ ⟨A, n, c, he, hr, hb⟩ => ⟨_, he, hb, A, n, c, rfl, hr⟩
theorem slice_def_ (A : Option Addr) (n c : Nat) : Value.slice A n c ≠ undef := by intro h; cases h
theorem cell_reg_ {w : World} {p : Addr} {v : Value} (h : w.cell? p = some v) (hp : p.block < w.heap.size) (d : Nat) (os : Array Obj) : (Sort.grow (redrawn w d) os).cell? p = some v :=
  ((below_regrown w d os).cell hp).trans h
theorem len_ics {w : World} {B n : Nat} {A : Option Addr} {L : List Int} (h : Reads w B 1 A n (ics L)) : n = L.length := by
  have := h.1; rw [ics_length] at this; omega
end Go.Proofs.Ytdkcjjbnoeediaa.Span
