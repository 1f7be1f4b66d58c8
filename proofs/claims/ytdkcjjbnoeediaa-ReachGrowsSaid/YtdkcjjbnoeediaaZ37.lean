/-
  Some texts of this claim, one behind the other: WireRefPut. What each proves, and its condition, stands at its head.
-/
import Derived.Test.YtdkcjjbnoeediaaZ35
import Derived.Test.YtdkcjjbnoeediaaZ36
/-
  The contracts of the document's needs and Put: they answer the bytes of the plain mathematics. Condition: needs that may be; what its Check tells.
-/
namespace Go.Proofs.Ytdkcjjbnoeediaa.Wire
open Go Go.RowKit Go.Lib Go.Proofs.Ytdkcjjbnoeediaa.Span Go.Proofs.Ytdkcjjbnoeediaa.Need Go.Proofs.Ytdkcjjbnoeediaa.Mani Go.Proofs.Ytdkcjjbnoeediaa.Grow
open Go.Proofs.Ytdkcjjbnoeediaa.Vlq (enc held)
set_option linter.unusedVariables false
theorem str_two (a b c : List UInt8) (h : a ++ b = c) : str a ++ str b = str c := by rw [str_append, h]
theorem str_three (a b c d : List UInt8) (h : a ++ (b ++ c) = d) : str a ++ str b ++ str c = str d := by rw [str_append, str_append, List.append_assoc, h]
theorem flat_needs_len (l : List Nd) (h : ∀ q ∈ l, NeedOk q) (hn : l.length ≤ 6) (k : Nat) : (flat needB (l.take k)).length ≤ 6 * 86 := by
  have h1 := flat_len needB (l.take k) 86 (fun x hx => needB_len x (h x (List.mem_of_mem_take hx)))
  have h2 : (l.take k).length ≤ 6 := by rw [List.length_take]; omega
  exact Nat.le_trans h1 (Nat.mul_le_mul_right _ h2)
theorem flat_spans_len (l : List S) (h : ∀ q ∈ l, SpanOk q) (hn : l.length ≤ 6) (k : Nat) : (flat spanB (l.take k)).length ≤ 6 * 10 := by
  have h1 := flat_len spanB (l.take k) 10 (fun x hx => spanB_len x (h x (List.mem_of_mem_take hx)))
  have h2 : (l.take k).length ≤ 6 := by rw [List.length_take]; omega
  exact Nat.le_trans h1 (Nat.mul_le_mul_right _ h2)
theorem flat_rels_len (l : List Rl) (h : ∀ q ∈ l, RelOk q) (hn : l.length ≤ 8) (k : Nat) : (flat relB (l.take k)).length ≤ 8 * 522 := by
  have h1 := flat_len relB (l.take k) 522 (fun x hx => relB_len x (h x (List.mem_of_mem_take hx)))
  have h2 : (l.take k).length ≤ 8 := by rw [List.length_take]; omega
  exact Nat.le_trans h1 (Nat.mul_le_mul_right _ h2)
end Go.Proofs.Ytdkcjjbnoeediaa.Wire
