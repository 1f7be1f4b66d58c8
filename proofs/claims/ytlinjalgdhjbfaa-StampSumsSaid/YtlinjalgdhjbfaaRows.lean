/-
  No cell of these rows narrows 'for every input' (looked for: loops, veiled, ifaces, maps, wideKeys, modest, calm, conditions, laid).
  DERIVED. THE GIVEN ROWS OF THIS SEAT. 3 by the template 'for every input the law returns true; each argument reads behind the call as it read before'; 0 by the template 'total and deterministic' (their statements: YtlinjalgdhjbfaaTotals.lean).
  GIVEN WITH THE SEED: the statements are not yours to turn. If you find one false, say at which input.
  Laid BY PROGRAM, IN A SANDBOX (cutbox-rows.mjs): the forced cells as the released guide's own fill.sh prints them over the translation 319c575a8d693946… (all of the seat's roots in one cut). By AI agents, Wed Nov 11 2026. No macro, syntax, notation, axiom, sorry.
-/
import Derived.Test.YtlinjalgdhjbfaaChecked
import GoSem.Claim
import GoSem.ClaimJoined
import GoSem.ClaimMapViews
import Derived.JoinedTies
import Derived.KernelRfl
namespace Go.Proofs.Ytlinjalgdhjbfaa
/- THE CELL 'sum', in the pinned program and in every row, IS THE sha256 OF THE DUMP (.gsa) THAT YtlinjalgdhjbfaaProg.lean LOADS. Nothing in Lean hashes anything: it is a label: what it is worth is what the hold of that sum in a sandbox is worth. -/
noncomputable def Try.pinned : Pinned := { name := "ytlinjalgdhjbfaa", sum := "319c575a8d693946442f89ecfc258be05219ea74dbc5259d90c399a94e32709c", checked := Try.checked }
namespace Rows
def none {H : Type} : Left H := { results := [], args := [] }

/-- 'compradorlaw02.StampSums': WHATEVER THE INPUT: true; the input reads as it did. -/
def stampSumsSpec : ChangeSpec := { name := "stampSums", fn := fun _ => fun
  | [d] => { results := [.lit (.bool true)], args := [d] }
  | _ => none }
def stampSumsRow : OpenClaim := { program := "ytlinjalgdhjbfaa", sum := "319c575a8d693946442f89ecfc258be05219ea74dbc5259d90c399a94e32709c", func := "comprador/compradorlaw02.StampSums", spec := "stampSums", apart := false }
def StampSumsSaid : Prop := stampSumsRow.holds Try.pinned (OpenSpec.ofChange stampSumsSpec)

/-- ITS FALSE NEIGHBOUR: 'it returns false'. Refute it at one input. -/
def stampSumsWrong : ChangeSpec := { name := "stampSums", fn := fun _ => fun
  | [d] => { results := [.lit (.bool false)], args := [d] }
  | _ => none }
def StampSumsWrongFalsely : Prop := stampSumsRow.holds Try.pinned (OpenSpec.ofChange stampSumsWrong)

/-- 'compradorlaw02.StampGoes': WHATEVER THE INPUT: true; the input reads as it did. -/
def stampGoesSpec : ChangeSpec := { name := "stampGoes", fn := fun _ => fun
  | [d1, d2] => { results := [.lit (.bool true)], args := [d1, d2] }
  | _ => none }
def stampGoesRow : OpenClaim := { program := "ytlinjalgdhjbfaa", sum := "319c575a8d693946442f89ecfc258be05219ea74dbc5259d90c399a94e32709c", func := "comprador/compradorlaw02.StampGoes", spec := "stampGoes", apart := false }
def StampGoesSaid : Prop := stampGoesRow.holds Try.pinned (OpenSpec.ofChange stampGoesSpec)

/-- ITS FALSE NEIGHBOUR: 'it returns false'. Refute it at one input. -/
def stampGoesWrong : ChangeSpec := { name := "stampGoes", fn := fun _ => fun
  | [d1, d2] => { results := [.lit (.bool false)], args := [d1, d2] }
  | _ => none }
def StampGoesWrongFalsely : Prop := stampGoesRow.holds Try.pinned (OpenSpec.ofChange stampGoesWrong)

/-- 'compradorlaw02.StampTurned': WHATEVER THE INPUT: true; the input reads as it did. -/
def stampTurnedSpec : ChangeSpec := { name := "stampTurned", fn := fun _ => fun
  | [d1, d2, d3] => { results := [.lit (.bool true)], args := [d1, d2, d3] }
  | _ => none }
def stampTurnedRow : OpenClaim := { program := "ytlinjalgdhjbfaa", sum := "319c575a8d693946442f89ecfc258be05219ea74dbc5259d90c399a94e32709c", func := "comprador/compradorlaw02.StampTurned", spec := "stampTurned", apart := false }
def StampTurnedSaid : Prop := stampTurnedRow.holds Try.pinned (OpenSpec.ofChange stampTurnedSpec)

/-- ITS FALSE NEIGHBOUR: 'it returns false'. Refute it at one input. -/
def stampTurnedWrong : ChangeSpec := { name := "stampTurned", fn := fun _ => fun
  | [d1, d2, d3] => { results := [.lit (.bool false)], args := [d1, d2, d3] }
  | _ => none }
def StampTurnedWrongFalsely : Prop := stampTurnedRow.holds Try.pinned (OpenSpec.ofChange stampTurnedWrong)

/- THE SECOND FORM. 'bulk': how many values and letters a reading holds, each counted each time it is reached (what is shared counts as often as it is met; a slice's spare places count too). A statement '..UptoSaid' is the law's where the arguments, and the package variables that the reading takes, are together of bulk at most 1048576: NARROWER than '..Said'. Prove '..Said' where nothing that the law and all that it calls make is longer than what came in: it says more and counts as full. Else prove '..UptoSaid'. A law counts once. -/
mutual
def uptoBulk {H : Type} : DataW H → Nat
  | .lit (.string bytes) => bytes.length + 1
  | .lit _ => 1
  | .nil => 1
  | .ptr d => uptoBulk d + 1
  | .slice elems spare => uptoBulkAll elems + uptoBulkAll spare + 1
  | .agg parts => uptoBulkAll parts + 1
  | .iface _ d => uptoBulk d + 1
  | .map entries => uptoBulkEntries entries + 1
  | .held _ => 1
def uptoBulkAll {H : Type} : List (DataW H) → Nat
  | [] => 0
  | d :: r => uptoBulk d + uptoBulkAll r
def uptoBulkEntries {H : Type} : List (Lit × DataW H) → Nat
  | [] => 0
  | x :: r => uptoBulkEntry x + uptoBulkEntries r
def uptoBulkEntry {H : Type} : Lit × DataW H → Nat
  | (.string bytes, d) => bytes.length + uptoBulk d + 1
  | (_, d) => uptoBulk d + 1
 end
def uptoSmall : (H : Type) → List (DataW H) → Bool := fun _ ds => decide (uptoBulkAll ds ≤ 1048576)
def OpenSpec.upto (s : _root_.Go.ChangeSpec) : _root_.Go.OpenSpec := { _root_.Go.OpenSpec.ofChange s with cond := some uptoSmall }

/-- 'compradorlaw02.StampSums', WHERE WHAT IT READS IS OF BULK AT MOST 1048576: true; the input reads as it did. -/
def stampSumsUptoRow : OpenClaim := { program := "ytlinjalgdhjbfaa", sum := "319c575a8d693946442f89ecfc258be05219ea74dbc5259d90c399a94e32709c", func := "comprador/compradorlaw02.StampSums", spec := "stampSums", apart := false, narrowed := true }
def StampSumsUptoSaid : Prop := stampSumsUptoRow.holds Try.pinned (OpenSpec.upto stampSumsSpec)

/-- 'compradorlaw02.StampGoes', WHERE WHAT IT READS IS OF BULK AT MOST 1048576: true; the input reads as it did. -/
def stampGoesUptoRow : OpenClaim := { program := "ytlinjalgdhjbfaa", sum := "319c575a8d693946442f89ecfc258be05219ea74dbc5259d90c399a94e32709c", func := "comprador/compradorlaw02.StampGoes", spec := "stampGoes", apart := false, narrowed := true }
def StampGoesUptoSaid : Prop := stampGoesUptoRow.holds Try.pinned (OpenSpec.upto stampGoesSpec)

/-- 'compradorlaw02.StampTurned', WHERE WHAT IT READS IS OF BULK AT MOST 1048576: true; the input reads as it did. -/
def stampTurnedUptoRow : OpenClaim := { program := "ytlinjalgdhjbfaa", sum := "319c575a8d693946442f89ecfc258be05219ea74dbc5259d90c399a94e32709c", func := "comprador/compradorlaw02.StampTurned", spec := "stampTurned", apart := false, narrowed := true }
def StampTurnedUptoSaid : Prop := stampTurnedUptoRow.holds Try.pinned (OpenSpec.upto stampTurnedSpec)

end Rows
end Go.Proofs.Ytlinjalgdhjbfaa
