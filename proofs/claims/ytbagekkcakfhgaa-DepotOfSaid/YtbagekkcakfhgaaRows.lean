/-
  No cell of these rows narrows 'for every input' (looked for: loops, veiled, ifaces, maps, wideKeys, modest, calm, conditions, laid).
  DERIVED. THE GIVEN ROWS OF THIS SEAT. 2 by the template 'for every input the law returns true; each argument reads behind the call as it read before'; 0 by the template 'total and deterministic' (their statements: YtbagekkcakfhgaaTotals.lean).
  GIVEN WITH THE SEED: the statements are not yours to turn. If you find one false, say at which input.
  Laid BY PROGRAM, IN A SANDBOX (cutbox-rows.mjs): the forced cells as the released guide's own fill.sh prints them over the translation fb7daa7b79f1cba8… (all of the seat's roots in one cut). By AI agents, Wed Nov 11 2026. No macro, syntax, notation, axiom, sorry.
-/
import Derived.Test.YtbagekkcakfhgaaChecked
import GoSem.Claim
import GoSem.ClaimJoined
import GoSem.ClaimMapViews
import Derived.JoinedTies
import Derived.KernelRfl
namespace Go.Proofs.Ytbagekkcakfhgaa
/- THE CELL 'sum', in the pinned program and in every row, IS THE sha256 OF THE DUMP (.gsa) THAT YtbagekkcakfhgaaProg.lean LOADS. Nothing in Lean hashes anything: it is a label: what it is worth is what the hold of that sum in a sandbox is worth. -/
noncomputable def Try.pinned : Pinned := { name := "ytbagekkcakfhgaa", sum := "fb7daa7b79f1cba8cc09163ec5a60b4b2232995971a52a11cd89894c21d0f919", checked := Try.checked }
namespace Rows
def none {H : Type} : Left H := { results := [], args := [] }

/-- 'compradorlaw12.DepotTells': WHATEVER THE INPUT: true; the input reads as it did. -/
def depotTellsSpec : ChangeSpec := { name := "depotTells", fn := fun _ => fun
  | [d1, d2] => { results := [.lit (.bool true)], args := [d1, d2] }
  | _ => none }
def depotTellsRow : OpenClaim := { program := "ytbagekkcakfhgaa", sum := "fb7daa7b79f1cba8cc09163ec5a60b4b2232995971a52a11cd89894c21d0f919", func := "comprador/compradorlaw12.DepotTells", spec := "depotTells", inPlace := ["internal/bytealg.abigen_runtime_cmpstring"], unfollowed := true, recurses := true, apart := false }
def DepotTellsSaid : Prop := depotTellsRow.holds Try.pinned (OpenSpec.ofChange depotTellsSpec)

/-- ITS FALSE NEIGHBOUR: 'it returns false'. Refute it at one input. -/
def depotTellsWrong : ChangeSpec := { name := "depotTells", fn := fun _ => fun
  | [d1, d2] => { results := [.lit (.bool false)], args := [d1, d2] }
  | _ => none }
def DepotTellsWrongFalsely : Prop := depotTellsRow.holds Try.pinned (OpenSpec.ofChange depotTellsWrong)

/-- 'compradorlaw12.DepotOf': WHATEVER THE INPUT: true; the input reads as it did. -/
def depotOfSpec : ChangeSpec := { name := "depotOf", fn := fun _ => fun
  | [d1, d2] => { results := [.lit (.bool true)], args := [d1, d2] }
  | _ => none }
def depotOfRow : OpenClaim := { program := "ytbagekkcakfhgaa", sum := "fb7daa7b79f1cba8cc09163ec5a60b4b2232995971a52a11cd89894c21d0f919", func := "comprador/compradorlaw12.DepotOf", spec := "depotOf", inPlace := ["internal/bytealg.abigen_runtime_cmpstring"], unfollowed := true, recurses := true, apart := false }
def DepotOfSaid : Prop := depotOfRow.holds Try.pinned (OpenSpec.ofChange depotOfSpec)

/-- ITS FALSE NEIGHBOUR: 'it returns false'. Refute it at one input. -/
def depotOfWrong : ChangeSpec := { name := "depotOf", fn := fun _ => fun
  | [d1, d2] => { results := [.lit (.bool false)], args := [d1, d2] }
  | _ => none }
def DepotOfWrongFalsely : Prop := depotOfRow.holds Try.pinned (OpenSpec.ofChange depotOfWrong)

/- THE SECOND FORM. 'bulk': how many values and letters a reading holds, each counted each time it is reached (what is shared counts as often as it is met; a slice's spare places count too). A statement '..UptoSaid' is the law's where the arguments, and the package variables that the reading takes, are together of bulk at most 1048576: NARROWER than '..Said'. Prove '..Said' where nothing that the law and all that it calls make is longer than what came in: it says more and counts as full. Else prove '..UptoSaid'. A law counts once. -/
mutual
def uptoBulk {H : Type} : DataW H → Nat
  | .lit (.string bytes) => bytes.length + 1
  | .lit _ => 1
  | .nil => 1
  | .ptr d => uptoBulk d + 1
  | .slice elems spare => uptoBulkAll elems + uptoBulkAll spare + 1
  | .agg parts => uptoBulkAll parts + 1
  | .iface _ d => uptoBulk d + 1
  | .map entries => uptoBulkEntries entries + 1
  | .held _ => 1
def uptoBulkAll {H : Type} : List (DataW H) → Nat
  | [] => 0
  | d :: r => uptoBulk d + uptoBulkAll r
def uptoBulkEntries {H : Type} : List (Lit × DataW H) → Nat
  | [] => 0
  | x :: r => uptoBulkEntry x + uptoBulkEntries r
def uptoBulkEntry {H : Type} : Lit × DataW H → Nat
  | (.string bytes, d) => bytes.length + uptoBulk d + 1
  | (_, d) => uptoBulk d + 1
 end
def uptoSmall : (H : Type) → List (DataW H) → Bool := fun _ ds => decide (uptoBulkAll ds ≤ 1048576)
def OpenSpec.upto (s : _root_.Go.ChangeSpec) : _root_.Go.OpenSpec := { _root_.Go.OpenSpec.ofChange s with cond := some uptoSmall }

/-- 'compradorlaw12.DepotTells', WHERE WHAT IT READS IS OF BULK AT MOST 1048576: true; the input reads as it did. -/
def depotTellsUptoRow : OpenClaim := { program := "ytbagekkcakfhgaa", sum := "fb7daa7b79f1cba8cc09163ec5a60b4b2232995971a52a11cd89894c21d0f919", func := "comprador/compradorlaw12.DepotTells", spec := "depotTells", inPlace := ["internal/bytealg.abigen_runtime_cmpstring"], unfollowed := true, recurses := true, apart := false, narrowed := true }
def DepotTellsUptoSaid : Prop := depotTellsUptoRow.holds Try.pinned (OpenSpec.upto depotTellsSpec)

/-- 'compradorlaw12.DepotOf', WHERE WHAT IT READS IS OF BULK AT MOST 1048576: true; the input reads as it did. -/
def depotOfUptoRow : OpenClaim := { program := "ytbagekkcakfhgaa", sum := "fb7daa7b79f1cba8cc09163ec5a60b4b2232995971a52a11cd89894c21d0f919", func := "comprador/compradorlaw12.DepotOf", spec := "depotOf", inPlace := ["internal/bytealg.abigen_runtime_cmpstring"], unfollowed := true, recurses := true, apart := false, narrowed := true }
def DepotOfUptoSaid : Prop := depotOfUptoRow.holds Try.pinned (OpenSpec.upto depotOfSpec)

end Rows
end Go.Proofs.Ytbagekkcakfhgaa
