/-
  DERIVED. GIVEN WITH THE SEED: THE CARDS: each row of YtdmejcfnolhplaaGreatDoorRows.lean that lists a variable, with what it lists TIED to the program's text (the seventh form; the later family's looks); each row that meets fmt, with fmt's text TOLD by the authors' own Lean function (tested against real Go, not proved from fmt's source: count such statements apart). THE CARD IS WHAT COUNTS. Prove the row's statement (the work); the ties are given (YtdmejcfnolhplaaGreatDoorTie.lean); close each card by the builder's one call (the guide's Derived/Test/ToyasCard.lean, 'card_holds'). Laid BY PROGRAM, IN A SANDBOX (cutbox-door.mjs). By AI agents, Wed Nov 11 2026. No macro, syntax, notation, axiom, sorry.
-/
import Derived.Test.YtdmejcfnolhplaaGreatDoorRows
import GoSem.ClaimSeven
namespace Go.Proofs.YtdmejcfnolhplaaGreatDoor
namespace Rows

/-- THE TIED CARD OF 'compradorlaw22.JudgeSound'. -/
def judgeSoundCard : Claim7 := { stood := { row := judgeSoundRow, standIns := [], harness := (true, "09f720ae3ad29506f5ba1e7e858040b515a81b120bca2ce56ad2f6b70811a44f"), looks := true }, kinds := [], alts := [], laidByText := true, laidKinds := [.data], laidTests := true, laidLooks := .later }
def JudgeSoundCardSaid : Prop := Claim7.holds Tryz.pinned (.plain (OpenSpec.ofChange judgeSoundSpec)) judgeSoundCard

/-- THE SECOND FORM's CARD OF 'compradorlaw22.JudgeSound'. -/
def judgeSoundUptoCard : Claim7 := { stood := { row := judgeSoundUptoRow, standIns := [], harness := (true, "09f720ae3ad29506f5ba1e7e858040b515a81b120bca2ce56ad2f6b70811a44f"), looks := true }, kinds := [], alts := [], laidByText := true, laidKinds := [.data], laidTests := true, laidLooks := .later }
def JudgeSoundUptoCardSaid : Prop := Claim7.holds Tryz.pinned (.plain (OpenSpec.upto judgeSoundSpec)) judgeSoundUptoCard
end Rows
end Go.Proofs.YtdmejcfnolhplaaGreatDoor
