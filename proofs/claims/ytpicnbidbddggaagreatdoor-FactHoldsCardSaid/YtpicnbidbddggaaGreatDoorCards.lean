/-
  DERIVED. GIVEN WITH THE SEED: THE CARDS: each row of YtpicnbidbddggaaGreatDoorRows.lean that lists a variable, with what it lists TIED to the program's text (the seventh form; the later family's looks); each row that meets fmt, with fmt's text TOLD by the authors' own Lean function (tested against real Go, not proved from fmt's source: count such statements apart). THE CARD IS WHAT COUNTS. Prove the row's statement (the work); the ties are given (YtpicnbidbddggaaGreatDoorTie.lean); close each card by the builder's one call (the guide's Derived/Test/ToyasCard.lean, 'card_holds'). Laid BY PROGRAM, IN A SANDBOX (cutbox-door.mjs). By AI agents, Wed Nov 11 2026. No macro, syntax, notation, axiom, sorry.
-/
import Derived.Test.YtpicnbidbddggaaGreatDoorRows
import GoSem.ClaimSeven
namespace Go.Proofs.YtpicnbidbddggaaGreatDoor
namespace Rows

/-- THE TIED CARD OF 'compradorlaw20.FactHolds'. -/
def factHoldsCard : Claim7 := { stood := { row := factHoldsRow, standIns := [], harness := (true, "1bf66fbd74ff4eedb036bf05cea200bc0267d35dd08966242ba8210dea92e6d7"), looks := true }, kinds := [], alts := [], laidByText := true, laidKinds := [.data], laidTests := true, laidLooks := .later }
def FactHoldsCardSaid : Prop := Claim7.holds Tryz.pinned (.plain (OpenSpec.ofChange factHoldsSpec)) factHoldsCard

/-- THE SECOND FORM's CARD OF 'compradorlaw20.FactHolds'. -/
def factHoldsUptoCard : Claim7 := { stood := { row := factHoldsUptoRow, standIns := [], harness := (true, "1bf66fbd74ff4eedb036bf05cea200bc0267d35dd08966242ba8210dea92e6d7"), looks := true }, kinds := [], alts := [], laidByText := true, laidKinds := [.data], laidTests := true, laidLooks := .later }
def FactHoldsUptoCardSaid : Prop := Claim7.holds Tryz.pinned (.plain (OpenSpec.upto factHoldsSpec)) factHoldsUptoCard
end Rows
end Go.Proofs.YtpicnbidbddggaaGreatDoor
