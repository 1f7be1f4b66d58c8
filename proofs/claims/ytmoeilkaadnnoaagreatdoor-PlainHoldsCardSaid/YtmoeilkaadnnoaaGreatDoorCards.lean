/-
  DERIVED. GIVEN WITH THE SEED: THE CARDS: each row of YtmoeilkaadnnoaaGreatDoorRows.lean that lists a variable, with what it lists TIED to the program's text (the seventh form; the later family's looks); each row that meets fmt, with fmt's text TOLD by the authors' own Lean function (tested against real Go, not proved from fmt's source: count such statements apart). THE CARD IS WHAT COUNTS. Prove the row's statement (the work); the ties are given (YtmoeilkaadnnoaaGreatDoorTie.lean); close each card by the builder's one call (the guide's Derived/Test/ToyasCard.lean, 'card_holds'). Laid BY PROGRAM, IN A SANDBOX (cutbox-door.mjs). By AI agents, Wed Nov 11 2026. No macro, syntax, notation, axiom, sorry.
-/
import Derived.Test.YtmoeilkaadnnoaaGreatDoorRows
import GoSem.ClaimSeven
namespace Go.Proofs.YtmoeilkaadnnoaaGreatDoor
namespace Rows

/-- THE TIED CARD OF 'compradorlaw17.PlainHolds'. -/
def plainHoldsCard : Claim7 := { stood := { row := plainHoldsRow, standIns := [], harness := (true, "c262317d7182dd94124d0c4f32f9fe318e4c8dee76fbcd1f932289502f247105"), looks := true }, kinds := [], alts := [], laidByText := true, laidKinds := [.data], laidTests := true, laidLooks := .later }
def PlainHoldsCardSaid : Prop := Claim7.holds Tryz.pinned (.plain (OpenSpec.ofChange plainHoldsSpec)) plainHoldsCard

/-- THE SECOND FORM's CARD OF 'compradorlaw17.PlainHolds'. -/
def plainHoldsUptoCard : Claim7 := { stood := { row := plainHoldsUptoRow, standIns := [], harness := (true, "c262317d7182dd94124d0c4f32f9fe318e4c8dee76fbcd1f932289502f247105"), looks := true }, kinds := [], alts := [], laidByText := true, laidKinds := [.data], laidTests := true, laidLooks := .later }
def PlainHoldsUptoCardSaid : Prop := Claim7.holds Tryz.pinned (.plain (OpenSpec.upto plainHoldsSpec)) plainHoldsUptoCard
end Rows
end Go.Proofs.YtmoeilkaadnnoaaGreatDoor
