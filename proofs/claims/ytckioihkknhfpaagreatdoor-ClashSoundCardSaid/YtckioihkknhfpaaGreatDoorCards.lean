/-
  DERIVED. GIVEN WITH THE SEED: THE CARDS: each row of YtckioihkknhfpaaGreatDoorRows.lean that lists a variable, with what it lists TIED to the program's text (the seventh form; the later family's looks); each row that meets fmt, with fmt's text TOLD by the authors' own Lean function (tested against real Go, not proved from fmt's source: count such statements apart). THE CARD IS WHAT COUNTS. Prove the row's statement (the work); the ties are given (YtckioihkknhfpaaGreatDoorTie.lean); close each card by the builder's one call (the guide's Derived/Test/ToyasCard.lean, 'card_holds'). Laid BY PROGRAM, IN A SANDBOX (cutbox-door.mjs). By AI agents, Wed Nov 11 2026. No macro, syntax, notation, axiom, sorry.
-/
import Derived.Test.YtckioihkknhfpaaGreatDoorRows
import GoSem.ClaimSeven
namespace Go.Proofs.YtckioihkknhfpaaGreatDoor
namespace Rows

/-- THE TIED CARD OF 'compradorlaw19.ClashMakes'. -/
def clashMakesCard : Claim7 := { stood := { row := clashMakesRow, standIns := [], harness := (true, "f205a298fb097ea217963ee55c7d337b16415d31fae82996a8831a01bbb08775"), looks := false }, kinds := [], alts := [], laidByText := true, laidKinds := [.data, .data, .data, .data], laidTests := true, laidLooks := .later }
def ClashMakesCardSaid : Prop := Claim7.holds Tryz.pinned (.plain (OpenSpec.ofChange clashMakesSpec)) clashMakesCard

/-- THE TIED CARD OF 'compradorlaw19.ClashDoes'. -/
def clashDoesCard : Claim7 := { stood := { row := clashDoesRow, standIns := [], harness := (true, "f205a298fb097ea217963ee55c7d337b16415d31fae82996a8831a01bbb08775"), looks := false }, kinds := [], alts := [], laidByText := true, laidKinds := [.data, .data, .data, .data], laidTests := true, laidLooks := .later }
def ClashDoesCardSaid : Prop := Claim7.holds Tryz.pinned (.plain (OpenSpec.ofChange clashDoesSpec)) clashDoesCard

/-- THE TIED CARD OF 'compradorlaw19.ClashSound'. -/
def clashSoundCard : Claim7 := { stood := { row := clashSoundRow, standIns := [], harness := (true, "f205a298fb097ea217963ee55c7d337b16415d31fae82996a8831a01bbb08775"), looks := false }, kinds := [], alts := [], laidByText := true, laidKinds := [.data, .data, .data, .data], laidTests := true, laidLooks := .later }
def ClashSoundCardSaid : Prop := Claim7.holds Tryz.pinned (.plain (OpenSpec.ofChange clashSoundSpec)) clashSoundCard

/-- THE SECOND FORM's CARD OF 'compradorlaw19.ClashMakes'. -/
def clashMakesUptoCard : Claim7 := { stood := { row := clashMakesUptoRow, standIns := [], harness := (true, "f205a298fb097ea217963ee55c7d337b16415d31fae82996a8831a01bbb08775"), looks := false }, kinds := [], alts := [], laidByText := true, laidKinds := [.data, .data, .data, .data], laidTests := true, laidLooks := .later }
def ClashMakesUptoCardSaid : Prop := Claim7.holds Tryz.pinned (.plain (OpenSpec.upto clashMakesSpec)) clashMakesUptoCard

/-- THE SECOND FORM's CARD OF 'compradorlaw19.ClashDoes'. -/
def clashDoesUptoCard : Claim7 := { stood := { row := clashDoesUptoRow, standIns := [], harness := (true, "f205a298fb097ea217963ee55c7d337b16415d31fae82996a8831a01bbb08775"), looks := false }, kinds := [], alts := [], laidByText := true, laidKinds := [.data, .data, .data, .data], laidTests := true, laidLooks := .later }
def ClashDoesUptoCardSaid : Prop := Claim7.holds Tryz.pinned (.plain (OpenSpec.upto clashDoesSpec)) clashDoesUptoCard

/-- THE SECOND FORM's CARD OF 'compradorlaw19.ClashSound'. -/
def clashSoundUptoCard : Claim7 := { stood := { row := clashSoundUptoRow, standIns := [], harness := (true, "f205a298fb097ea217963ee55c7d337b16415d31fae82996a8831a01bbb08775"), looks := false }, kinds := [], alts := [], laidByText := true, laidKinds := [.data, .data, .data, .data], laidTests := true, laidLooks := .later }
def ClashSoundUptoCardSaid : Prop := Claim7.holds Tryz.pinned (.plain (OpenSpec.upto clashSoundSpec)) clashSoundUptoCard
end Rows
end Go.Proofs.YtckioihkknhfpaaGreatDoor
