/-
  DERIVED. GIVEN WITH THE SEED: THE CARDS: each row of YtgmkagddfbfolaaDoorRows.lean that lists a variable, with what it lists TIED to the program's text (the seventh form; the later family's looks); each row that meets fmt, with fmt's text TOLD by the authors' own Lean function (tested against real Go, not proved from fmt's source: count such statements apart). THE CARD IS WHAT COUNTS. Prove the row's statement (the work); the ties are given (YtgmkagddfbfolaaDoorTie.lean); close each card by the builder's one call (the guide's Derived/Test/ToyasCard.lean, 'card_holds'). Laid BY PROGRAM, IN A SANDBOX (cutbox-door.mjs). By AI agents, Wed Nov 11 2026. No macro, syntax, notation, axiom, sorry.
-/
import Derived.Test.YtgmkagddfbfolaaDoorRows
import GoSem.ClaimSeven
namespace Go.Proofs.YtgmkagddfbfolaaDoor
namespace Rows

/-- THE TIED CARD OF 'compradorlaw18.TermDoes'. -/
def termDoesCard : Claim7 := { stood := { row := termDoesRow, standIns := [], harness := (true, "4c918f59289091e3adbdbf2e8391713134d46f733c98dfca1b02f599bba16225"), looks := false }, kinds := [], alts := [], laidByText := true, laidKinds := [.data, .data, .data, .data], laidTests := true, laidLooks := .later }
def TermDoesCardSaid : Prop := Claim7.holds Tryd.pinned (.plain (OpenSpec.ofChange termDoesSpec)) termDoesCard

/-- THE TIED CARD OF 'compradorlaw18.TermLaws'. -/
def termLawsCard : Claim7 := { stood := { row := termLawsRow, standIns := [], harness := (true, "4c918f59289091e3adbdbf2e8391713134d46f733c98dfca1b02f599bba16225"), looks := false }, kinds := [], alts := [], laidByText := true, laidKinds := [.data, .data, .data, .data], laidTests := true, laidLooks := .later }
def TermLawsCardSaid : Prop := Claim7.holds Tryd.pinned (.plain (OpenSpec.ofChange termLawsSpec)) termLawsCard

/-- THE SECOND FORM's CARD OF 'compradorlaw18.TermDoes'. -/
def termDoesUptoCard : Claim7 := { stood := { row := termDoesUptoRow, standIns := [], harness := (true, "4c918f59289091e3adbdbf2e8391713134d46f733c98dfca1b02f599bba16225"), looks := false }, kinds := [], alts := [], laidByText := true, laidKinds := [.data, .data, .data, .data], laidTests := true, laidLooks := .later }
def TermDoesUptoCardSaid : Prop := Claim7.holds Tryd.pinned (.plain (OpenSpec.upto termDoesSpec)) termDoesUptoCard

/-- THE SECOND FORM's CARD OF 'compradorlaw18.TermLaws'. -/
def termLawsUptoCard : Claim7 := { stood := { row := termLawsUptoRow, standIns := [], harness := (true, "4c918f59289091e3adbdbf2e8391713134d46f733c98dfca1b02f599bba16225"), looks := false }, kinds := [], alts := [], laidByText := true, laidKinds := [.data, .data, .data, .data], laidTests := true, laidLooks := .later }
def TermLawsUptoCardSaid : Prop := Claim7.holds Tryd.pinned (.plain (OpenSpec.upto termLawsSpec)) termLawsUptoCard
end Rows
end Go.Proofs.YtgmkagddfbfolaaDoor
