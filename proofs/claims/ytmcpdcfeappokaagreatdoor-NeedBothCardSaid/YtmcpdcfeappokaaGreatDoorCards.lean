/-
  DERIVED. GIVEN WITH THE SEED: THE CARDS: each row of YtmcpdcfeappokaaGreatDoorRows.lean that lists a variable, with what it lists TIED to the program's text (the seventh form; the later family's looks); each row that meets fmt, with fmt's text TOLD by the authors' own Lean function (tested against real Go, not proved from fmt's source: count such statements apart). THE CARD IS WHAT COUNTS. Prove the row's statement (the work); the ties are given (YtmcpdcfeappokaaGreatDoorTie.lean); close each card by the builder's one call (the guide's Derived/Test/ToyasCard.lean, 'card_holds'). Laid BY PROGRAM, IN A SANDBOX (cutbox-door.mjs). By AI agents, Wed Nov 11 2026. No macro, syntax, notation, axiom, sorry.
-/
import Derived.Test.YtmcpdcfeappokaaGreatDoorRows
import GoSem.ClaimSeven
namespace Go.Proofs.YtmcpdcfeappokaaGreatDoor
namespace Rows

/-- THE TIED CARD OF 'compradorlaw08.NeedLists'. -/
def needListsCard : Claim7 := { stood := { row := needListsRow, standIns := [], harness := (true, "49df4c555f3e24dd1f824431354bf303fee4f63817b4e1cb945fa5d464dd16ce"), looks := false }, kinds := [], alts := [], laidByText := true, laidKinds := [.data, .data, .data, .data, .data, .pinned], laidTests := true, laidLooks := .later }
def NeedListsCardSaid : Prop := Claim7.holds Tryz.pinned (.plain (OpenSpec.ofChange needListsSpec)) needListsCard

/-- THE TIED CARD OF 'compradorlaw08.NeedBoth'. -/
def needBothCard : Claim7 := { stood := { row := needBothRow, standIns := [], harness := (true, "49df4c555f3e24dd1f824431354bf303fee4f63817b4e1cb945fa5d464dd16ce"), looks := false }, kinds := [], alts := [], laidByText := true, laidKinds := [.data, .data, .data, .data, .data, .pinned], laidTests := true, laidLooks := .later }
def NeedBothCardSaid : Prop := Claim7.holds Tryz.pinned (.plain (OpenSpec.ofChange needBothSpec)) needBothCard

/-- THE SECOND FORM's CARD OF 'compradorlaw08.NeedLists'. -/
def needListsUptoCard : Claim7 := { stood := { row := needListsUptoRow, standIns := [], harness := (true, "49df4c555f3e24dd1f824431354bf303fee4f63817b4e1cb945fa5d464dd16ce"), looks := false }, kinds := [], alts := [], laidByText := true, laidKinds := [.data, .data, .data, .data, .data, .pinned], laidTests := true, laidLooks := .later }
def NeedListsUptoCardSaid : Prop := Claim7.holds Tryz.pinned (.plain (OpenSpec.upto needListsSpec)) needListsUptoCard

/-- THE SECOND FORM's CARD OF 'compradorlaw08.NeedBoth'. -/
def needBothUptoCard : Claim7 := { stood := { row := needBothUptoRow, standIns := [], harness := (true, "49df4c555f3e24dd1f824431354bf303fee4f63817b4e1cb945fa5d464dd16ce"), looks := false }, kinds := [], alts := [], laidByText := true, laidKinds := [.data, .data, .data, .data, .data, .pinned], laidTests := true, laidLooks := .later }
def NeedBothUptoCardSaid : Prop := Claim7.holds Tryz.pinned (.plain (OpenSpec.upto needBothSpec)) needBothUptoCard
end Rows
end Go.Proofs.YtmcpdcfeappokaaGreatDoor
