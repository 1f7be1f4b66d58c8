/-
  DERIVED. GIVEN WITH THE SEED: THE CARDS: each row of YtnkcjemobljpdaaDoorRows.lean that lists a variable, with what it lists TIED to the program's text (the seventh form; the later family's looks); each row that meets fmt, with fmt's text TOLD by the authors' own Lean function (tested against real Go, not proved from fmt's source: count such statements apart). THE CARD IS WHAT COUNTS. Prove the row's statement (the work); the ties are given (YtnkcjemobljpdaaDoorTie.lean); close each card by the builder's one call (the guide's Derived/Test/ToyasCard.lean, 'card_holds'). Laid BY PROGRAM, IN A SANDBOX (cutbox-door.mjs). By AI agents, Wed Nov 11 2026. No macro, syntax, notation, axiom, sorry.
-/
import Derived.Test.YtnkcjemobljpdaaDoorRows
import GoSem.ClaimSeven
namespace Go.Proofs.YtnkcjemobljpdaaDoor
namespace Rows

/-- THE TIED CARD OF 'compradorlaw15.PickLists'. -/
def pickListsCard : Claim7 := { stood := { row := pickListsRow, standIns := [], harness := (true, "d040ee3ec87ee58cf06af9899a062075e47f1f26d909213bf07838b666bf8e21"), looks := false }, kinds := [], alts := [], laidByText := true, laidKinds := [.data, .data, .data, .data, .data, .pinned], laidTests := true, laidLooks := .later }
def PickListsCardSaid : Prop := Claim7.holds Tryd.pinned (.plain (OpenSpec.ofChange pickListsSpec)) pickListsCard

/-- THE TIED CARD OF 'compradorlaw15.PickPuts'. -/
def pickPutsCard : Claim7 := { stood := { row := pickPutsRow, standIns := [], harness := (true, "d040ee3ec87ee58cf06af9899a062075e47f1f26d909213bf07838b666bf8e21"), looks := false }, kinds := [], alts := [], laidByText := true, laidKinds := [.data, .data, .data, .data, .data, .pinned], laidTests := true, laidLooks := .later }
def PickPutsCardSaid : Prop := Claim7.holds Tryd.pinned (.plain (OpenSpec.ofChange pickPutsSpec)) pickPutsCard

/-- THE SECOND FORM's CARD OF 'compradorlaw15.PickLists'. -/
def pickListsUptoCard : Claim7 := { stood := { row := pickListsUptoRow, standIns := [], harness := (true, "d040ee3ec87ee58cf06af9899a062075e47f1f26d909213bf07838b666bf8e21"), looks := false }, kinds := [], alts := [], laidByText := true, laidKinds := [.data, .data, .data, .data, .data, .pinned], laidTests := true, laidLooks := .later }
def PickListsUptoCardSaid : Prop := Claim7.holds Tryd.pinned (.plain (OpenSpec.upto pickListsSpec)) pickListsUptoCard

/-- THE SECOND FORM's CARD OF 'compradorlaw15.PickPuts'. -/
def pickPutsUptoCard : Claim7 := { stood := { row := pickPutsUptoRow, standIns := [], harness := (true, "d040ee3ec87ee58cf06af9899a062075e47f1f26d909213bf07838b666bf8e21"), looks := false }, kinds := [], alts := [], laidByText := true, laidKinds := [.data, .data, .data, .data, .data, .pinned], laidTests := true, laidLooks := .later }
def PickPutsUptoCardSaid : Prop := Claim7.holds Tryd.pinned (.plain (OpenSpec.upto pickPutsSpec)) pickPutsUptoCard
end Rows
end Go.Proofs.YtnkcjemobljpdaaDoor
