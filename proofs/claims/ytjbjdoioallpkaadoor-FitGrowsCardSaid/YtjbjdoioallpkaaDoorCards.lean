/-
  DERIVED. GIVEN WITH THE SEED: THE CARDS: each row of YtjbjdoioallpkaaDoorRows.lean that lists a variable, with what it lists TIED to the program's text (the seventh form; the later family's looks); each row that meets fmt, with fmt's text TOLD by the authors' own Lean function (tested against real Go, not proved from fmt's source: count such statements apart). THE CARD IS WHAT COUNTS. Prove the row's statement (the work); the ties are given (YtjbjdoioallpkaaDoorTie.lean); close each card by the builder's one call (the guide's Derived/Test/ToyasCard.lean, 'card_holds'). Laid BY PROGRAM, IN A SANDBOX (cutbox-door.mjs). By AI agents, Wed Nov 11 2026. No macro, syntax, notation, axiom, sorry.
-/
import Derived.Test.YtjbjdoioallpkaaDoorRows
import GoSem.ClaimSeven
namespace Go.Proofs.YtjbjdoioallpkaaDoor
namespace Rows

/-- THE TIED CARD OF 'compradorlaw16.FitGrows'. -/
def fitGrowsCard : Claim7 := { stood := { row := fitGrowsRow, standIns := [], harness := (true, "c4d90df54267f053cb20cc197a67b2f34003c966fcf7b636a3e73bf9471322fa"), looks := true }, kinds := [], alts := [], laidByText := true, laidKinds := [.data], laidTests := true, laidLooks := .later }
def FitGrowsCardSaid : Prop := Claim7.holds Tryd.pinned (.plain (OpenSpec.ofChange fitGrowsSpec)) fitGrowsCard

/-- THE SECOND FORM's CARD OF 'compradorlaw16.FitGrows'. -/
def fitGrowsUptoCard : Claim7 := { stood := { row := fitGrowsUptoRow, standIns := [], harness := (true, "c4d90df54267f053cb20cc197a67b2f34003c966fcf7b636a3e73bf9471322fa"), looks := true }, kinds := [], alts := [], laidByText := true, laidKinds := [.data], laidTests := true, laidLooks := .later }
def FitGrowsUptoCardSaid : Prop := Claim7.holds Tryd.pinned (.plain (OpenSpec.upto fitGrowsSpec)) fitGrowsUptoCard
end Rows
end Go.Proofs.YtjbjdoioallpkaaDoor
