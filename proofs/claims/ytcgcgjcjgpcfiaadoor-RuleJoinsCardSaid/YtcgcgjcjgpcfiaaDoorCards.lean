/-
  DERIVED. GIVEN WITH THE SEED: THE CARDS: each row of YtcgcgjcjgpcfiaaDoorRows.lean that lists a variable, with what it lists TIED to the program's text (the seventh form; the later family's looks); each row that meets fmt, with fmt's text TOLD by the authors' own Lean function (tested against real Go, not proved from fmt's source: count such statements apart). THE CARD IS WHAT COUNTS. Prove the row's statement (the work); the ties are given (YtcgcgjcjgpcfiaaDoorTie.lean); close each card by the builder's one call (the guide's Derived/Test/ToyasCard.lean, 'card_holds'). Laid BY PROGRAM, IN A SANDBOX (cutbox-door.mjs). By AI agents, Wed Nov 11 2026. No macro, syntax, notation, axiom, sorry.
-/
import Derived.Test.YtcgcgjcjgpcfiaaDoorRows
import GoSem.ClaimSeven
namespace Go.Proofs.YtcgcgjcjgpcfiaaDoor
namespace Rows

/-- THE TIED CARD OF 'compradorlaw07.RuleShows'. -/
def ruleShowsCard : Claim7 := { stood := { row := ruleShowsRow, standIns := [], harness := (true, "06abb94ca93222be86e6239a77550e740e3c65fc70652274f1b385f387e79fb2"), looks := false }, kinds := [], alts := [], laidByText := true, laidKinds := [.data, .data, .data, .data, .data, .pinned], laidTests := true, laidLooks := .later }
def RuleShowsCardSaid : Prop := Claim7.holds Tryd.pinned (.plain (OpenSpec.ofChange ruleShowsSpec)) ruleShowsCard

/-- THE TIED CARD OF 'compradorlaw07.RuleJoins'. -/
def ruleJoinsCard : Claim7 := { stood := { row := ruleJoinsRow, standIns := [], harness := (true, "06abb94ca93222be86e6239a77550e740e3c65fc70652274f1b385f387e79fb2"), looks := false }, kinds := [], alts := [], laidByText := true, laidKinds := [.data, .data, .data, .data, .data, .pinned], laidTests := true, laidLooks := .later }
def RuleJoinsCardSaid : Prop := Claim7.holds Tryd.pinned (.plain (OpenSpec.ofChange ruleJoinsSpec)) ruleJoinsCard

/-- THE SECOND FORM's CARD OF 'compradorlaw07.RuleShows'. -/
def ruleShowsUptoCard : Claim7 := { stood := { row := ruleShowsUptoRow, standIns := [], harness := (true, "06abb94ca93222be86e6239a77550e740e3c65fc70652274f1b385f387e79fb2"), looks := false }, kinds := [], alts := [], laidByText := true, laidKinds := [.data, .data, .data, .data, .data, .pinned], laidTests := true, laidLooks := .later }
def RuleShowsUptoCardSaid : Prop := Claim7.holds Tryd.pinned (.plain (OpenSpec.upto ruleShowsSpec)) ruleShowsUptoCard

/-- THE SECOND FORM's CARD OF 'compradorlaw07.RuleJoins'. -/
def ruleJoinsUptoCard : Claim7 := { stood := { row := ruleJoinsUptoRow, standIns := [], harness := (true, "06abb94ca93222be86e6239a77550e740e3c65fc70652274f1b385f387e79fb2"), looks := false }, kinds := [], alts := [], laidByText := true, laidKinds := [.data, .data, .data, .data, .data, .pinned], laidTests := true, laidLooks := .later }
def RuleJoinsUptoCardSaid : Prop := Claim7.holds Tryd.pinned (.plain (OpenSpec.upto ruleJoinsSpec)) ruleJoinsUptoCard
end Rows
end Go.Proofs.YtcgcgjcjgpcfiaaDoor
