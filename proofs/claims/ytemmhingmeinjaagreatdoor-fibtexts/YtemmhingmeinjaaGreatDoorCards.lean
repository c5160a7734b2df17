/-
  DERIVED. GIVEN WITH THE SEED: THE CARDS: each row of YtemmhingmeinjaaGreatDoorRows.lean that lists a variable, with what it lists TIED to the program's text (the seventh form; the later family's looks); each row that meets fmt, with fmt's text TOLD by the authors' own Lean function (tested against real Go, not proved from fmt's source: count such statements apart). THE CARD IS WHAT COUNTS. Prove the row's statement (the work); the ties are given (YtemmhingmeinjaaGreatDoorTie.lean); close each card by the builder's one call (the guide's Derived/Test/ToyasCard.lean, 'card_holds'). Laid BY PROGRAM, IN A SANDBOX (cutbox-door.mjs). By AI agents, Wed Nov 11 2026. No macro, syntax, notation, axiom, sorry.
-/
import Derived.Test.YtemmhingmeinjaaGreatDoorRows
import GoSem.ClaimSeven
namespace Go.Proofs.YtemmhingmeinjaaGreatDoor
namespace Rows

/-- THE TIED CARD OF 'milestonelaw06.FibTexts'. -/
def fibTextsCard : Claim7 := { stood := { row := fibTextsRow, standIns := [], harness := (true, "f412e5d3b2d05879442934005c5246ba11ed52312775940f176f965e8112a0c3"), looks := false }, kinds := [], alts := [], laidByText := true, laidKinds := [.data, .data, .data, .data, .pinned], laidTests := true, laidLooks := .later }
def FibTextsCardSaid : Prop := Claim7.holds Tryz.pinned (.plain (OpenSpec.ofChange fibTextsSpec)) fibTextsCard

/-- THE SECOND FORM's CARD OF 'milestonelaw06.FibTexts'. -/
def fibTextsUptoCard : Claim7 := { stood := { row := fibTextsUptoRow, standIns := [], harness := (true, "f412e5d3b2d05879442934005c5246ba11ed52312775940f176f965e8112a0c3"), looks := false }, kinds := [], alts := [], laidByText := true, laidKinds := [.data, .data, .data, .data, .pinned], laidTests := true, laidLooks := .later }
def FibTextsUptoCardSaid : Prop := Claim7.holds Tryz.pinned (.plain (OpenSpec.upto fibTextsSpec)) fibTextsUptoCard
end Rows
end Go.Proofs.YtemmhingmeinjaaGreatDoor
