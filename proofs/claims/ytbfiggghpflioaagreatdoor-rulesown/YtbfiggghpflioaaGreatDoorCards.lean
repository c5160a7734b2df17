/-
  DERIVED. GIVEN WITH THE SEED: THE CARDS: each row of YtbfiggghpflioaaGreatDoorRows.lean that lists a variable, with what it lists TIED to the program's text (the seventh form; the later family's looks); each row that meets fmt, with fmt's text TOLD by the authors' own Lean function (tested against real Go, not proved from fmt's source: count such statements apart). THE CARD IS WHAT COUNTS. Prove the row's statement (the work); the ties are given (YtbfiggghpflioaaGreatDoorTie.lean); close each card by the builder's one call (the guide's Derived/Test/ToyasCard.lean, 'card_holds'). Laid BY PROGRAM, IN A SANDBOX (cutbox-door.mjs). By AI agents, Wed Nov 11 2026. No macro, syntax, notation, axiom, sorry.
-/
import Derived.Test.YtbfiggghpflioaaGreatDoorRows
import GoSem.ClaimSeven
namespace Go.Proofs.YtbfiggghpflioaaGreatDoor
namespace Rows

/-- THE TIED CARD OF 'milestonelaw05.RulesOwn'. -/
def rulesOwnCard : Claim7 := { stood := { row := rulesOwnRow, standIns := [], harness := (true, "b24efe9a34ea17b0dc790b5720145e5ad4100e736bf4d94688251970beb0bf8b"), looks := false }, kinds := [], alts := [], laidByText := true, laidKinds := [.data, .data, .data, .data, .pinned], laidTests := true, laidLooks := .later }
def RulesOwnCardSaid : Prop := Claim7.holds Tryz.pinned (.plain (OpenSpec.ofChange rulesOwnSpec)) rulesOwnCard

/-- THE TIED CARD OF 'milestonelaw06.FibNobody'. -/
def fibNobodyCard : Claim7 := { stood := { row := fibNobodyRow, standIns := [], harness := (true, "b24efe9a34ea17b0dc790b5720145e5ad4100e736bf4d94688251970beb0bf8b"), looks := false }, kinds := [], alts := [], laidByText := true, laidKinds := [.data, .data, .data, .data, .pinned], laidTests := true, laidLooks := .later }
def FibNobodyCardSaid : Prop := Claim7.holds Tryz.pinned (.plain (OpenSpec.ofChange fibNobodySpec)) fibNobodyCard

/-- THE TIED CARD OF 'milestonelaw06.FibTexts'. -/
def fibTextsCard : Claim7 := { stood := { row := fibTextsRow, standIns := [], harness := (true, "b24efe9a34ea17b0dc790b5720145e5ad4100e736bf4d94688251970beb0bf8b"), looks := false }, kinds := [], alts := [], laidByText := true, laidKinds := [.data, .data, .data, .data, .pinned], laidTests := true, laidLooks := .later }
def FibTextsCardSaid : Prop := Claim7.holds Tryz.pinned (.plain (OpenSpec.ofChange fibTextsSpec)) fibTextsCard

/-- THE SECOND FORM's CARD OF 'milestonelaw05.RulesOwn'. -/
def rulesOwnUptoCard : Claim7 := { stood := { row := rulesOwnUptoRow, standIns := [], harness := (true, "b24efe9a34ea17b0dc790b5720145e5ad4100e736bf4d94688251970beb0bf8b"), looks := false }, kinds := [], alts := [], laidByText := true, laidKinds := [.data, .data, .data, .data, .pinned], laidTests := true, laidLooks := .later }
def RulesOwnUptoCardSaid : Prop := Claim7.holds Tryz.pinned (.plain (OpenSpec.upto rulesOwnSpec)) rulesOwnUptoCard

/-- THE SECOND FORM's CARD OF 'milestonelaw06.FibNobody'. -/
def fibNobodyUptoCard : Claim7 := { stood := { row := fibNobodyUptoRow, standIns := [], harness := (true, "b24efe9a34ea17b0dc790b5720145e5ad4100e736bf4d94688251970beb0bf8b"), looks := false }, kinds := [], alts := [], laidByText := true, laidKinds := [.data, .data, .data, .data, .pinned], laidTests := true, laidLooks := .later }
def FibNobodyUptoCardSaid : Prop := Claim7.holds Tryz.pinned (.plain (OpenSpec.upto fibNobodySpec)) fibNobodyUptoCard

/-- THE SECOND FORM's CARD OF 'milestonelaw06.FibTexts'. -/
def fibTextsUptoCard : Claim7 := { stood := { row := fibTextsUptoRow, standIns := [], harness := (true, "b24efe9a34ea17b0dc790b5720145e5ad4100e736bf4d94688251970beb0bf8b"), looks := false }, kinds := [], alts := [], laidByText := true, laidKinds := [.data, .data, .data, .data, .pinned], laidTests := true, laidLooks := .later }
def FibTextsUptoCardSaid : Prop := Claim7.holds Tryz.pinned (.plain (OpenSpec.upto fibTextsSpec)) fibTextsUptoCard
end Rows
end Go.Proofs.YtbfiggghpflioaaGreatDoor
