/-
  DERIVED. GIVEN WITH THE SEED: THE CARDS: each row of YteadddocmmkbgabDoorRows.lean that lists a variable, with what it lists TIED to the program's text (the seventh form; the later family's looks); each row that meets fmt, with fmt's text TOLD by the authors' own Lean function (tested against real Go, not proved from fmt's source: count such statements apart). THE CARD IS WHAT COUNTS. Prove the row's statement (the work); the ties are given (YteadddocmmkbgabDoorTie.lean); close each card by the builder's one call (the guide's Derived/Test/ToyasCard.lean, 'card_holds'). Laid BY PROGRAM, IN A SANDBOX (cutbox-door.mjs). By AI agents, Wed Nov 11 2026. No macro, syntax, notation, axiom, sorry.
-/
import Derived.Test.YteadddocmmkbgabDoorRows
import GoSem.ClaimSeven
namespace Go.Proofs.YteadddocmmkbgabDoor
namespace Rows

/-- THE TIED CARD OF 'milestonelaw08.CountsMore'. -/
def countsMoreCard : Claim7 := { stood := { row := countsMoreRow, standIns := [], harness := (true, "a32bc82c66962ffdb8f7b0b5942dbbece6df4e7f7ad7d3ffc50fdd428cd094d7"), looks := false }, kinds := [], alts := [], laidByText := true, laidKinds := [.data, .data, .data], laidTests := true, laidLooks := .later }
def CountsMoreCardSaid : Prop := Claim7.holds Tryd.pinned (.plain (OpenSpec.ofChange countsMoreSpec)) countsMoreCard

/-- THE TIED CARD OF 'milestonelaw08.CountsBack'. -/
def countsBackCard : Claim7 := { stood := { row := countsBackRow, standIns := [], harness := (true, "a32bc82c66962ffdb8f7b0b5942dbbece6df4e7f7ad7d3ffc50fdd428cd094d7"), looks := false }, kinds := [], alts := [], laidByText := true, laidKinds := [.data, .data, .data], laidTests := true, laidLooks := .later }
def CountsBackCardSaid : Prop := Claim7.holds Tryd.pinned (.plain (OpenSpec.ofChange countsBackSpec)) countsBackCard

/-- THE SECOND FORM's CARD OF 'milestonelaw08.CountsMore'. -/
def countsMoreUptoCard : Claim7 := { stood := { row := countsMoreUptoRow, standIns := [], harness := (true, "a32bc82c66962ffdb8f7b0b5942dbbece6df4e7f7ad7d3ffc50fdd428cd094d7"), looks := false }, kinds := [], alts := [], laidByText := true, laidKinds := [.data, .data, .data], laidTests := true, laidLooks := .later }
def CountsMoreUptoCardSaid : Prop := Claim7.holds Tryd.pinned (.plain (OpenSpec.upto countsMoreSpec)) countsMoreUptoCard

/-- THE SECOND FORM's CARD OF 'milestonelaw08.CountsBack'. -/
def countsBackUptoCard : Claim7 := { stood := { row := countsBackUptoRow, standIns := [], harness := (true, "a32bc82c66962ffdb8f7b0b5942dbbece6df4e7f7ad7d3ffc50fdd428cd094d7"), looks := false }, kinds := [], alts := [], laidByText := true, laidKinds := [.data, .data, .data], laidTests := true, laidLooks := .later }
def CountsBackUptoCardSaid : Prop := Claim7.holds Tryd.pinned (.plain (OpenSpec.upto countsBackSpec)) countsBackUptoCard
end Rows
end Go.Proofs.YteadddocmmkbgabDoor
