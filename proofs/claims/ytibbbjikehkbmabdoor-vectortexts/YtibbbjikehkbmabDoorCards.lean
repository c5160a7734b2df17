/-
  DERIVED. GIVEN WITH THE SEED: THE CARDS: each row of YtibbbjikehkbmabDoorRows.lean that lists a variable, with what it lists TIED to the program's text (the seventh form; the later family's looks); each row that meets fmt, with fmt's text TOLD by the authors' own Lean function (tested against real Go, not proved from fmt's source: count such statements apart). THE CARD IS WHAT COUNTS. Prove the row's statement (the work); the ties are given (YtibbbjikehkbmabDoorTie.lean); close each card by the builder's one call (the guide's Derived/Test/ToyasCard.lean, 'card_holds'). Laid BY PROGRAM, IN A SANDBOX (cutbox-door.mjs). By AI agents, Wed Nov 11 2026. No macro, syntax, notation, axiom, sorry.
-/
import Derived.Test.YtibbbjikehkbmabDoorRows
import GoSem.ClaimSeven
namespace Go.Proofs.YtibbbjikehkbmabDoor
namespace Rows

/-- THE TIED CARD OF 'milestonelaw16.VectorOwn'. -/
def vectorOwnCard : Claim7 := { stood := { row := vectorOwnRow, standIns := [], harness := (true, "5e9ae0690197c78e296f56478f174566fe655fc2c4ebda5f6382cf85d0ee08bc"), looks := true }, kinds := [], alts := [], laidByText := true, laidKinds := [.data, .data, .data], laidTests := true, laidLooks := .later }
def VectorOwnCardSaid : Prop := Claim7.holds Tryd.pinned (.plain (OpenSpec.ofChange vectorOwnSpec)) vectorOwnCard

/-- THE TIED CARD OF 'milestonelaw16.VectorTexts'. -/
def vectorTextsCard : Claim7 := { stood := { row := vectorTextsRow, standIns := [], harness := (true, "5e9ae0690197c78e296f56478f174566fe655fc2c4ebda5f6382cf85d0ee08bc"), looks := true }, kinds := [], alts := [], laidByText := true, laidKinds := [.data, .data, .data, .data, .sentinel, .sentinel, .pinned], laidTests := true, laidLooks := .later }
def VectorTextsCardSaid : Prop := Claim7.holds Tryd.pinned (.plain (OpenSpec.ofChange vectorTextsSpec)) vectorTextsCard

/-- THE SECOND FORM's CARD OF 'milestonelaw16.VectorOwn'. -/
def vectorOwnUptoCard : Claim7 := { stood := { row := vectorOwnUptoRow, standIns := [], harness := (true, "5e9ae0690197c78e296f56478f174566fe655fc2c4ebda5f6382cf85d0ee08bc"), looks := true }, kinds := [], alts := [], laidByText := true, laidKinds := [.data, .data, .data], laidTests := true, laidLooks := .later }
def VectorOwnUptoCardSaid : Prop := Claim7.holds Tryd.pinned (.plain (OpenSpec.upto vectorOwnSpec)) vectorOwnUptoCard

/-- THE SECOND FORM's CARD OF 'milestonelaw16.VectorTexts'. -/
def vectorTextsUptoCard : Claim7 := { stood := { row := vectorTextsUptoRow, standIns := [], harness := (true, "5e9ae0690197c78e296f56478f174566fe655fc2c4ebda5f6382cf85d0ee08bc"), looks := true }, kinds := [], alts := [], laidByText := true, laidKinds := [.data, .data, .data, .data, .sentinel, .sentinel, .pinned], laidTests := true, laidLooks := .later }
def VectorTextsUptoCardSaid : Prop := Claim7.holds Tryd.pinned (.plain (OpenSpec.upto vectorTextsSpec)) vectorTextsUptoCard
end Rows
end Go.Proofs.YtibbbjikehkbmabDoor
