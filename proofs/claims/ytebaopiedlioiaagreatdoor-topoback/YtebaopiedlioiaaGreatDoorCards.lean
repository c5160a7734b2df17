/-
  DERIVED. GIVEN WITH THE SEED: THE CARDS: each row of YtebaopiedlioiaaGreatDoorRows.lean that lists a variable, with what it lists TIED to the program's text (the seventh form; the later family's looks); each row that meets fmt, with fmt's text TOLD by the authors' own Lean function (tested against real Go, not proved from fmt's source: count such statements apart). THE CARD IS WHAT COUNTS. Prove the row's statement (the work); the ties are given (YtebaopiedlioiaaGreatDoorTie.lean); close each card by the builder's one call (the guide's Derived/Test/ToyasCard.lean, 'card_holds'). Laid BY PROGRAM, IN A SANDBOX (cutbox-door.mjs). By AI agents, Wed Nov 11 2026. No macro, syntax, notation, axiom, sorry.
-/
import Derived.Test.YtebaopiedlioiaaGreatDoorRows
import GoSem.ClaimSeven
namespace Go.Proofs.YtebaopiedlioiaaGreatDoor
namespace Rows

/-- THE TIED CARD OF 'milestonelaw11.TopoParses'. -/
def topoParsesCard : Claim7 := { stood := { row := topoParsesRow, standIns := [], harness := (true, "0620ee3e491877ded258c3de5b83ee95dbbb9082b4e3ac5f8d4f2dfacaa3ec88"), looks := false }, kinds := [], alts := [], laidByText := true, laidKinds := [.data, .pinned], laidTests := true, laidLooks := .later }
def TopoParsesCardSaid : Prop := Claim7.holds Tryz.pinned (.plain (OpenSpec.ofChange topoParsesSpec)) topoParsesCard

/-- THE TIED CARD OF 'milestonelaw11.TopoPrints'. -/
def topoPrintsCard : Claim7 := { stood := { row := topoPrintsRow, standIns := [], harness := (true, "0620ee3e491877ded258c3de5b83ee95dbbb9082b4e3ac5f8d4f2dfacaa3ec88"), looks := false }, kinds := [], alts := [], laidByText := true, laidKinds := [.data, .data, .data, .data, .pinned], laidTests := true, laidLooks := .later }
def TopoPrintsCardSaid : Prop := Claim7.holds Tryz.pinned (.plain (OpenSpec.ofChange topoPrintsSpec)) topoPrintsCard

/-- THE TIED CARD OF 'milestonelaw11.TopoBack'. -/
def topoBackCard : Claim7 := { stood := { row := topoBackRow, standIns := [], harness := (true, "0620ee3e491877ded258c3de5b83ee95dbbb9082b4e3ac5f8d4f2dfacaa3ec88"), looks := false }, kinds := [], alts := [], laidByText := true, laidKinds := [.data, .data, .data, .data, .pinned], laidTests := true, laidLooks := .later }
def TopoBackCardSaid : Prop := Claim7.holds Tryz.pinned (.plain (OpenSpec.ofChange topoBackSpec)) topoBackCard

/-- THE TIED CARD OF 'milestonelaw11.TopoAsks'. -/
def topoAsksCard : Claim7 := { stood := { row := topoAsksRow, standIns := [], harness := (true, "0620ee3e491877ded258c3de5b83ee95dbbb9082b4e3ac5f8d4f2dfacaa3ec88"), looks := false }, kinds := [], alts := [], laidByText := true, laidKinds := [.data, .pinned], laidTests := true, laidLooks := .later }
def TopoAsksCardSaid : Prop := Claim7.holds Tryz.pinned (.plain (OpenSpec.ofChange topoAsksSpec)) topoAsksCard

/-- THE TIED CARD OF 'milestonelaw11.TopoEnds'. -/
def topoEndsCard : Claim7 := { stood := { row := topoEndsRow, standIns := [], harness := (true, "0620ee3e491877ded258c3de5b83ee95dbbb9082b4e3ac5f8d4f2dfacaa3ec88"), looks := false }, kinds := [], alts := [], laidByText := true, laidKinds := [.data, .pinned], laidTests := true, laidLooks := .later }
def TopoEndsCardSaid : Prop := Claim7.holds Tryz.pinned (.plain (OpenSpec.ofChange topoEndsSpec)) topoEndsCard

/-- THE TIED CARD OF 'milestonelaw11.TopoOwn'. -/
def topoOwnCard : Claim7 := { stood := { row := topoOwnRow, standIns := [], harness := (true, "0620ee3e491877ded258c3de5b83ee95dbbb9082b4e3ac5f8d4f2dfacaa3ec88"), looks := false }, kinds := [], alts := [], laidByText := true, laidKinds := [.data, .pinned], laidTests := true, laidLooks := .later }
def TopoOwnCardSaid : Prop := Claim7.holds Tryz.pinned (.plain (OpenSpec.ofChange topoOwnSpec)) topoOwnCard

/-- THE SECOND FORM's CARD OF 'milestonelaw11.TopoParses'. -/
def topoParsesUptoCard : Claim7 := { stood := { row := topoParsesUptoRow, standIns := [], harness := (true, "0620ee3e491877ded258c3de5b83ee95dbbb9082b4e3ac5f8d4f2dfacaa3ec88"), looks := false }, kinds := [], alts := [], laidByText := true, laidKinds := [.data, .pinned], laidTests := true, laidLooks := .later }
def TopoParsesUptoCardSaid : Prop := Claim7.holds Tryz.pinned (.plain (OpenSpec.upto topoParsesSpec)) topoParsesUptoCard

/-- THE SECOND FORM's CARD OF 'milestonelaw11.TopoPrints'. -/
def topoPrintsUptoCard : Claim7 := { stood := { row := topoPrintsUptoRow, standIns := [], harness := (true, "0620ee3e491877ded258c3de5b83ee95dbbb9082b4e3ac5f8d4f2dfacaa3ec88"), looks := false }, kinds := [], alts := [], laidByText := true, laidKinds := [.data, .data, .data, .data, .pinned], laidTests := true, laidLooks := .later }
def TopoPrintsUptoCardSaid : Prop := Claim7.holds Tryz.pinned (.plain (OpenSpec.upto topoPrintsSpec)) topoPrintsUptoCard

/-- THE SECOND FORM's CARD OF 'milestonelaw11.TopoBack'. -/
def topoBackUptoCard : Claim7 := { stood := { row := topoBackUptoRow, standIns := [], harness := (true, "0620ee3e491877ded258c3de5b83ee95dbbb9082b4e3ac5f8d4f2dfacaa3ec88"), looks := false }, kinds := [], alts := [], laidByText := true, laidKinds := [.data, .data, .data, .data, .pinned], laidTests := true, laidLooks := .later }
def TopoBackUptoCardSaid : Prop := Claim7.holds Tryz.pinned (.plain (OpenSpec.upto topoBackSpec)) topoBackUptoCard

/-- THE SECOND FORM's CARD OF 'milestonelaw11.TopoAsks'. -/
def topoAsksUptoCard : Claim7 := { stood := { row := topoAsksUptoRow, standIns := [], harness := (true, "0620ee3e491877ded258c3de5b83ee95dbbb9082b4e3ac5f8d4f2dfacaa3ec88"), looks := false }, kinds := [], alts := [], laidByText := true, laidKinds := [.data, .pinned], laidTests := true, laidLooks := .later }
def TopoAsksUptoCardSaid : Prop := Claim7.holds Tryz.pinned (.plain (OpenSpec.upto topoAsksSpec)) topoAsksUptoCard

/-- THE SECOND FORM's CARD OF 'milestonelaw11.TopoEnds'. -/
def topoEndsUptoCard : Claim7 := { stood := { row := topoEndsUptoRow, standIns := [], harness := (true, "0620ee3e491877ded258c3de5b83ee95dbbb9082b4e3ac5f8d4f2dfacaa3ec88"), looks := false }, kinds := [], alts := [], laidByText := true, laidKinds := [.data, .pinned], laidTests := true, laidLooks := .later }
def TopoEndsUptoCardSaid : Prop := Claim7.holds Tryz.pinned (.plain (OpenSpec.upto topoEndsSpec)) topoEndsUptoCard

/-- THE SECOND FORM's CARD OF 'milestonelaw11.TopoOwn'. -/
def topoOwnUptoCard : Claim7 := { stood := { row := topoOwnUptoRow, standIns := [], harness := (true, "0620ee3e491877ded258c3de5b83ee95dbbb9082b4e3ac5f8d4f2dfacaa3ec88"), looks := false }, kinds := [], alts := [], laidByText := true, laidKinds := [.data, .pinned], laidTests := true, laidLooks := .later }
def TopoOwnUptoCardSaid : Prop := Claim7.holds Tryz.pinned (.plain (OpenSpec.upto topoOwnSpec)) topoOwnUptoCard
end Rows
end Go.Proofs.YtebaopiedlioiaaGreatDoor
