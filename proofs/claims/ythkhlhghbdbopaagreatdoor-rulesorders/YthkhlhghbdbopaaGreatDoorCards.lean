/-
  DERIVED. GIVEN WITH THE SEED: THE CARDS: each row of YthkhlhghbdbopaaGreatDoorRows.lean that lists a variable, with what it lists TIED to the program's text (the seventh form; the later family's looks); each row that meets fmt, with fmt's text TOLD by the authors' own Lean function (tested against real Go, not proved from fmt's source: count such statements apart). THE CARD IS WHAT COUNTS. Prove the row's statement (the work); the ties are given (YthkhlhghbdbopaaGreatDoorTie.lean); close each card by the builder's one call (the guide's Derived/Test/ToyasCard.lean, 'card_holds'). Laid BY PROGRAM, IN A SANDBOX (cutbox-door.mjs). By AI agents, Wed Nov 11 2026. No macro, syntax, notation, axiom, sorry.
-/
import Derived.Test.YthkhlhghbdbopaaGreatDoorRows
import GoSem.ClaimSeven
namespace Go.Proofs.YthkhlhghbdbopaaGreatDoor
namespace Rows

/-- THE TIED CARD OF 'milestonelaw05.RulesOrders'. -/
def rulesOrdersCard : Claim7 := { stood := { row := rulesOrdersRow, standIns := [], harness := (true, "b0a315f59fc0743909b682b900e69c82b8ed1172bb6c296d9bcf7b52c07b9d02"), looks := false }, kinds := [], alts := [], laidByText := true, laidKinds := [.data, .data, .data, .data, .pinned], laidTests := true, laidLooks := .later }
def RulesOrdersCardSaid : Prop := Claim7.holds Tryz.pinned (.plain (OpenSpec.ofChange rulesOrdersSpec)) rulesOrdersCard

/-- THE TIED CARD OF 'milestonelaw05.RulesAny'. -/
def rulesAnyCard : Claim7 := { stood := { row := rulesAnyRow, standIns := [], harness := (true, "b0a315f59fc0743909b682b900e69c82b8ed1172bb6c296d9bcf7b52c07b9d02"), looks := false }, kinds := [], alts := [], laidByText := true, laidKinds := [.data, .data, .data, .data, .pinned], laidTests := true, laidLooks := .later }
def RulesAnyCardSaid : Prop := Claim7.holds Tryz.pinned (.plain (OpenSpec.ofChange rulesAnySpec)) rulesAnyCard

/-- THE TIED CARD OF 'milestonelaw05.RulesOwn'. -/
def rulesOwnCard : Claim7 := { stood := { row := rulesOwnRow, standIns := [], harness := (true, "b0a315f59fc0743909b682b900e69c82b8ed1172bb6c296d9bcf7b52c07b9d02"), looks := false }, kinds := [], alts := [], laidByText := true, laidKinds := [.data, .data, .data, .data, .pinned], laidTests := true, laidLooks := .later }
def RulesOwnCardSaid : Prop := Claim7.holds Tryz.pinned (.plain (OpenSpec.ofChange rulesOwnSpec)) rulesOwnCard

/-- THE SECOND FORM's CARD OF 'milestonelaw05.RulesOrders'. -/
def rulesOrdersUptoCard : Claim7 := { stood := { row := rulesOrdersUptoRow, standIns := [], harness := (true, "b0a315f59fc0743909b682b900e69c82b8ed1172bb6c296d9bcf7b52c07b9d02"), looks := false }, kinds := [], alts := [], laidByText := true, laidKinds := [.data, .data, .data, .data, .pinned], laidTests := true, laidLooks := .later }
def RulesOrdersUptoCardSaid : Prop := Claim7.holds Tryz.pinned (.plain (OpenSpec.upto rulesOrdersSpec)) rulesOrdersUptoCard

/-- THE SECOND FORM's CARD OF 'milestonelaw05.RulesAny'. -/
def rulesAnyUptoCard : Claim7 := { stood := { row := rulesAnyUptoRow, standIns := [], harness := (true, "b0a315f59fc0743909b682b900e69c82b8ed1172bb6c296d9bcf7b52c07b9d02"), looks := false }, kinds := [], alts := [], laidByText := true, laidKinds := [.data, .data, .data, .data, .pinned], laidTests := true, laidLooks := .later }
def RulesAnyUptoCardSaid : Prop := Claim7.holds Tryz.pinned (.plain (OpenSpec.upto rulesAnySpec)) rulesAnyUptoCard

/-- THE SECOND FORM's CARD OF 'milestonelaw05.RulesOwn'. -/
def rulesOwnUptoCard : Claim7 := { stood := { row := rulesOwnUptoRow, standIns := [], harness := (true, "b0a315f59fc0743909b682b900e69c82b8ed1172bb6c296d9bcf7b52c07b9d02"), looks := false }, kinds := [], alts := [], laidByText := true, laidKinds := [.data, .data, .data, .data, .pinned], laidTests := true, laidLooks := .later }
def RulesOwnUptoCardSaid : Prop := Claim7.holds Tryz.pinned (.plain (OpenSpec.upto rulesOwnSpec)) rulesOwnUptoCard
end Rows
end Go.Proofs.YthkhlhghbdbopaaGreatDoor
