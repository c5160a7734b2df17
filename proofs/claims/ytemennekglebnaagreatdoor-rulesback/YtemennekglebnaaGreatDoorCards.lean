/-
  DERIVED. GIVEN WITH THE SEED: THE CARDS: each row of YtemennekglebnaaGreatDoorRows.lean that lists a variable, with what it lists TIED to the program's text (the seventh form; the later family's looks); each row that meets fmt, with fmt's text TOLD by the authors' own Lean function (tested against real Go, not proved from fmt's source: count such statements apart). THE CARD IS WHAT COUNTS. Prove the row's statement (the work); the ties are given (YtemennekglebnaaGreatDoorTie.lean); close each card by the builder's one call (the guide's Derived/Test/ToyasCard.lean, 'card_holds'). Laid BY PROGRAM, IN A SANDBOX (cutbox-door.mjs). By AI agents, Wed Nov 11 2026. No macro, syntax, notation, axiom, sorry.
-/
import Derived.Test.YtemennekglebnaaGreatDoorRows
import GoSem.ClaimSeven
namespace Go.Proofs.YtemennekglebnaaGreatDoor
namespace Rows

/-- THE TIED CARD OF 'milestonelaw05.RulesParses'. -/
def rulesParsesCard : Claim7 := { stood := { row := rulesParsesRow, standIns := [], harness := (true, "72cc126ce22dfc5087d9d3a8775d7a4f82fe8740ba2e534473fa7873a8572b22"), looks := false }, kinds := [], alts := [], laidByText := true, laidKinds := [.data, .data, .data, .data, .pinned], laidTests := true, laidLooks := .later }
def RulesParsesCardSaid : Prop := Claim7.holds Tryz.pinned (.plain (OpenSpec.ofChange rulesParsesSpec)) rulesParsesCard

/-- THE TIED CARD OF 'milestonelaw05.RulesBack'. -/
def rulesBackCard : Claim7 := { stood := { row := rulesBackRow, standIns := [], harness := (true, "72cc126ce22dfc5087d9d3a8775d7a4f82fe8740ba2e534473fa7873a8572b22"), looks := false }, kinds := [], alts := [], laidByText := true, laidKinds := [.data, .data, .data, .data, .pinned], laidTests := true, laidLooks := .later }
def RulesBackCardSaid : Prop := Claim7.holds Tryz.pinned (.plain (OpenSpec.ofChange rulesBackSpec)) rulesBackCard

/-- THE TIED CARD OF 'milestonelaw05.RulesOrders'. -/
def rulesOrdersCard : Claim7 := { stood := { row := rulesOrdersRow, standIns := [], harness := (true, "72cc126ce22dfc5087d9d3a8775d7a4f82fe8740ba2e534473fa7873a8572b22"), looks := false }, kinds := [], alts := [], laidByText := true, laidKinds := [.data, .data, .data, .data, .pinned], laidTests := true, laidLooks := .later }
def RulesOrdersCardSaid : Prop := Claim7.holds Tryz.pinned (.plain (OpenSpec.ofChange rulesOrdersSpec)) rulesOrdersCard

/-- THE TIED CARD OF 'milestonelaw05.RulesAny'. -/
def rulesAnyCard : Claim7 := { stood := { row := rulesAnyRow, standIns := [], harness := (true, "72cc126ce22dfc5087d9d3a8775d7a4f82fe8740ba2e534473fa7873a8572b22"), looks := false }, kinds := [], alts := [], laidByText := true, laidKinds := [.data, .data, .data, .data, .pinned], laidTests := true, laidLooks := .later }
def RulesAnyCardSaid : Prop := Claim7.holds Tryz.pinned (.plain (OpenSpec.ofChange rulesAnySpec)) rulesAnyCard

/-- THE TIED CARD OF 'milestonelaw05.RulesOwn'. -/
def rulesOwnCard : Claim7 := { stood := { row := rulesOwnRow, standIns := [], harness := (true, "72cc126ce22dfc5087d9d3a8775d7a4f82fe8740ba2e534473fa7873a8572b22"), looks := false }, kinds := [], alts := [], laidByText := true, laidKinds := [.data, .data, .data, .data, .pinned], laidTests := true, laidLooks := .later }
def RulesOwnCardSaid : Prop := Claim7.holds Tryz.pinned (.plain (OpenSpec.ofChange rulesOwnSpec)) rulesOwnCard

/-- THE SECOND FORM's CARD OF 'milestonelaw05.RulesParses'. -/
def rulesParsesUptoCard : Claim7 := { stood := { row := rulesParsesUptoRow, standIns := [], harness := (true, "72cc126ce22dfc5087d9d3a8775d7a4f82fe8740ba2e534473fa7873a8572b22"), looks := false }, kinds := [], alts := [], laidByText := true, laidKinds := [.data, .data, .data, .data, .pinned], laidTests := true, laidLooks := .later }
def RulesParsesUptoCardSaid : Prop := Claim7.holds Tryz.pinned (.plain (OpenSpec.upto rulesParsesSpec)) rulesParsesUptoCard

/-- THE SECOND FORM's CARD OF 'milestonelaw05.RulesBack'. -/
def rulesBackUptoCard : Claim7 := { stood := { row := rulesBackUptoRow, standIns := [], harness := (true, "72cc126ce22dfc5087d9d3a8775d7a4f82fe8740ba2e534473fa7873a8572b22"), looks := false }, kinds := [], alts := [], laidByText := true, laidKinds := [.data, .data, .data, .data, .pinned], laidTests := true, laidLooks := .later }
def RulesBackUptoCardSaid : Prop := Claim7.holds Tryz.pinned (.plain (OpenSpec.upto rulesBackSpec)) rulesBackUptoCard

/-- THE SECOND FORM's CARD OF 'milestonelaw05.RulesOrders'. -/
def rulesOrdersUptoCard : Claim7 := { stood := { row := rulesOrdersUptoRow, standIns := [], harness := (true, "72cc126ce22dfc5087d9d3a8775d7a4f82fe8740ba2e534473fa7873a8572b22"), looks := false }, kinds := [], alts := [], laidByText := true, laidKinds := [.data, .data, .data, .data, .pinned], laidTests := true, laidLooks := .later }
def RulesOrdersUptoCardSaid : Prop := Claim7.holds Tryz.pinned (.plain (OpenSpec.upto rulesOrdersSpec)) rulesOrdersUptoCard

/-- THE SECOND FORM's CARD OF 'milestonelaw05.RulesAny'. -/
def rulesAnyUptoCard : Claim7 := { stood := { row := rulesAnyUptoRow, standIns := [], harness := (true, "72cc126ce22dfc5087d9d3a8775d7a4f82fe8740ba2e534473fa7873a8572b22"), looks := false }, kinds := [], alts := [], laidByText := true, laidKinds := [.data, .data, .data, .data, .pinned], laidTests := true, laidLooks := .later }
def RulesAnyUptoCardSaid : Prop := Claim7.holds Tryz.pinned (.plain (OpenSpec.upto rulesAnySpec)) rulesAnyUptoCard

/-- THE SECOND FORM's CARD OF 'milestonelaw05.RulesOwn'. -/
def rulesOwnUptoCard : Claim7 := { stood := { row := rulesOwnUptoRow, standIns := [], harness := (true, "72cc126ce22dfc5087d9d3a8775d7a4f82fe8740ba2e534473fa7873a8572b22"), looks := false }, kinds := [], alts := [], laidByText := true, laidKinds := [.data, .data, .data, .data, .pinned], laidTests := true, laidLooks := .later }
def RulesOwnUptoCardSaid : Prop := Claim7.holds Tryz.pinned (.plain (OpenSpec.upto rulesOwnSpec)) rulesOwnUptoCard
end Rows
end Go.Proofs.YtemennekglebnaaGreatDoor
