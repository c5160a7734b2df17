/-
  DERIVED. GIVEN WITH THE SEED: THE CARDS: each row of YtagppgncanimaaaGreatDoorRows.lean that lists a variable, with what it lists TIED to the program's text (the seventh form; the later family's looks); each row that meets fmt, with fmt's text TOLD by the authors' own Lean function (tested against real Go, not proved from fmt's source: count such statements apart). THE CARD IS WHAT COUNTS. Prove the row's statement (the work); the ties are given (YtagppgncanimaaaGreatDoorTie.lean); close each card by the builder's one call (the guide's Derived/Test/ToyasCard.lean, 'card_holds'). Laid BY PROGRAM, IN A SANDBOX (cutbox-door.mjs). By AI agents, Wed Nov 11 2026. No macro, syntax, notation, axiom, sorry.
-/
import Derived.Test.YtagppgncanimaaaGreatDoorRows
import GoSem.ClaimSeven
namespace Go.Proofs.YtagppgncanimaaaGreatDoor
namespace Rows

/-- THE TIED CARD OF 'milestonelaw09.RegexPrints'. -/
def regexPrintsCard : Claim7 := { stood := { row := regexPrintsRow, standIns := [], harness := (true, "a6601d23f094c93534be1edba3855d570ddf2a0c27ea29f2c4f01eecda35024c"), looks := false }, kinds := [], alts := [], laidByText := true, laidKinds := [.data, .pinned], laidTests := true, laidLooks := .later }
def RegexPrintsCardSaid : Prop := Claim7.holds Tryz.pinned (.plain (OpenSpec.ofChange regexPrintsSpec)) regexPrintsCard

/-- THE TIED CARD OF 'milestonelaw09.RegexBack'. -/
def regexBackCard : Claim7 := { stood := { row := regexBackRow, standIns := [], harness := (true, "a6601d23f094c93534be1edba3855d570ddf2a0c27ea29f2c4f01eecda35024c"), looks := false }, kinds := [], alts := [], laidByText := true, laidKinds := [.data, .pinned], laidTests := true, laidLooks := .later }
def RegexBackCardSaid : Prop := Claim7.holds Tryz.pinned (.plain (OpenSpec.ofChange regexBackSpec)) regexBackCard

/-- THE TIED CARD OF 'milestonelaw09.RegexMatches'. -/
def regexMatchesCard : Claim7 := { stood := { row := regexMatchesRow, standIns := [], harness := (true, "a6601d23f094c93534be1edba3855d570ddf2a0c27ea29f2c4f01eecda35024c"), looks := false }, kinds := [], alts := [], laidByText := true, laidKinds := [.data, .pinned], laidTests := true, laidLooks := .later }
def RegexMatchesCardSaid : Prop := Claim7.holds Tryz.pinned (.plain (OpenSpec.ofChange regexMatchesSpec)) regexMatchesCard

/-- THE TIED CARD OF 'milestonelaw09.RegexMeans'. -/
def regexMeansCard : Claim7 := { stood := { row := regexMeansRow, standIns := [], harness := (true, "a6601d23f094c93534be1edba3855d570ddf2a0c27ea29f2c4f01eecda35024c"), looks := false }, kinds := [], alts := [], laidByText := true, laidKinds := [.data, .pinned], laidTests := true, laidLooks := .later }
def RegexMeansCardSaid : Prop := Claim7.holds Tryz.pinned (.plain (OpenSpec.ofChange regexMeansSpec)) regexMeansCard

/-- THE TIED CARD OF 'milestonelaw09.RegexSame'. -/
def regexSameCard : Claim7 := { stood := { row := regexSameRow, standIns := [], harness := (true, "a6601d23f094c93534be1edba3855d570ddf2a0c27ea29f2c4f01eecda35024c"), looks := false }, kinds := [], alts := [], laidByText := true, laidKinds := [.data, .pinned], laidTests := true, laidLooks := .later }
def RegexSameCardSaid : Prop := Claim7.holds Tryz.pinned (.plain (OpenSpec.ofChange regexSameSpec)) regexSameCard

/-- THE SECOND FORM's CARD OF 'milestonelaw09.RegexPrints'. -/
def regexPrintsUptoCard : Claim7 := { stood := { row := regexPrintsUptoRow, standIns := [], harness := (true, "a6601d23f094c93534be1edba3855d570ddf2a0c27ea29f2c4f01eecda35024c"), looks := false }, kinds := [], alts := [], laidByText := true, laidKinds := [.data, .pinned], laidTests := true, laidLooks := .later }
def RegexPrintsUptoCardSaid : Prop := Claim7.holds Tryz.pinned (.plain (OpenSpec.upto regexPrintsSpec)) regexPrintsUptoCard

/-- THE SECOND FORM's CARD OF 'milestonelaw09.RegexBack'. -/
def regexBackUptoCard : Claim7 := { stood := { row := regexBackUptoRow, standIns := [], harness := (true, "a6601d23f094c93534be1edba3855d570ddf2a0c27ea29f2c4f01eecda35024c"), looks := false }, kinds := [], alts := [], laidByText := true, laidKinds := [.data, .pinned], laidTests := true, laidLooks := .later }
def RegexBackUptoCardSaid : Prop := Claim7.holds Tryz.pinned (.plain (OpenSpec.upto regexBackSpec)) regexBackUptoCard

/-- THE SECOND FORM's CARD OF 'milestonelaw09.RegexMatches'. -/
def regexMatchesUptoCard : Claim7 := { stood := { row := regexMatchesUptoRow, standIns := [], harness := (true, "a6601d23f094c93534be1edba3855d570ddf2a0c27ea29f2c4f01eecda35024c"), looks := false }, kinds := [], alts := [], laidByText := true, laidKinds := [.data, .pinned], laidTests := true, laidLooks := .later }
def RegexMatchesUptoCardSaid : Prop := Claim7.holds Tryz.pinned (.plain (OpenSpec.upto regexMatchesSpec)) regexMatchesUptoCard

/-- THE SECOND FORM's CARD OF 'milestonelaw09.RegexMeans'. -/
def regexMeansUptoCard : Claim7 := { stood := { row := regexMeansUptoRow, standIns := [], harness := (true, "a6601d23f094c93534be1edba3855d570ddf2a0c27ea29f2c4f01eecda35024c"), looks := false }, kinds := [], alts := [], laidByText := true, laidKinds := [.data, .pinned], laidTests := true, laidLooks := .later }
def RegexMeansUptoCardSaid : Prop := Claim7.holds Tryz.pinned (.plain (OpenSpec.upto regexMeansSpec)) regexMeansUptoCard

/-- THE SECOND FORM's CARD OF 'milestonelaw09.RegexSame'. -/
def regexSameUptoCard : Claim7 := { stood := { row := regexSameUptoRow, standIns := [], harness := (true, "a6601d23f094c93534be1edba3855d570ddf2a0c27ea29f2c4f01eecda35024c"), looks := false }, kinds := [], alts := [], laidByText := true, laidKinds := [.data, .pinned], laidTests := true, laidLooks := .later }
def RegexSameUptoCardSaid : Prop := Claim7.holds Tryz.pinned (.plain (OpenSpec.upto regexSameSpec)) regexSameUptoCard
end Rows
end Go.Proofs.YtagppgncanimaaaGreatDoor
