/-
  No cell of these rows narrows 'for every input' (looked for: loops, veiled, ifaces, maps, wideKeys, modest, calm, conditions, laid).
  DERIVED. THE GIVEN ROWS OF THIS SEAT. 3 by the template 'for every input the law returns true; each argument reads behind the call as it read before'; 0 by the template 'total and deterministic' (their statements: YtnkipdlfpnmgeaaTotals.lean).
  GIVEN WITH THE SEED: the statements are not yours to turn. If you find one false, say at which input.
  Laid BY PROGRAM, IN A SANDBOX (cutbox-rows.mjs): the forced cells as the released guide's own fill.sh prints them over the translation f93978529d28fcac… (all of the seat's roots in one cut). By AI agents, Wed Nov 11 2026. No macro, syntax, notation, axiom, sorry.
-/
import Derived.Test.YtnkipdlfpnmgeaaChecked
import GoSem.Claim
import GoSem.ClaimJoined
import GoSem.ClaimMapViews
import Derived.JoinedTies
import Derived.KernelRfl
namespace Go.Proofs.Ytnkipdlfpnmgeaa
/- THE CELL 'sum', in the pinned program and in every row, IS THE sha256 OF THE DUMP (.gsa) THAT YtnkipdlfpnmgeaaProg.lean LOADS. Nothing in Lean hashes anything: it is a label: what it is worth is what the hold of that sum in a sandbox is worth. -/
noncomputable def Try.pinned : Pinned := { name := "ytnkipdlfpnmgeaa", sum := "f93978529d28fcac03463f86d15c95801c665c5709aa0383998f0d9eec20e3d1", checked := Try.checked }
namespace Rows
def none {H : Type} : Left H := { results := [], args := [] }

/-- 'milestonelaw04.DumpWrites': WHATEVER THE INPUT: true; the input reads as it did. -/
def dumpWritesSpec : ChangeSpec := { name := "dumpWrites", fn := fun _ => fun
  | [d1, d2, d3] => { results := [.lit (.bool true)], args := [d1, d2, d3] }
  | _ => none }
def dumpWritesRow : OpenClaim := { program := "ytnkipdlfpnmgeaa", sum := "f93978529d28fcac03463f86d15c95801c665c5709aa0383998f0d9eec20e3d1", func := "milestone/milestonelaw04.DumpWrites", spec := "dumpWrites", unfollowed := true, recurses := true, plainKeys := false, apart := false }
def DumpWritesSaid : Prop := dumpWritesRow.holds Try.pinned (OpenSpec.ofChange dumpWritesSpec)

/-- ITS FALSE NEIGHBOUR: 'it returns false'. Refute it at one input. -/
def dumpWritesWrong : ChangeSpec := { name := "dumpWrites", fn := fun _ => fun
  | [d1, d2, d3] => { results := [.lit (.bool false)], args := [d1, d2, d3] }
  | _ => none }
def DumpWritesWrongFalsely : Prop := dumpWritesRow.holds Try.pinned (OpenSpec.ofChange dumpWritesWrong)

/-- 'milestonelaw04.DumpReads': WHATEVER THE INPUT: true; the input reads as it did. -/
def dumpReadsSpec : ChangeSpec := { name := "dumpReads", fn := fun _ => fun
  | [d1, d2, d3, d4] => { results := [.lit (.bool true)], args := [d1, d2, d3, d4] }
  | _ => none }
def dumpReadsRow : OpenClaim := { program := "ytnkipdlfpnmgeaa", sum := "f93978529d28fcac03463f86d15c95801c665c5709aa0383998f0d9eec20e3d1", func := "milestone/milestonelaw04.DumpReads", spec := "dumpReads", unfollowed := true, recurses := true, plainKeys := false, apart := false }
def DumpReadsSaid : Prop := dumpReadsRow.holds Try.pinned (OpenSpec.ofChange dumpReadsSpec)

/-- ITS FALSE NEIGHBOUR: 'it returns false'. Refute it at one input. -/
def dumpReadsWrong : ChangeSpec := { name := "dumpReads", fn := fun _ => fun
  | [d1, d2, d3, d4] => { results := [.lit (.bool false)], args := [d1, d2, d3, d4] }
  | _ => none }
def DumpReadsWrongFalsely : Prop := dumpReadsRow.holds Try.pinned (OpenSpec.ofChange dumpReadsWrong)

/-- 'milestonelaw04.DumpMoves': WHATEVER THE INPUT: true; the input reads as it did. -/
def dumpMovesSpec : ChangeSpec := { name := "dumpMoves", fn := fun _ => fun
  | [d1, d2, d3, d4, d5] => { results := [.lit (.bool true)], args := [d1, d2, d3, d4, d5] }
  | _ => none }
def dumpMovesRow : OpenClaim := { program := "ytnkipdlfpnmgeaa", sum := "f93978529d28fcac03463f86d15c95801c665c5709aa0383998f0d9eec20e3d1", func := "milestone/milestonelaw04.DumpMoves", spec := "dumpMoves", inPlace := ["internal/abi.NoEscape", "internal/bytealg.MakeNoZero"], unfollowed := true, recurses := true, plainKeys := false, apart := false }
def DumpMovesSaid : Prop := dumpMovesRow.holds Try.pinned (OpenSpec.ofChange dumpMovesSpec)

/-- ITS FALSE NEIGHBOUR: 'it returns false'. Refute it at one input. -/
def dumpMovesWrong : ChangeSpec := { name := "dumpMoves", fn := fun _ => fun
  | [d1, d2, d3, d4, d5] => { results := [.lit (.bool false)], args := [d1, d2, d3, d4, d5] }
  | _ => none }
def DumpMovesWrongFalsely : Prop := dumpMovesRow.holds Try.pinned (OpenSpec.ofChange dumpMovesWrong)

/- THE SECOND FORM. 'bulk': how many values and letters a reading holds, each counted each time it is reached (what is shared counts as often as it is met; a slice's spare places count too). A statement '..UptoSaid' is the law's where the arguments, and the package variables that the reading takes, are together of bulk at most 1048576: NARROWER than '..Said'. Prove '..Said' where nothing that the law and all that it calls make is longer than what came in: it says more and counts as full. Else prove '..UptoSaid'. A law counts once. -/
mutual
def uptoBulk {H : Type} : DataW H → Nat
  | .lit (.string bytes) => bytes.length + 1
  | .lit _ => 1
  | .nil => 1
  | .ptr d => uptoBulk d + 1
  | .slice elems spare => uptoBulkAll elems + uptoBulkAll spare + 1
  | .agg parts => uptoBulkAll parts + 1
  | .iface _ d => uptoBulk d + 1
  | .map entries => uptoBulkEntries entries + 1
  | .held _ => 1
def uptoBulkAll {H : Type} : List (DataW H) → Nat
  | [] => 0
  | d :: r => uptoBulk d + uptoBulkAll r
def uptoBulkEntries {H : Type} : List (Lit × DataW H) → Nat
  | [] => 0
  | x :: r => uptoBulkEntry x + uptoBulkEntries r
def uptoBulkEntry {H : Type} : Lit × DataW H → Nat
  | (.string bytes, d) => bytes.length + uptoBulk d + 1
  | (_, d) => uptoBulk d + 1
 end
def uptoSmall : (H : Type) → List (DataW H) → Bool := fun _ ds => decide (uptoBulkAll ds ≤ 1048576)
def OpenSpec.upto (s : _root_.Go.ChangeSpec) : _root_.Go.OpenSpec := { _root_.Go.OpenSpec.ofChange s with cond := some uptoSmall }

/-- 'milestonelaw04.DumpWrites', WHERE WHAT IT READS IS OF BULK AT MOST 1048576: true; the input reads as it did. -/
def dumpWritesUptoRow : OpenClaim := { program := "ytnkipdlfpnmgeaa", sum := "f93978529d28fcac03463f86d15c95801c665c5709aa0383998f0d9eec20e3d1", func := "milestone/milestonelaw04.DumpWrites", spec := "dumpWrites", unfollowed := true, recurses := true, plainKeys := false, apart := false, narrowed := true }
def DumpWritesUptoSaid : Prop := dumpWritesUptoRow.holds Try.pinned (OpenSpec.upto dumpWritesSpec)

/-- 'milestonelaw04.DumpReads', WHERE WHAT IT READS IS OF BULK AT MOST 1048576: true; the input reads as it did. -/
def dumpReadsUptoRow : OpenClaim := { program := "ytnkipdlfpnmgeaa", sum := "f93978529d28fcac03463f86d15c95801c665c5709aa0383998f0d9eec20e3d1", func := "milestone/milestonelaw04.DumpReads", spec := "dumpReads", unfollowed := true, recurses := true, plainKeys := false, apart := false, narrowed := true }
def DumpReadsUptoSaid : Prop := dumpReadsUptoRow.holds Try.pinned (OpenSpec.upto dumpReadsSpec)

/-- 'milestonelaw04.DumpMoves', WHERE WHAT IT READS IS OF BULK AT MOST 1048576: true; the input reads as it did. -/
def dumpMovesUptoRow : OpenClaim := { program := "ytnkipdlfpnmgeaa", sum := "f93978529d28fcac03463f86d15c95801c665c5709aa0383998f0d9eec20e3d1", func := "milestone/milestonelaw04.DumpMoves", spec := "dumpMoves", inPlace := ["internal/abi.NoEscape", "internal/bytealg.MakeNoZero"], unfollowed := true, recurses := true, plainKeys := false, apart := false, narrowed := true }
def DumpMovesUptoSaid : Prop := dumpMovesUptoRow.holds Try.pinned (OpenSpec.upto dumpMovesSpec)

end Rows
end Go.Proofs.Ytnkipdlfpnmgeaa
