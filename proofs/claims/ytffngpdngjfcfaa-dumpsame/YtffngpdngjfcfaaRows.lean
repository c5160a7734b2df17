/-
  No cell of these rows narrows 'for every input' (looked for: loops, veiled, ifaces, maps, wideKeys, modest, calm, conditions, laid).
  DERIVED. THE GIVEN ROWS OF THIS SEAT. 6 by the template 'for every input the law returns true; each argument reads behind the call as it read before'; 0 by the template 'total and deterministic' (their statements: YtffngpdngjfcfaaTotals.lean).
  GIVEN WITH THE SEED: the statements are not yours to turn. If you find one false, say at which input.
  Laid BY PROGRAM, IN A SANDBOX (cutbox-rows.mjs): the forced cells as the released guide's own fill.sh prints them over the translation b9fa7f3fa995ba2e… (all of the seat's roots in one cut). By AI agents, Wed Nov 11 2026. No macro, syntax, notation, axiom, sorry.
-/
import Derived.Test.YtffngpdngjfcfaaChecked
import GoSem.Claim
import GoSem.ClaimJoined
import GoSem.ClaimMapViews
import Derived.JoinedTies
import Derived.KernelRfl
namespace Go.Proofs.Ytffngpdngjfcfaa
/- THE CELL 'sum', in the pinned program and in every row, IS THE sha256 OF THE DUMP (.gsa) THAT YtffngpdngjfcfaaProg.lean LOADS. Nothing in Lean hashes anything: it is a label: what it is worth is what the hold of that sum in a sandbox is worth. -/
noncomputable def Try.pinned : Pinned := { name := "ytffngpdngjfcfaa", sum := "b9fa7f3fa995ba2e0aef624a7ee193ecba23c7de0ece4a0470c4e239a92b6441", checked := Try.checked }
namespace Rows
def none {H : Type} : Left H := { results := [], args := [] }

/-- 'milestonelaw04.DumpBack': WHATEVER THE INPUT: true; the input reads as it did. -/
def dumpBackSpec : ChangeSpec := { name := "dumpBack", fn := fun _ => fun
  | [d1, d2] => { results := [.lit (.bool true)], args := [d1, d2] }
  | _ => none }
def dumpBackRow : OpenClaim := { program := "ytffngpdngjfcfaa", sum := "b9fa7f3fa995ba2e0aef624a7ee193ecba23c7de0ece4a0470c4e239a92b6441", func := "milestone/milestonelaw04.DumpBack", spec := "dumpBack", unfollowed := true, recurses := true, plainKeys := false, apart := false }
def DumpBackSaid : Prop := dumpBackRow.holds Try.pinned (OpenSpec.ofChange dumpBackSpec)

/-- ITS FALSE NEIGHBOUR: 'it returns false'. Refute it at one input. -/
def dumpBackWrong : ChangeSpec := { name := "dumpBack", fn := fun _ => fun
  | [d1, d2] => { results := [.lit (.bool false)], args := [d1, d2] }
  | _ => none }
def DumpBackWrongFalsely : Prop := dumpBackRow.holds Try.pinned (OpenSpec.ofChange dumpBackWrong)

/-- 'milestonelaw04.DumpSame': WHATEVER THE INPUT: true; the input reads as it did. -/
def dumpSameSpec : ChangeSpec := { name := "dumpSame", fn := fun _ => fun
  | [d1, d2, d3] => { results := [.lit (.bool true)], args := [d1, d2, d3] }
  | _ => none }
def dumpSameRow : OpenClaim := { program := "ytffngpdngjfcfaa", sum := "b9fa7f3fa995ba2e0aef624a7ee193ecba23c7de0ece4a0470c4e239a92b6441", func := "milestone/milestonelaw04.DumpSame", spec := "dumpSame", inPlace := ["internal/bytealg.CountString", "internal/bytealg.IndexByteString", "internal/bytealg.IndexString"], unfollowed := true, recurses := true, named := ["internal/bytealg.MaxLen"], plainKeys := false, apart := false }
def DumpSameSaid : Prop := dumpSameRow.holds Try.pinned (OpenSpec.ofChange dumpSameSpec)

/-- ITS FALSE NEIGHBOUR: 'it returns false'. Refute it at one input. -/
def dumpSameWrong : ChangeSpec := { name := "dumpSame", fn := fun _ => fun
  | [d1, d2, d3] => { results := [.lit (.bool false)], args := [d1, d2, d3] }
  | _ => none }
def DumpSameWrongFalsely : Prop := dumpSameRow.holds Try.pinned (OpenSpec.ofChange dumpSameWrong)

/-- 'milestonelaw04.DumpNobody': WHATEVER THE INPUT: true; the input reads as it did. -/
def dumpNobodySpec : ChangeSpec := { name := "dumpNobody", fn := fun _ => fun
  | [d1, d2] => { results := [.lit (.bool true)], args := [d1, d2] }
  | _ => none }
def dumpNobodyRow : OpenClaim := { program := "ytffngpdngjfcfaa", sum := "b9fa7f3fa995ba2e0aef624a7ee193ecba23c7de0ece4a0470c4e239a92b6441", func := "milestone/milestonelaw04.DumpNobody", spec := "dumpNobody", inPlace := ["internal/abi.NoEscape", "internal/bytealg.MakeNoZero"], unfollowed := true, recurses := true, plainKeys := false, apart := false }
def DumpNobodySaid : Prop := dumpNobodyRow.holds Try.pinned (OpenSpec.ofChange dumpNobodySpec)

/-- ITS FALSE NEIGHBOUR: 'it returns false'. Refute it at one input. -/
def dumpNobodyWrong : ChangeSpec := { name := "dumpNobody", fn := fun _ => fun
  | [d1, d2] => { results := [.lit (.bool false)], args := [d1, d2] }
  | _ => none }
def DumpNobodyWrongFalsely : Prop := dumpNobodyRow.holds Try.pinned (OpenSpec.ofChange dumpNobodyWrong)

/-- 'milestonelaw02.BddLaws': WHATEVER THE INPUT: true; the input reads as it did. -/
def bddLawsSpec : ChangeSpec := { name := "bddLaws", fn := fun _ => fun
  | [d1, d2] => { results := [.lit (.bool true)], args := [d1, d2] }
  | _ => none }
def bddLawsRow : OpenClaim := { program := "ytffngpdngjfcfaa", sum := "b9fa7f3fa995ba2e0aef624a7ee193ecba23c7de0ece4a0470c4e239a92b6441", func := "milestone/milestonelaw02.BddLaws", spec := "bddLaws", unfollowed := true, recurses := true, plainKeys := false, apart := false }
def BddLawsSaid : Prop := bddLawsRow.holds Try.pinned (OpenSpec.ofChange bddLawsSpec)

/-- ITS FALSE NEIGHBOUR: 'it returns false'. Refute it at one input. -/
def bddLawsWrong : ChangeSpec := { name := "bddLaws", fn := fun _ => fun
  | [d1, d2] => { results := [.lit (.bool false)], args := [d1, d2] }
  | _ => none }
def BddLawsWrongFalsely : Prop := bddLawsRow.holds Try.pinned (OpenSpec.ofChange bddLawsWrong)

/-- 'milestonelaw02.BddCubes': WHATEVER THE INPUT: true; the input reads as it did. -/
def bddCubesSpec : ChangeSpec := { name := "bddCubes", fn := fun _ => fun
  | [d1, d2] => { results := [.lit (.bool true)], args := [d1, d2] }
  | _ => none }
def bddCubesRow : OpenClaim := { program := "ytffngpdngjfcfaa", sum := "b9fa7f3fa995ba2e0aef624a7ee193ecba23c7de0ece4a0470c4e239a92b6441", func := "milestone/milestonelaw02.BddCubes", spec := "bddCubes", inPlace := ["internal/abi.NoEscape", "internal/bytealg.MakeNoZero"], unfollowed := true, recurses := true, plainKeys := false, apart := false }
def BddCubesSaid : Prop := bddCubesRow.holds Try.pinned (OpenSpec.ofChange bddCubesSpec)

/-- ITS FALSE NEIGHBOUR: 'it returns false'. Refute it at one input. -/
def bddCubesWrong : ChangeSpec := { name := "bddCubes", fn := fun _ => fun
  | [d1, d2] => { results := [.lit (.bool false)], args := [d1, d2] }
  | _ => none }
def BddCubesWrongFalsely : Prop := bddCubesRow.holds Try.pinned (OpenSpec.ofChange bddCubesWrong)

/-- 'milestonelaw02.BddBack': WHATEVER THE INPUT: true; the input reads as it did. -/
def bddBackSpec : ChangeSpec := { name := "bddBack", fn := fun _ => fun
  | [d1, d2] => { results := [.lit (.bool true)], args := [d1, d2] }
  | _ => none }
def bddBackRow : OpenClaim := { program := "ytffngpdngjfcfaa", sum := "b9fa7f3fa995ba2e0aef624a7ee193ecba23c7de0ece4a0470c4e239a92b6441", func := "milestone/milestonelaw02.BddBack", spec := "bddBack", unfollowed := true, recurses := true, plainKeys := false, apart := false }
def BddBackSaid : Prop := bddBackRow.holds Try.pinned (OpenSpec.ofChange bddBackSpec)

/-- ITS FALSE NEIGHBOUR: 'it returns false'. Refute it at one input. -/
def bddBackWrong : ChangeSpec := { name := "bddBack", fn := fun _ => fun
  | [d1, d2] => { results := [.lit (.bool false)], args := [d1, d2] }
  | _ => none }
def BddBackWrongFalsely : Prop := bddBackRow.holds Try.pinned (OpenSpec.ofChange bddBackWrong)

/- THE SECOND FORM. 'bulk': how many values and letters a reading holds, each counted each time it is reached (what is shared counts as often as it is met; a slice's spare places count too). A statement '..UptoSaid' is the law's where the arguments, and the package variables that the reading takes, are together of bulk at most 1048576: NARROWER than '..Said'. Prove '..Said' where nothing that the law and all that it calls make is longer than what came in: it says more and counts as full. Else prove '..UptoSaid'. A law counts once. -/
mutual
def uptoBulk {H : Type} : DataW H → Nat
  | .lit (.string bytes) => bytes.length + 1
  | .lit _ => 1
  | .nil => 1
  | .ptr d => uptoBulk d + 1
  | .slice elems spare => uptoBulkAll elems + uptoBulkAll spare + 1
  | .agg parts => uptoBulkAll parts + 1
  | .iface _ d => uptoBulk d + 1
  | .map entries => uptoBulkEntries entries + 1
  | .held _ => 1
def uptoBulkAll {H : Type} : List (DataW H) → Nat
  | [] => 0
  | d :: r => uptoBulk d + uptoBulkAll r
def uptoBulkEntries {H : Type} : List (Lit × DataW H) → Nat
  | [] => 0
  | x :: r => uptoBulkEntry x + uptoBulkEntries r
def uptoBulkEntry {H : Type} : Lit × DataW H → Nat
  | (.string bytes, d) => bytes.length + uptoBulk d + 1
  | (_, d) => uptoBulk d + 1
 end
def uptoSmall : (H : Type) → List (DataW H) → Bool := fun _ ds => decide (uptoBulkAll ds ≤ 1048576)
def OpenSpec.upto (s : _root_.Go.ChangeSpec) : _root_.Go.OpenSpec := { _root_.Go.OpenSpec.ofChange s with cond := some uptoSmall }

/-- 'milestonelaw04.DumpBack', WHERE WHAT IT READS IS OF BULK AT MOST 1048576: true; the input reads as it did. -/
def dumpBackUptoRow : OpenClaim := { program := "ytffngpdngjfcfaa", sum := "b9fa7f3fa995ba2e0aef624a7ee193ecba23c7de0ece4a0470c4e239a92b6441", func := "milestone/milestonelaw04.DumpBack", spec := "dumpBack", unfollowed := true, recurses := true, plainKeys := false, apart := false, narrowed := true }
def DumpBackUptoSaid : Prop := dumpBackUptoRow.holds Try.pinned (OpenSpec.upto dumpBackSpec)

/-- 'milestonelaw04.DumpSame', WHERE WHAT IT READS IS OF BULK AT MOST 1048576: true; the input reads as it did. -/
def dumpSameUptoRow : OpenClaim := { program := "ytffngpdngjfcfaa", sum := "b9fa7f3fa995ba2e0aef624a7ee193ecba23c7de0ece4a0470c4e239a92b6441", func := "milestone/milestonelaw04.DumpSame", spec := "dumpSame", inPlace := ["internal/bytealg.CountString", "internal/bytealg.IndexByteString", "internal/bytealg.IndexString"], unfollowed := true, recurses := true, named := ["internal/bytealg.MaxLen"], plainKeys := false, apart := false, narrowed := true }
def DumpSameUptoSaid : Prop := dumpSameUptoRow.holds Try.pinned (OpenSpec.upto dumpSameSpec)

/-- 'milestonelaw04.DumpNobody', WHERE WHAT IT READS IS OF BULK AT MOST 1048576: true; the input reads as it did. -/
def dumpNobodyUptoRow : OpenClaim := { program := "ytffngpdngjfcfaa", sum := "b9fa7f3fa995ba2e0aef624a7ee193ecba23c7de0ece4a0470c4e239a92b6441", func := "milestone/milestonelaw04.DumpNobody", spec := "dumpNobody", inPlace := ["internal/abi.NoEscape", "internal/bytealg.MakeNoZero"], unfollowed := true, recurses := true, plainKeys := false, apart := false, narrowed := true }
def DumpNobodyUptoSaid : Prop := dumpNobodyUptoRow.holds Try.pinned (OpenSpec.upto dumpNobodySpec)

/-- 'milestonelaw02.BddLaws', WHERE WHAT IT READS IS OF BULK AT MOST 1048576: true; the input reads as it did. -/
def bddLawsUptoRow : OpenClaim := { program := "ytffngpdngjfcfaa", sum := "b9fa7f3fa995ba2e0aef624a7ee193ecba23c7de0ece4a0470c4e239a92b6441", func := "milestone/milestonelaw02.BddLaws", spec := "bddLaws", unfollowed := true, recurses := true, plainKeys := false, apart := false, narrowed := true }
def BddLawsUptoSaid : Prop := bddLawsUptoRow.holds Try.pinned (OpenSpec.upto bddLawsSpec)

/-- 'milestonelaw02.BddCubes', WHERE WHAT IT READS IS OF BULK AT MOST 1048576: true; the input reads as it did. -/
def bddCubesUptoRow : OpenClaim := { program := "ytffngpdngjfcfaa", sum := "b9fa7f3fa995ba2e0aef624a7ee193ecba23c7de0ece4a0470c4e239a92b6441", func := "milestone/milestonelaw02.BddCubes", spec := "bddCubes", inPlace := ["internal/abi.NoEscape", "internal/bytealg.MakeNoZero"], unfollowed := true, recurses := true, plainKeys := false, apart := false, narrowed := true }
def BddCubesUptoSaid : Prop := bddCubesUptoRow.holds Try.pinned (OpenSpec.upto bddCubesSpec)

/-- 'milestonelaw02.BddBack', WHERE WHAT IT READS IS OF BULK AT MOST 1048576: true; the input reads as it did. -/
def bddBackUptoRow : OpenClaim := { program := "ytffngpdngjfcfaa", sum := "b9fa7f3fa995ba2e0aef624a7ee193ecba23c7de0ece4a0470c4e239a92b6441", func := "milestone/milestonelaw02.BddBack", spec := "bddBack", unfollowed := true, recurses := true, plainKeys := false, apart := false, narrowed := true }
def BddBackUptoSaid : Prop := bddBackUptoRow.holds Try.pinned (OpenSpec.upto bddBackSpec)

end Rows
end Go.Proofs.Ytffngpdngjfcfaa
