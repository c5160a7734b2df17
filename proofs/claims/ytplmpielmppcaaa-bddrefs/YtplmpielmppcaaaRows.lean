/-
  No cell of these rows narrows 'for every input' (looked for: loops, veiled, ifaces, maps, wideKeys, modest, calm, conditions, laid).
  DERIVED. THE GIVEN ROWS OF THIS SEAT. 5 by the template 'for every input the law returns true; each argument reads behind the call as it read before'; 0 by the template 'total and deterministic' (their statements: YtplmpielmppcaaaTotals.lean).
  GIVEN WITH THE SEED: the statements are not yours to turn. If you find one false, say at which input.
  Laid BY PROGRAM, IN A SANDBOX (cutbox-rows.mjs): the forced cells as the released guide's own fill.sh prints them over the translation c9cd655c0e825508… (all of the seat's roots in one cut). By AI agents, Wed Nov 11 2026. No macro, syntax, notation, axiom, sorry.
-/
import Derived.Test.YtplmpielmppcaaaChecked
import GoSem.Claim
import GoSem.ClaimJoined
import GoSem.ClaimMapViews
import Derived.JoinedTies
import Derived.KernelRfl
namespace Go.Proofs.Ytplmpielmppcaaa
/- THE CELL 'sum', in the pinned program and in every row, IS THE sha256 OF THE DUMP (.gsa) THAT YtplmpielmppcaaaProg.lean LOADS. Nothing in Lean hashes anything: it is a label: what it is worth is what the hold of that sum in a sandbox is worth. -/
noncomputable def Try.pinned : Pinned := { name := "ytplmpielmppcaaa", sum := "c9cd655c0e8255087675d59dd7027d9c901e256457ce6a3eed437c5681963102", checked := Try.checked }
namespace Rows
def none {H : Type} : Left H := { results := [], args := [] }

/-- 'milestonelaw02.BddNobody': WHATEVER THE INPUT: true; the input reads as it did. -/
def bddNobodySpec : ChangeSpec := { name := "bddNobody", fn := fun _ => fun
  | [d] => { results := [.lit (.bool true)], args := [d] }
  | _ => none }
def bddNobodyRow : OpenClaim := { program := "ytplmpielmppcaaa", sum := "c9cd655c0e8255087675d59dd7027d9c901e256457ce6a3eed437c5681963102", func := "milestone/milestonelaw02.BddNobody", spec := "bddNobody", inPlace := ["internal/bytealg.CountString", "internal/bytealg.IndexByteString", "internal/bytealg.IndexString", "internal/abi.NoEscape", "internal/bytealg.MakeNoZero"], unfollowed := true, recurses := true, named := ["internal/bytealg.MaxLen"], plainKeys := false, apart := false }
def BddNobodySaid : Prop := bddNobodyRow.holds Try.pinned (OpenSpec.ofChange bddNobodySpec)

/-- ITS FALSE NEIGHBOUR: 'it returns false'. Refute it at one input. -/
def bddNobodyWrong : ChangeSpec := { name := "bddNobody", fn := fun _ => fun
  | [d] => { results := [.lit (.bool false)], args := [d] }
  | _ => none }
def BddNobodyWrongFalsely : Prop := bddNobodyRow.holds Try.pinned (OpenSpec.ofChange bddNobodyWrong)

/-- 'milestonelaw02.BddRefs': WHATEVER THE INPUT: true; the input reads as it did. -/
def bddRefsSpec : ChangeSpec := { name := "bddRefs", fn := fun _ => fun
  | [d1, d2, d3] => { results := [.lit (.bool true)], args := [d1, d2, d3] }
  | _ => none }
def bddRefsRow : OpenClaim := { program := "ytplmpielmppcaaa", sum := "c9cd655c0e8255087675d59dd7027d9c901e256457ce6a3eed437c5681963102", func := "milestone/milestonelaw02.BddRefs", spec := "bddRefs", inPlace := ["internal/bytealg.CountString", "internal/bytealg.IndexByteString", "internal/bytealg.IndexString", "internal/abi.NoEscape", "internal/bytealg.MakeNoZero"], unfollowed := true, recurses := true, named := ["internal/bytealg.MaxLen"], plainKeys := false, apart := false }
def BddRefsSaid : Prop := bddRefsRow.holds Try.pinned (OpenSpec.ofChange bddRefsSpec)

/-- ITS FALSE NEIGHBOUR: 'it returns false'. Refute it at one input. -/
def bddRefsWrong : ChangeSpec := { name := "bddRefs", fn := fun _ => fun
  | [d1, d2, d3] => { results := [.lit (.bool false)], args := [d1, d2, d3] }
  | _ => none }
def BddRefsWrongFalsely : Prop := bddRefsRow.holds Try.pinned (OpenSpec.ofChange bddRefsWrong)

/-- 'milestonelaw02.BddLaws': WHATEVER THE INPUT: true; the input reads as it did. -/
def bddLawsSpec : ChangeSpec := { name := "bddLaws", fn := fun _ => fun
  | [d1, d2] => { results := [.lit (.bool true)], args := [d1, d2] }
  | _ => none }
def bddLawsRow : OpenClaim := { program := "ytplmpielmppcaaa", sum := "c9cd655c0e8255087675d59dd7027d9c901e256457ce6a3eed437c5681963102", func := "milestone/milestonelaw02.BddLaws", spec := "bddLaws", unfollowed := true, recurses := true, plainKeys := false, apart := false }
def BddLawsSaid : Prop := bddLawsRow.holds Try.pinned (OpenSpec.ofChange bddLawsSpec)

/-- ITS FALSE NEIGHBOUR: 'it returns false'. Refute it at one input. -/
def bddLawsWrong : ChangeSpec := { name := "bddLaws", fn := fun _ => fun
  | [d1, d2] => { results := [.lit (.bool false)], args := [d1, d2] }
  | _ => none }
def BddLawsWrongFalsely : Prop := bddLawsRow.holds Try.pinned (OpenSpec.ofChange bddLawsWrong)

/-- 'milestonelaw02.BddCubes': WHATEVER THE INPUT: true; the input reads as it did. -/
def bddCubesSpec : ChangeSpec := { name := "bddCubes", fn := fun _ => fun
  | [d1, d2] => { results := [.lit (.bool true)], args := [d1, d2] }
  | _ => none }
def bddCubesRow : OpenClaim := { program := "ytplmpielmppcaaa", sum := "c9cd655c0e8255087675d59dd7027d9c901e256457ce6a3eed437c5681963102", func := "milestone/milestonelaw02.BddCubes", spec := "bddCubes", inPlace := ["internal/abi.NoEscape", "internal/bytealg.MakeNoZero"], unfollowed := true, recurses := true, plainKeys := false, apart := false }
def BddCubesSaid : Prop := bddCubesRow.holds Try.pinned (OpenSpec.ofChange bddCubesSpec)

/-- ITS FALSE NEIGHBOUR: 'it returns false'. Refute it at one input. -/
def bddCubesWrong : ChangeSpec := { name := "bddCubes", fn := fun _ => fun
  | [d1, d2] => { results := [.lit (.bool false)], args := [d1, d2] }
  | _ => none }
def BddCubesWrongFalsely : Prop := bddCubesRow.holds Try.pinned (OpenSpec.ofChange bddCubesWrong)

/-- 'milestonelaw02.BddBack': WHATEVER THE INPUT: true; the input reads as it did. -/
def bddBackSpec : ChangeSpec := { name := "bddBack", fn := fun _ => fun
  | [d1, d2] => { results := [.lit (.bool true)], args := [d1, d2] }
  | _ => none }
def bddBackRow : OpenClaim := { program := "ytplmpielmppcaaa", sum := "c9cd655c0e8255087675d59dd7027d9c901e256457ce6a3eed437c5681963102", func := "milestone/milestonelaw02.BddBack", spec := "bddBack", unfollowed := true, recurses := true, plainKeys := false, apart := false }
def BddBackSaid : Prop := bddBackRow.holds Try.pinned (OpenSpec.ofChange bddBackSpec)

/-- ITS FALSE NEIGHBOUR: 'it returns false'. Refute it at one input. -/
def bddBackWrong : ChangeSpec := { name := "bddBack", fn := fun _ => fun
  | [d1, d2] => { results := [.lit (.bool false)], args := [d1, d2] }
  | _ => none }
def BddBackWrongFalsely : Prop := bddBackRow.holds Try.pinned (OpenSpec.ofChange bddBackWrong)

/- THE SECOND FORM. 'bulk': how many values and letters a reading holds, each counted each time it is reached (what is shared counts as often as it is met; a slice's spare places count too). A statement '..UptoSaid' is the law's where the arguments, and the package variables that the reading takes, are together of bulk at most 1048576: NARROWER than '..Said'. Prove '..Said' where nothing that the law and all that it calls make is longer than what came in: it says more and counts as full. Else prove '..UptoSaid'. A law counts once. -/
mutual
def uptoBulk {H : Type} : DataW H → Nat
  | .lit (.string bytes) => bytes.length + 1
  | .lit _ => 1
  | .nil => 1
  | .ptr d => uptoBulk d + 1
  | .slice elems spare => uptoBulkAll elems + uptoBulkAll spare + 1
  | .agg parts => uptoBulkAll parts + 1
  | .iface _ d => uptoBulk d + 1
  | .map entries => uptoBulkEntries entries + 1
  | .held _ => 1
def uptoBulkAll {H : Type} : List (DataW H) → Nat
  | [] => 0
  | d :: r => uptoBulk d + uptoBulkAll r
def uptoBulkEntries {H : Type} : List (Lit × DataW H) → Nat
  | [] => 0
  | x :: r => uptoBulkEntry x + uptoBulkEntries r
def uptoBulkEntry {H : Type} : Lit × DataW H → Nat
  | (.string bytes, d) => bytes.length + uptoBulk d + 1
  | (_, d) => uptoBulk d + 1
 end
def uptoSmall : (H : Type) → List (DataW H) → Bool := fun _ ds => decide (uptoBulkAll ds ≤ 1048576)
def OpenSpec.upto (s : _root_.Go.ChangeSpec) : _root_.Go.OpenSpec := { _root_.Go.OpenSpec.ofChange s with cond := some uptoSmall }

/-- 'milestonelaw02.BddNobody', WHERE WHAT IT READS IS OF BULK AT MOST 1048576: true; the input reads as it did. -/
def bddNobodyUptoRow : OpenClaim := { program := "ytplmpielmppcaaa", sum := "c9cd655c0e8255087675d59dd7027d9c901e256457ce6a3eed437c5681963102", func := "milestone/milestonelaw02.BddNobody", spec := "bddNobody", inPlace := ["internal/bytealg.CountString", "internal/bytealg.IndexByteString", "internal/bytealg.IndexString", "internal/abi.NoEscape", "internal/bytealg.MakeNoZero"], unfollowed := true, recurses := true, named := ["internal/bytealg.MaxLen"], plainKeys := false, apart := false, narrowed := true }
def BddNobodyUptoSaid : Prop := bddNobodyUptoRow.holds Try.pinned (OpenSpec.upto bddNobodySpec)

/-- 'milestonelaw02.BddRefs', WHERE WHAT IT READS IS OF BULK AT MOST 1048576: true; the input reads as it did. -/
def bddRefsUptoRow : OpenClaim := { program := "ytplmpielmppcaaa", sum := "c9cd655c0e8255087675d59dd7027d9c901e256457ce6a3eed437c5681963102", func := "milestone/milestonelaw02.BddRefs", spec := "bddRefs", inPlace := ["internal/bytealg.CountString", "internal/bytealg.IndexByteString", "internal/bytealg.IndexString", "internal/abi.NoEscape", "internal/bytealg.MakeNoZero"], unfollowed := true, recurses := true, named := ["internal/bytealg.MaxLen"], plainKeys := false, apart := false, narrowed := true }
def BddRefsUptoSaid : Prop := bddRefsUptoRow.holds Try.pinned (OpenSpec.upto bddRefsSpec)

/-- 'milestonelaw02.BddLaws', WHERE WHAT IT READS IS OF BULK AT MOST 1048576: true; the input reads as it did. -/
def bddLawsUptoRow : OpenClaim := { program := "ytplmpielmppcaaa", sum := "c9cd655c0e8255087675d59dd7027d9c901e256457ce6a3eed437c5681963102", func := "milestone/milestonelaw02.BddLaws", spec := "bddLaws", unfollowed := true, recurses := true, plainKeys := false, apart := false, narrowed := true }
def BddLawsUptoSaid : Prop := bddLawsUptoRow.holds Try.pinned (OpenSpec.upto bddLawsSpec)

/-- 'milestonelaw02.BddCubes', WHERE WHAT IT READS IS OF BULK AT MOST 1048576: true; the input reads as it did. -/
def bddCubesUptoRow : OpenClaim := { program := "ytplmpielmppcaaa", sum := "c9cd655c0e8255087675d59dd7027d9c901e256457ce6a3eed437c5681963102", func := "milestone/milestonelaw02.BddCubes", spec := "bddCubes", inPlace := ["internal/abi.NoEscape", "internal/bytealg.MakeNoZero"], unfollowed := true, recurses := true, plainKeys := false, apart := false, narrowed := true }
def BddCubesUptoSaid : Prop := bddCubesUptoRow.holds Try.pinned (OpenSpec.upto bddCubesSpec)

/-- 'milestonelaw02.BddBack', WHERE WHAT IT READS IS OF BULK AT MOST 1048576: true; the input reads as it did. -/
def bddBackUptoRow : OpenClaim := { program := "ytplmpielmppcaaa", sum := "c9cd655c0e8255087675d59dd7027d9c901e256457ce6a3eed437c5681963102", func := "milestone/milestonelaw02.BddBack", spec := "bddBack", unfollowed := true, recurses := true, plainKeys := false, apart := false, narrowed := true }
def BddBackUptoSaid : Prop := bddBackUptoRow.holds Try.pinned (OpenSpec.upto bddBackSpec)

end Rows
end Go.Proofs.Ytplmpielmppcaaa
