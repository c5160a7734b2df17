/-
  Lines in memory for reading; rules in memory; what holds while lines are read.
  The rules of a text's lines, or the first fault: the deferred call, the walk of read.
  The keys of rules that have come: a map of numbers by priority and match.
  m[k]++ of a map told key by key: the entry first or the look-up first.
  A map of whole numbers in memory, told key by key.
-/
import Derived.WalkKit
import Derived.Maps.OwnSet
import Derived.WideKeyEntry
import Derived.Test.YtipmlcdnfaobiaaGreatUPortsAnd
import Derived.DeepKeys5
namespace Go.Proofs.YtipmlcdnfaobiaaGreat
open Go.RowKit Go.Maps

end Go.Proofs.YtipmlcdnfaobiaaGreat
namespace Go.Proofs.YtipmlcdnfaobiaaGreat
open Go.RowKit Go.Maps

end Go.Proofs.YtipmlcdnfaobiaaGreat
namespace Go.Proofs.YtipmlcdnfaobiaaGreat
open Go.RowKit Go.Maps
open Wo (Wd)

end Go.Proofs.YtipmlcdnfaobiaaGreat
namespace Go.Proofs.YtipmlcdnfaobiaaGreat
open Go.RowKit
open Wo (Wd)

end Go.Proofs.YtipmlcdnfaobiaaGreat
namespace Go.Proofs.YtipmlcdnfaobiaaGreat
open Go.RowKit
open Wo (Wd)

section
variable {w : World} {width : Nat} {ls : List (List Wd)} {k : Nat} {v : Value} {ps : List (Ru.Rl × Value)} {wr : World}
end
end Go.Proofs.YtipmlcdnfaobiaaGreat
