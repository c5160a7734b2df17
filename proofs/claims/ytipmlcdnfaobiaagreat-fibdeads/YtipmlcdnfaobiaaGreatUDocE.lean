/-
  The document's action of a line: the walk.
-/
import Derived.Test.YtipmlcdnfaobiaaGreatUDocBAnd
namespace Go.Proofs.YtipmlcdnfaobiaaGreat
open Go.RowKit
open Wo (Wd)

end Go.Proofs.YtipmlcdnfaobiaaGreat
