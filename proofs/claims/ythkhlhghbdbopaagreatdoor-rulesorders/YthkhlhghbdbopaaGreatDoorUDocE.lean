/-
  The document's action of a line: the walk.
-/
import Derived.Test.YthkhlhghbdbopaaGreatDoorUDocBAnd
namespace Go.Proofs.YthkhlhghbdbopaaGreatDoor
open Go.RowKit
open Wo (Wd)

end Go.Proofs.YthkhlhghbdbopaaGreatDoor
