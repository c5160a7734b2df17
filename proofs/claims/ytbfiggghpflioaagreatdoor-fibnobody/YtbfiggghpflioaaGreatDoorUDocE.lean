/-
  The document's action of a line: the walk.
-/
import Derived.Test.YtbfiggghpflioaaGreatDoorUDocBAnd
namespace Go.Proofs.YtbfiggghpflioaaGreatDoor
open Go.RowKit
open Wo (Wd)

end Go.Proofs.YtbfiggghpflioaaGreatDoor
