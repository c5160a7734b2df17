/-
  few: the first texts of a slice that came in, each cut off.
  The law WordsLines: of any text it answers true.
  Same: two rows of the same lines.
  The document's own reckoning of a text: the walk of Lines.
  The document's own reckoning of a text: Lines.
  The document's own reckoning of a line: the walk of line.
  The document's own reckoning of a line: the word that begins at a place, the words of a line.
-/
import Derived.Test.YtipmlcdnfaobiaaGreatWBuildAnd
import Derived.SliceStrings
namespace Go.Proofs.YtipmlcdnfaobiaaGreat
open Go.RowKit

end Go.Proofs.YtipmlcdnfaobiaaGreat
namespace Go.Proofs.YtipmlcdnfaobiaaGreat
open Go.RowKit

end Go.Proofs.YtipmlcdnfaobiaaGreat
namespace Go.Proofs.YtipmlcdnfaobiaaGreat
open Go.RowKit

section
variable {w : World} {l : List UInt8} {v : Value} {ls : List (List Wo.Wd)} {f n k : Nat} {wr : World}
end
end Go.Proofs.YtipmlcdnfaobiaaGreat
namespace Go.Proofs.YtipmlcdnfaobiaaGreat
open Go.RowKit

end Go.Proofs.YtipmlcdnfaobiaaGreat
namespace Go.Proofs.YtipmlcdnfaobiaaGreat
open Go.RowKit

end Go.Proofs.YtipmlcdnfaobiaaGreat
namespace Go.Proofs.YtipmlcdnfaobiaaGreat
open Go.RowKit

/-- The first bytes of a text. -/
def cutT (s : ByteArray) : List UInt8 := s.data.toList.take 4000
end Go.Proofs.YtipmlcdnfaobiaaGreat
namespace Go.Proofs.YtipmlcdnfaobiaaGreat
open Go.RowKit

theorem Tryz.infoString : (Tryz.prog.info? 9).map (fun i => (i.zero, i.size, i.bytes)) = some (some (.string ⟨#[]⟩), 1, 16) := by kernel_rfl

def svs (ls : List (List UInt8)) : List Value := ls.map fun l => .string (tx l)
end Go.Proofs.YtipmlcdnfaobiaaGreat
