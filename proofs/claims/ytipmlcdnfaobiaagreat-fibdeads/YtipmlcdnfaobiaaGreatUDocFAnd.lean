/-
  A rule that may be: actionMayBe, Check.
  The document's Parse: the walk.
  The document's Parse.
  The document's known: is there a rule with that key?
  The document's rule of a line.
-/
import Derived.Test.YtipmlcdnfaobiaaGreatUDocE
import Derived.Test.YtipmlcdnfaobiaaGreatWRefLAnd
namespace Go.Proofs.YtipmlcdnfaobiaaGreat
open Go.RowKit
open Wo (Wd)

end Go.Proofs.YtipmlcdnfaobiaaGreat
namespace Go.Proofs.YtipmlcdnfaobiaaGreat
open Go.RowKit
open Wo (Wd)

end Go.Proofs.YtipmlcdnfaobiaaGreat
namespace Go.Proofs.YtipmlcdnfaobiaaGreat
open Go.RowKit
open Wo (Wd)

section
variable {w : World} {width : Nat} {ls : List (List Wd)} {k : Nat} {v : Value} {ps : List (Ru.Rl × Value)} {wr : World}
end
end Go.Proofs.YtipmlcdnfaobiaaGreat
namespace Go.Proofs.YtipmlcdnfaobiaaGreat
open Go.RowKit
open Wo (Wd)

end Go.Proofs.YtipmlcdnfaobiaaGreat
namespace Go.Proofs.YtipmlcdnfaobiaaGreat
open Go.RowKit
open Wo (Wd)

/-- Ports that an action of kind all or any may have. -/
def okPorts (ps : List (List UInt8)) : Prop := 1 ≤ ps.length ∧ ps.length ≤ 64 ∧ (∀ p ∈ ps, Wo.nameB p = true) ∧ Ru.Rise ps
theorem rise_at {ps : List (List UInt8)} (h : Ru.Rise ps) {i : Nat} (hi : i + 1 < ps.length) : ps[i] < ps[i + 1] := List.pairwise_iff_getElem.1 h i (i + 1) (by omega) hi (by omega)
theorem nameB_short {l : List UInt8} (h : Wo.nameB l = true) : l.length ≤ 64 := by
  unfold Wo.nameB at h
  simp only [decide_eq_true_eq] at h
  exact h.2.1

end Go.Proofs.YtipmlcdnfaobiaaGreat
