/-
  The document's action of a line.
  The document's put: a text among others, rising, once.
  The document's reader of a line: Word, Fail, Must.
-/
import Derived.Test.YtipmlcdnfaobiaaGreatURdsAAnd
namespace Go.Proofs.YtipmlcdnfaobiaaGreat
open Go.RowKit
open Wo (Wd)

end Go.Proofs.YtipmlcdnfaobiaaGreat
namespace Go.Proofs.YtipmlcdnfaobiaaGreat
open Go.RowKit
open Wo (Wd)

section
variable {w : World} {zs : List (List UInt8)} {s a : List UInt8} {k : Nat} {v v' v6 : Value} {wr w5 w6 : World} {o o5 : Obj} {m : Nat} {xs : List Value}
end
end Go.Proofs.YtipmlcdnfaobiaaGreat
namespace Go.Proofs.YtipmlcdnfaobiaaGreat
open Go.RowKit
open Wo (Wd)

section
variable {w wr w1 : World} {rb g : Nat} {l : List Wd} {i k ab j : Nat} {acc : List (List UInt8)} {v : Value}
end
theorem PortsV.len {w : World} {B n cap : Nat} {ao : Option Addr} {zs : List (List UInt8)} (h : PortsV w B (.slice ao n cap) zs) : n = zs.length := by
  rcases h with ⟨rfl, e⟩ | ⟨b, c, e, _⟩
  · simp only [Value.slice.injEq] at e
    rw [e.2.1]; rfl
  · simp only [Value.slice.injEq] at e
    exact e.2.1
end Go.Proofs.YtipmlcdnfaobiaaGreat
