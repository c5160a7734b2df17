/-
  Package counts: what Read comes to, as a function of the text.
-/
import Derived.Test.YteadddocmmkbgaaDoorKText
namespace Go.Proofs.YteadddocmmkbgaaDoor.Co

/-- How many bytes two texts have in common from their beginnings on. -/
def al : List UInt8 → List UInt8 → Nat
  | a :: s, b :: r => if a = b then al s r + 1 else 0
  | _, _ => 0
/-- One element's step of the search for the longest: what is found, how far it goes. -/
def elStep (t : Nat) (s : List UInt8) (p : Option Nat × Nat) (i : Nat) : Option Nat × Nat :=
  let n := al (wordT t i) s
  let q := if p.2 < n then (none, n) else p
  if n = q.2 ∧ n = (wordT t i).length then (some i, q.2) else q
def elem (t some : Nat) (s : List UInt8) : Option Nat × Nat := (els t some).foldl (elStep t s) (none, 0)
/-- The rest of the elements, behind a place: the set and the place behind them, or the fault's place. (fuel: how many may still come.) -/
def elemsR (t : Nat) : Nat → Nat → Nat → Nat → List UInt8 → Except Nat (Nat × Nat × List UInt8)
  | 0, _, c, p, s => .ok (c, p, s)
  | k + 1, left, c, p, s => match elem t left s with
    | (none, far) => .error (p + far)
    | (some i, far) =>
      let left' := left &&& (2 ^ 64 - 2 ^ (i + 1))
      let c' := c ||| 2 ^ i
      let s' := s.drop far
      if left' ≠ 0 ∧ s'.head? = some 44 then elemsR t k left' c' (p + far + 1) s'.tail else .ok (c', p + far, s')
/-- Behind the elements: the end. -/
def endR : Except Nat (Nat × Nat × List UInt8) → Except Nat Nat
  | .error p => .error p
  | .ok (c, p, s') => if s'.head? = some 125 then (if s'.tail = [] then .ok c else .error (p + 1)) else .error p
def setR (t : Nat) (s : List UInt8) : Except Nat Nat := if s.head? = some 123 then endR (elemsR t 64 (2 ^ (t + 2) - 1) 0 1 s.tail) else .error 0
def readP (t : Int) (s : List UInt8) : Nat × Int × Int := if t < 0 ∨ 62 < t then (0, 0, 1) else match setR t.toNat s with
  | .ok c => (c, 0, 0)
  | .error p => (0, (p : Int), 21)
end Go.Proofs.YteadddocmmkbgaaDoor.Co
