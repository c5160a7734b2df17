/-
  A round of a loop over the elements: what it keeps.
-/
import Derived.Test.YteadddocmmkbgaaDoorKIter
namespace Go.Proofs.YteadddocmmkbgaaDoor.Co
open Go.RowKit Go.Shelf

/-- A variable's box is written, behind some draws. -/
theorem round_grown (W : World) (b m : Nat) (v' : Value) : W.grownBy ((W.drewN m).setCell ⟨b, 0, none⟩ v') (some b) :=
  have h := grownBy_setCell' (W.drewN m) b v'
  ⟨h.os, h.tape, h.output, h.size, h.block⟩
theorem round_set {W : World} {b : Nat} {ty : TypeId} {v : Value} (m : Nat) (v' : Value) (h : Boxed W b ty v) : Boxed ((W.drewN m).setCell ⟨b, 0, none⟩ v') b ty v' := Boxed.set (W := W.drewN m) v' h
theorem round_other {W : World} {b b' : Nat} {ty : TypeId} {v : Value} (m : Nat) (v' : Value) (h : Boxed W b' ty v) (hne : b' ≠ b) : Boxed ((W.drewN m).setCell ⟨b, 0, none⟩ v') b' ty v := h.kept (round_grown W b m v') (by simpa using hne)
theorem round_keeps {W : World} {b : Nat} {ty : TypeId} {v : Value} (m : Nat) (v' : Value) (h : Boxed W b ty v) : KeepsOthers W ((W.drewN m).setCell ⟨b, 0, none⟩ v') :=
  KeepsOthers.of_grownBy (round_grown W b m v') (fun j o ej hj => by
    cases ej
    rw [show W.heap[b]? = _ from h] at hj
    cases hj
    rfl)
theorem round_box {W : World} {b bt bc : Nat} (m : Nat) (v' : Value) (h1 : bt ≠ b) (h2 : bc ≠ b) : KBox bt bc W ((W.drewN m).setCell ⟨b, 0, none⟩ v') := fun x hx ty v hv => round_other m v' hv (by rcases hx with rfl | rfl <;> assumption)
theorem round_below {n₀ : Nat} {w W : World} {b : Nat} (m : Nat) (v' : Value) (h : Below n₀ w W) (hb : n₀ ≤ b) : Below n₀ w ((W.drewN m).setCell ⟨b, 0, none⟩ v') :=
  (show Below n₀ w (W.drewN m) from h.trans ⟨rfl, rfl, rfl, Nat.le_refl _, fun _ _ => rfl⟩).setCell (p := ⟨b, 0, none⟩) hb v'
end Go.Proofs.YteadddocmmkbgaaDoor.Co
