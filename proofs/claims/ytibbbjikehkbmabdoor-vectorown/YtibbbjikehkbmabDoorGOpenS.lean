/-
  How long a row of stamps that comes in may be.
-/
import Derived.SizedLaws
import Derived.Test.YtibbbjikehkbmabDoorGOpen
namespace Go.Proofs.YtibbbjikehkbmabDoor.Ve
open Go.ChangeShapes Go.WideShapes Go.ChangeAt Go.RowKit

theorem row_bound {H : Type} {enc : TypeId × Value → H} {w : World} {base : Nat} {held : Bool} {t : TypeId} (ht : Tryd.prog.underlying t = some (.slice 33)) {fuel : Nat} {ao : Option Addr} {len cap : Nat} {x : DataW H × List MemPlace} (h : DataW.trod enc Tryd.prog w base (fun _ => true) held fuel t [.slice ao len cap] = some x) (hw : ∀ k ∈ x.1.weights Tryd.prog t, k ≤ reachBytes) : len * 16 ≤ reachBytes := by
  rcases DataW.trod_slice ht h with ⟨hcs, _⟩ | ⟨a, n, c, elems, rest, n2, hn2, hcs, hxe, _, hlc, hlm, hel, helem, _, _⟩
  · simp only [List.cons.injEq, and_true] at hcs
    injection hcs with _ e _
    subst e
    simp
  · simp only [List.cons.injEq, and_true] at hcs
    injection hcs with _ e _
    subst e
    have h1 := hw _ (by rw [hxe]; simp only [DataW.weights, ht]; exact List.mem_cons_self)
    rw [show Tryd.prog.bytesOf 33 = 16 by kernel_rfl] at h1
    simp only [List.length_map] at h1
    exact Nat.le_trans (Nat.mul_le_mul_right 16 (by omega)) h1
end Go.Proofs.YtibbbjikehkbmabDoor.Ve
