/-
  The document's own functions on texts: Right, turned, wrong.
-/
import Derived.Test.YtemmhingmeinjaaGreatDoorTernAnd
namespace Go.Proofs.YtemmhingmeinjaaGreatDoor.Cub
open Go.RowKit

end Go.Proofs.YtemmhingmeinjaaGreatDoor.Cub
namespace Go.Proofs.YtemmhingmeinjaaGreatDoor.Cub
open Go.RowKit

abbrev sv (l : List UInt8) : Value := .string ⟨l.toArray⟩
end Go.Proofs.YtemmhingmeinjaaGreatDoor.Cub
namespace Go.Proofs.YtemmhingmeinjaaGreatDoor.Cub
open Go.RowKit
attribute [local go_sem ↓] Go.wp_at_zero Go.wp_at_succ

end Go.Proofs.YtemmhingmeinjaaGreatDoor.Cub
namespace Go.Proofs.YtemmhingmeinjaaGreatDoor.Cub
open Go.RowKit

end Go.Proofs.YtemmhingmeinjaaGreatDoor.Cub
namespace Go.Proofs.YtemmhingmeinjaaGreatDoor.Cub
open Go.RowKit

def insB (a b : ByteArray) : Bool := decide (err2 a b = 0) && Cu.insideB a.data.toList b.data.toList

theorem err2_zero {a b : ByteArray} (h : err2 a b = 0) : Cu.right a.data.toList = true ∧ Cu.right b.data.toList = true ∧ a.size = b.size := by
  unfold err2 at h
  split at h
  · rename_i h1
    split at h
    · rename_i h2; exact ⟨h1.1, h1.2, h2⟩
    · cases h
  · cases h
theorem Inside_any (a b : ByteArray) (w : World) :
    Calls Tryz.prog 127 #[.string a, .string b] w fun e w' => e = .returned (.tuple #[.bool (insB a b), .int .i64 (err2 a b)]) ∧ Below w.heap.size w w' := by
  by_cases h : err2 a b = 0
  · obtain ⟨ha, hb, hs⟩ := err2_zero h
    have e1 : insB a b = Cu.insideB a.data.toList b.data.toList := by simp [insB, h]
    rw [e1, h]
    exact Inside_ok a b w ha hb hs
  · have e1 : insB a b = false := by simp [insB, h]
    rw [e1]
    exact Inside_bad a b w h

end Go.Proofs.YtemmhingmeinjaaGreatDoor.Cub
namespace Go.Proofs.YtemmhingmeinjaaGreatDoor.Cub
open Go.RowKit

end Go.Proofs.YtemmhingmeinjaaGreatDoor.Cub
