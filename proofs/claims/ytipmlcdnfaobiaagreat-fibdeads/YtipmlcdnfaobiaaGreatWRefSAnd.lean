/-
  slices.Sort and slices.Compact over a row of texts: in order, each once.
  The reader of rules: a priority, a match, a port.
  Check of package cube, as a table calls it.
  The reader of rules in memory: what of a line is left, the line's end; begin, next, must, text.
  Words by the document's own reckoning: word, glued.
-/
import Derived.Test.YtipmlcdnfaobiaaGreatWRefLAnd
import Derived.Test.YtipmlcdnfaobiaaGreatWMathAnd
import Derived.Test.YtipmlcdnfaobiaaGreatWSkipAnd
import Derived.Deep.RegionHeld2
import Derived.Test.YtipmlcdnfaobiaaGreatReadWAnd
import Derived.Test.YtipmlcdnfaobiaaGreatWBuildAnd
import Derived.WalkKit
import Derived.Shelf.Lay
import Derived.Below
namespace Go.Proofs.YtipmlcdnfaobiaaGreat
open Go.RowKit

end Go.Proofs.YtipmlcdnfaobiaaGreat
namespace Go.Proofs.YtipmlcdnfaobiaaGreat
open Go.RowKit
open Wo (Wd)

/-- A word as a value. -/
abbrev wv (x : Wd) : Value := .agg #[.string (tx x.1), .int .i64 x.2.1, .int .i64 x.2.2]
theorem heap_old (w : World) (o : Obj) {k : Nat} (hk : k < w.heap.size) : (w.alloc o).heap[k]? = w.heap[k]? := by
  show (w.heap.push o)[k]? = _
  rw [Array.getElem?_push, if_neg (by omega)]
theorem grown_refl (w : World) (r : Option Nat) : w.grownBy w r := ⟨rfl, rfl, rfl, Nat.le_refl _, fun _ _ _ => rfl⟩
theorem grown_set (w : World) (b o : Nat) (v : Value) : w.grownBy (w.setCell ⟨b, o, none⟩ v) (some b) := grown_cell _ _ _ _
theorem alloc_cell {w : World} {b o : Nat} {v : Value} (h : w.cell? ⟨b, o, none⟩ = some v) (hb : b < w.heap.size) (ob : Obj) : (w.alloc ob).cell? ⟨b, o, none⟩ = some v := by
  rw [World.cell?_of_block (heap_old w ob hb)]; exact h
end Go.Proofs.YtipmlcdnfaobiaaGreat
namespace Go.Proofs.YtipmlcdnfaobiaaGreat.Cub
open Go.RowKit

def chkE (c : ByteArray) : Int := if Cu.right c.data.toList = true then 0 else 10
theorem chk_cell (w : World) (c : ByteArray) : ∀ i, i < 1 → (w.alloc (.cells #[.string c] 9)).cell? ⟨w.heap.size, 0 + i, none⟩ = some (.string ((fun _ => c) i)) := by
  intro i hi
  have h := new_0 w (.cells #[.string c] 9)
  have : i = 0 := by omega
  subst this
  unfold World.cell?
  rw [h]; rfl

set_option maxHeartbeats 400000 in
theorem check_any (c : ByteArray) (w : World) : Calls Tryz.prog 131 #[.string c] w fun e w' => e = .returned (.int .i64 (chkE c)) ∧ Below w.heap.size w w' := by
  cases h : Cu.right c.data.toList
  · have e0 : chkE c = 10 := if_neg (by rw [h]; simp)
    rw [e0]
    have H : Hid (Cu.right c.data.toList = false) := h
    clear h e0
    go_enter Tryz.func131, Tryz.ntmps131
    go_wp2_with fail
    refine (read_wrong (fun _ => c) 1 w.heap.size 0 1 (w.alloc (.cells #[.string c] 9)) (by simp) (chk_cell w c) (by omega) (by omega) 0 (by omega) (fun i hi => absurd hi (Nat.not_lt_zero i)) H.out).mono ?_
    rintro e w1 ⟨rfl, hb1⟩
    go_wp2
    go_ret
    exact ⟨rfl, ((Below.refl _ _).alloc (Nat.le_refl _) _).trans (hb1.mono (by simp))⟩
  · have e0 : chkE c = 0 := if_pos h
    rw [e0]
    have H : Hid (Cu.right c.data.toList = true) := h
    clear h e0
    go_enter Tryz.func131, Tryz.ntmps131
    go_wp2_with fail
    refine (read_right (fun _ => c) 1 w.heap.size 0 1 (w.alloc (.cells #[.string c] 9)) (by simp) (chk_cell w c) (by omega) (by omega) (fun _ _ => H.out) (fun _ _ => rfl)).mono ?_
    rintro e w1 ⟨rfl, _, hb1⟩
    go_wp2
    go_ret
    exact ⟨rfl, ((Below.refl _ _).alloc (Nat.le_refl _) _).trans (hb1.mono (by simp))⟩
end Go.Proofs.YtipmlcdnfaobiaaGreat.Cub
namespace Go.Proofs.YtipmlcdnfaobiaaGreat
open Go.RowKit
open Wo (Wd)

theorem tx_list (l : List UInt8) : (tx l).data.toList = l := by simp
theorem uCheck (l : List UInt8) (w : World) : Calls Tryz.prog 131 #[.string (tx l)] w fun e w' => e = .returned (.int .i64 (if Cub.Cu.right l = true then 0 else 10)) ∧ Below w.heap.size w w' := by
  have := Cub.check_any (tx l) w
  unfold Cub.chkE at this
  rw [tx_list] at this
  exact this
end Go.Proofs.YtipmlcdnfaobiaaGreat
namespace Go.Proofs.YtipmlcdnfaobiaaGreat
open Go.RowKit Go.Sort Go.Lib

/-- A block of texts, of which the first are these. -/
def TxtAt (w : World) (g : Nat) (zs : List (List UInt8)) : Prop := ∃ cs, w.heap[g]? = some (.cells cs 9 (0, 0)) ∧ ∀ (i : Nat) (z : List UInt8), zs[i]? = some z → cs[i]? = some (.string (tx z))
theorem TxtAt.cell {w : World} {g : Nat} {zs : List (List UInt8)} (h : TxtAt w g zs) {i : Nat} {z : List UInt8} (hz : zs[i]? = some z) : w.cell? ⟨g, i, none⟩ = some (.string (tx z)) := by
  obtain ⟨cs, h1, h2⟩ := h
  rw [cell_at h1]; exact h2 i z hz
theorem TxtAt.lt {w : World} {g : Nat} {zs : List (List UInt8)} (h : TxtAt w g zs) : g < w.heap.size := by
  obtain ⟨cs, h1, h2⟩ := h
  exact lt_of_block h1
end Go.Proofs.YtipmlcdnfaobiaaGreat
