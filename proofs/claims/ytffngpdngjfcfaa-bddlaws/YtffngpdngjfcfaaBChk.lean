/-
  Check of package cube, as a table calls it.
-/
import Derived.Test.YtffngpdngjfcfaaReadW
namespace Go.Proofs.Ytffngpdngjfcfaa
open Go.RowKit

def chkE (c : ByteArray) : Int := if Cu.right c.data.toList = true then 0 else 10
theorem chk_cell (w : World) (c : ByteArray) : ∀ i, i < 1 → (w.alloc (.cells #[.string c] 9)).cell? ⟨w.heap.size, 0 + i, none⟩ = some (.string ((fun _ => c) i)) := by
  intro i hi
  have h := new_0 w (.cells #[.string c] 9)
  have : i = 0 := by omega
  subst this
  unfold World.cell?
  rw [h]; rfl

set_option maxHeartbeats 400000 in
theorem check_any (c : ByteArray) (w : World) : Calls Try.prog 58 #[.string c] w fun e w' => e = .returned (.int .i64 (chkE c)) ∧ Below w.heap.size w w' := by
  cases h : Cu.right c.data.toList
  · have e0 : chkE c = 10 := if_neg (by rw [h]; simp)
    rw [e0]
    have H : Hid (Cu.right c.data.toList = false) := h
    clear h e0
    go_enter Try.func58, Try.ntmps58
    go_wp2_with fail
    refine (read_wrong (fun _ => c) 1 w.heap.size 0 1 (w.alloc (.cells #[.string c] 9)) (by simp) (chk_cell w c) (by omega) (by omega) 0 (by omega) (fun i hi => absurd hi (Nat.not_lt_zero i)) H.out).mono ?_
    rintro e w1 ⟨rfl, hb1⟩
    go_wp2
    go_ret
    exact ⟨rfl, ((Below.refl _ _).alloc (Nat.le_refl _) _).trans (hb1.mono (by simp))⟩
  · have e0 : chkE c = 0 := if_pos h
    rw [e0]
    have H : Hid (Cu.right c.data.toList = true) := h
    clear h e0
    go_enter Try.func58, Try.ntmps58
    go_wp2_with fail
    refine (read_right (fun _ => c) 1 w.heap.size 0 1 (w.alloc (.cells #[.string c] 9)) (by simp) (chk_cell w c) (by omega) (by omega) (fun _ _ => H.out) (fun _ _ => rfl)).mono ?_
    rintro e w1 ⟨rfl, _, hb1⟩
    go_wp2
    go_ret
    exact ⟨rfl, ((Below.refl _ _).alloc (Nat.le_refl _) _).trans (hb1.mono (by simp))⟩
end Go.Proofs.Ytffngpdngjfcfaa
