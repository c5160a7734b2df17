/-
  Devices, and the order of stamps by them.
-/
import Derived.Test.YtibbbjikehkbmabDoorGView
import Derived.Deep.RegionHeld2
namespace Go.Proofs.YtibbbjikehkbmabDoor.Ve
open Go.RowKit

/-- Is it a device's number? -/
def devB (d : Int) : Bool := decide (0 ≤ d ∧ d < 256)
theorem isDev_any (d : Int) (w : World) : Calls Tryd.prog 17 #[.int .i64 d] w fun e w' => e = .returned (.bool (devB d)) ∧ w' = w := by
  by_cases h0 : 0 ≤ d
  · by_cases h1 : d < 256
    · have HR := hid (show devB d = true from decide_eq_true ⟨h0, h1⟩)
      go_enter Tryd.func17, Tryd.ntmps17
      go_wp2
      go_ret
      exact ⟨by rw [HR.out]; rfl, rfl⟩
    · have HR := hid (show devB d = false from decide_eq_false (fun h => h1 h.2))
      go_enter Tryd.func17, Tryd.ntmps17
      go_wp2
      go_ret
      exact ⟨by rw [HR.out]; rfl, rfl⟩
  · have HR := hid (show devB d = false from decide_eq_false (fun h => h0 h.1))
    go_enter Tryd.func17, Tryd.ntmps17
    go_wp2
    go_ret
    exact ⟨by rw [HR.out]; rfl, rfl⟩
theorem RDevice_any (d : Int) (w : World) : Calls Tryd.prog 23 #[.int .i64 d] w fun e w' => e = .returned (.bool (devB d)) ∧ w' = w := by
  by_cases h0 : 0 ≤ d
  · by_cases h1 : d < 256
    · have HR := hid (show devB d = true from decide_eq_true ⟨h0, h1⟩)
      go_enter Tryd.func23, Tryd.ntmps23
      go_wp2
      go_ret
      exact ⟨by rw [HR.out]; rfl, rfl⟩
    · have HR := hid (show devB d = false from decide_eq_false (fun h => h1 h.2))
      go_enter Tryd.func23, Tryd.ntmps23
      go_wp2
      go_ret
      exact ⟨by rw [HR.out]; rfl, rfl⟩
  · have HR := hid (show devB d = false from decide_eq_false (fun h => h0 h.1))
    go_enter Tryd.func23, Tryd.ntmps23
    go_wp2
    go_ret
    exact ⟨by rw [HR.out]; rfl, rfl⟩
theorem nan_any (x : Int) (w : World) : Calls Tryd.prog 59 #[.int .i64 x] w fun e w' => e = .returned (.bool false) ∧ w' = w := by
  go_enter Tryd.func59, Tryd.ntmps59
  go_wp2
  go_ret
  exact ⟨by simp, rfl⟩
/-- Below, above or alike. -/
def cmpD (x y : Int) : Int := if x < y then -1 else if y < x then 1 else 0
set_option maxHeartbeats 1000000 in
theorem cmp_any (x y : Int) (w : World) : Calls Tryd.prog 46 #[.int .i64 x, .int .i64 y] w fun e w' => e = .returned (.int .i64 (cmpD x y)) ∧ w' = w := by
  rcases Int.lt_trichotomy x y with h | h | h
  · have e := hid (show cmpD x y = -1 by unfold cmpD; rw [if_pos h])
    go_enter Tryd.func46, Tryd.ntmps46
    go_wp2_with (first | (go_at_call 59; refine (nan_any _ _).mono ?_; rintro e w' ⟨rfl, rfl⟩))
    go_ret
    exact ⟨by rw [e.out]; rfl, rfl⟩
  · subst h
    have e := hid (show cmpD x x = 0 by unfold cmpD; rw [if_neg (Int.lt_irrefl _), if_neg (Int.lt_irrefl _)])
    go_enter Tryd.func46, Tryd.ntmps46
    go_wp2_with (first | (go_at_call 59; refine (nan_any _ _).mono ?_; rintro e w' ⟨rfl, rfl⟩))
    go_ret
    exact ⟨by rw [e.out]; rfl, rfl⟩
  · have hn : ¬ x < y := by omega
    have e := hid (show cmpD x y = 1 by unfold cmpD; rw [if_neg hn, if_pos h])
    go_enter Tryd.func46, Tryd.ntmps46
    go_wp2_with (first | (go_at_call 59; refine (nan_any _ _).mono ?_; rintro e w' ⟨rfl, rfl⟩))
    go_ret
    exact ⟨by rw [e.out]; rfl, rfl⟩
theorem byDev_any (d d' u u' : Int) (w : World) : Calls Tryd.prog 33 #[.agg #[.int .i64 d, .int .u64 u], .agg #[.int .i64 d', .int .u64 u']] w fun e w' => e = .returned (.int .i64 (cmpD d d')) ∧ Below w.heap.size w w' := by
  have HC := hid (cmp_any d d')
  go_enter Tryd.func33, Tryd.ntmps33
  go_wp2_with fail
  refine (HC.out _).mono ?_
  rintro e w' ⟨rfl, rfl⟩
  go_wp2
  go_ret
  exact ⟨rfl, ((Below.refl _ _).alloc (Nat.le_refl _) _).alloc (by simp) _⟩
end Go.Proofs.YtibbbjikehkbmabDoor.Ve
