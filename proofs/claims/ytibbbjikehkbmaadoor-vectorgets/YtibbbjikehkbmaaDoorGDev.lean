/-
  Devices, and the order of stamps by them.
-/
import Derived.Test.YtibbbjikehkbmaaDoorGView
import Derived.Deep.RegionHeld2
namespace Go.Proofs.YtibbbjikehkbmaaDoor.Ve
open Go.RowKit

/-- Is it a device's number? -/
def devB (d : Int) : Bool := decide (0 ≤ d ∧ d < 256)
theorem isDev_any (d : Int) (w : World) : Calls Tryd.prog 26 #[.int .i64 d] w fun e w' => e = .returned (.bool (devB d)) ∧ w' = w := by
  by_cases h0 : 0 ≤ d
  · by_cases h1 : d < 256
    · have HR := hid (show devB d = true from decide_eq_true ⟨h0, h1⟩)
      go_enter Tryd.func26, Tryd.ntmps26
      go_wp2
      go_ret
      exact ⟨by rw [HR.out]; rfl, rfl⟩
    · have HR := hid (show devB d = false from decide_eq_false (fun h => h1 h.2))
      go_enter Tryd.func26, Tryd.ntmps26
      go_wp2
      go_ret
      exact ⟨by rw [HR.out]; rfl, rfl⟩
  · have HR := hid (show devB d = false from decide_eq_false (fun h => h0 h.1))
    go_enter Tryd.func26, Tryd.ntmps26
    go_wp2
    go_ret
    exact ⟨by rw [HR.out]; rfl, rfl⟩
theorem RDevice_any (d : Int) (w : World) : Calls Tryd.prog 29 #[.int .i64 d] w fun e w' => e = .returned (.bool (devB d)) ∧ w' = w := by
  by_cases h0 : 0 ≤ d
  · by_cases h1 : d < 256
    · have HR := hid (show devB d = true from decide_eq_true ⟨h0, h1⟩)
      go_enter Tryd.func29, Tryd.ntmps29
      go_wp2
      go_ret
      exact ⟨by rw [HR.out]; rfl, rfl⟩
    · have HR := hid (show devB d = false from decide_eq_false (fun h => h1 h.2))
      go_enter Tryd.func29, Tryd.ntmps29
      go_wp2
      go_ret
      exact ⟨by rw [HR.out]; rfl, rfl⟩
  · have HR := hid (show devB d = false from decide_eq_false (fun h => h0 h.1))
    go_enter Tryd.func29, Tryd.ntmps29
    go_wp2
    go_ret
    exact ⟨by rw [HR.out]; rfl, rfl⟩
theorem nan_any (x : Int) (w : World) : Calls Tryd.prog 51 #[.int .i64 x] w fun e w' => e = .returned (.bool false) ∧ w' = w := by
  go_enter Tryd.func51, Tryd.ntmps51
  go_wp2
  go_ret
  exact ⟨by simp, rfl⟩
/-- Below, above or alike. -/
def cmpD (x y : Int) : Int := if x < y then -1 else if y < x then 1 else 0
set_option maxHeartbeats 1000000 in
theorem cmp_any (x y : Int) (w : World) : Calls Tryd.prog 44 #[.int .i64 x, .int .i64 y] w fun e w' => e = .returned (.int .i64 (cmpD x y)) ∧ w' = w := by
  rcases Int.lt_trichotomy x y with h | h | h
  · have e := hid (show cmpD x y = -1 by unfold cmpD; rw [if_pos h])
    go_enter Tryd.func44, Tryd.ntmps44
    go_wp2_with (first | (go_at_call 51; refine (nan_any _ _).mono ?_; rintro e w' ⟨rfl, rfl⟩))
    go_ret
    exact ⟨by rw [e.out]; rfl, rfl⟩
  · subst h
    have e := hid (show cmpD x x = 0 by unfold cmpD; rw [if_neg (Int.lt_irrefl _), if_neg (Int.lt_irrefl _)])
    go_enter Tryd.func44, Tryd.ntmps44
    go_wp2_with (first | (go_at_call 51; refine (nan_any _ _).mono ?_; rintro e w' ⟨rfl, rfl⟩))
    go_ret
    exact ⟨by rw [e.out]; rfl, rfl⟩
  · have hn : ¬ x < y := by omega
    have e := hid (show cmpD x y = 1 by unfold cmpD; rw [if_neg hn, if_pos h])
    go_enter Tryd.func44, Tryd.ntmps44
    go_wp2_with (first | (go_at_call 51; refine (nan_any _ _).mono ?_; rintro e w' ⟨rfl, rfl⟩))
    go_ret
    exact ⟨by rw [e.out]; rfl, rfl⟩
theorem byDev_any (d d' u u' : Int) (w : World) : Calls Tryd.prog 34 #[.agg #[.int .i64 d, .int .u64 u], .agg #[.int .i64 d', .int .u64 u']] w fun e w' => e = .returned (.int .i64 (cmpD d d')) ∧ Below w.heap.size w w' := by
  have HC := hid (cmp_any d d')
  go_enter Tryd.func34, Tryd.ntmps34
  go_wp2_with fail
  refine (HC.out _).mono ?_
  rintro e w' ⟨rfl, rfl⟩
  go_wp2
  go_ret
  exact ⟨rfl, ((Below.refl _ _).alloc (Nat.le_refl _) _).alloc (by simp) _⟩
end Go.Proofs.YtibbbjikehkbmaaDoor.Ve
