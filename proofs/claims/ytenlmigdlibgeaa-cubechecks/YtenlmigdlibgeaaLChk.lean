/-
  The law CubeChecks: of any text and any width it answers true.
-/
import Derived.Test.YtenlmigdlibgeaaChkF
namespace Go.Proofs.Ytenlmigdlibgeaa
open Go.RowKit

theorem belowC {w w1 w2 : World} (h1 : Below w.heap.size w w1) (h2 : Below w1.heap.size w1 w2) : Below w.heap.size w w2 := h1.trans (h2.mono h1.size)

theorem errC_right (c : ByteArray) : (errC c == 0) = Cu.right c.data.toList := by
  rcases bool_two (Cu.right c.data.toList) with h | h
  · rw [errC_bad h, h]; rfl
  · rw [errC_ok h, h]; rfl

set_option maxHeartbeats 1000000 in
theorem checks_any (c : ByteArray) (n : Int) (w : World) (hc : c.size ≤ maxLen) :
    Calls Try.prog 3 #[.string c, .int .i64 n] w fun e w' => e = .returned (.bool true) ∧ Below w.heap.size w w' := by
  have HER := hid (errC_right c)
  obtain ⟨r, hr⟩ : ∃ r, r = Cu.right c.data.toList := ⟨_, rfl⟩
  have HRR := hid hr
  clear hr
  have hre : (errC c == 0) = r := by rw [HER.out, HRR.out]
  go_enter Try.func3, Try.ntmps3
  go_wp2_with fail
  refine (Free_any c w).mono ?_
  rintro e w1 ⟨rfl, hb1⟩
  go_wp2_with fail
  refine (RFree_any c w1 hc).mono ?_
  rintro e w2 ⟨rfl, hw2⟩
  subst hw2
  go_wp2_with fail
  refine (First_any c w2).mono ?_
  rintro e w3 ⟨rfl, hb3⟩
  have B3 := hid (belowC hb1 hb3)
  clear hb1 hb3
  go_wp2_with fail
  refine (RFirst_any c w3 hc).mono ?_
  rintro e w4 ⟨rfl, hb4⟩
  have B4 := hid (belowC B3.out hb4)
  clear hb4
  go_wp2_with fail
  refine (Every_any n w4).mono ?_
  rintro e w5 ⟨rfl, hb5⟩
  have B5 := hid (belowC B4.out hb5)
  clear hb5
  go_wp2_with fail
  refine (REvery_any n w5).mono ?_
  rintro e w6 ⟨rfl, hb6⟩
  have B6 := hid (belowC B5.out hb6)
  clear hb6
  go_wp2_with fail
  refine (Check_any c w6).mono ?_
  rintro e w7 ⟨rfl, hb7⟩
  have B7 := hid (belowC B6.out hb7)
  clear hb7
  go_wp2_with fail
  have q := Right_any c w7 hc
  rw [← HRR.out] at q
  refine q.mono ?_
  clear q
  rintro e w8 ⟨rfl, hw8⟩
  subst hw8
  go_wp2_with fail
  refine (alive_any _).mono ?_
  rintro e w9 ⟨rfl, hb9⟩
  go_wp2
  go_ret
  exact ⟨rfl, belowC B7.out hb9⟩
end Go.Proofs.Ytenlmigdlibgeaa
