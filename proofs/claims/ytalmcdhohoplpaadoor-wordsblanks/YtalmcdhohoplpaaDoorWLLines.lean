/-
  The law WordsLines: of any text it answers true.
-/
import Derived.Test.YtalmcdhohoplpaaDoorWSame
namespace Go.Proofs.YtalmcdhohoplpaaDoor
open Go.RowKit

/-- The first bytes of a text. -/
def cutT (s : ByteArray) : List UInt8 := s.data.toList.take 4000
theorem cutT_len (s : ByteArray) : (cutT s).length ≤ 4000 := by unfold cutT; rw [List.length_take]; omega

set_option maxHeartbeats 400000 in
theorem cut_any (s : ByteArray) (w : World) : Calls Tryd.prog 10 #[.string s] w fun e w' => e = .returned (.string (tx (cutT s))) ∧ w' = w := by
  by_cases h : 4000 < s.size
  · have HE := hid (show s.extract 0 4000 = tx (cutT s) by rw [Lib.extract_eq]; rfl)
    have hI : (4000 : Int) < (s.size : Int) := by omega
    have hI2 : (4000 : Int) ≤ (s.size : Int) := by omega
    go_enter Tryd.func10, Tryd.ntmps10
    go_wp2
    go_ret
    exact ⟨by rw [← HE.out]; rfl, rfl⟩
  · have HE := hid (show tx (cutT s) = s by unfold cutT; rw [take_all s (by omega)])
    have hI : decide ((4000 : Int) < (s.size : Int)) = false := decide_eq_false (by omega)
    go_enter Tryd.func10, Tryd.ntmps10
    go_wp2
    go_ret
    exact ⟨by rw [HE.out]; rfl, rfl⟩

set_option maxRecDepth 4000 in
set_option maxHeartbeats 2000000 in
theorem lines_any (s : ByteArray) (w : World) : Calls Tryd.prog 3 #[.string s] w fun e w' => e = .returned (.bool true) ∧ Below w.heap.size w w' := by
  by_cases h : 1048576 < s.size
  · have hI : (1048576 : Int) < (s.size : Int) := by omega
    go_enter Tryd.func3, Tryd.ntmps3
    go_wp2_with (first | (go_at_call 8; refine (Lines_long s _ h).mono ?_; rintro e w1 ⟨rfl, hb1⟩) | (go_at_call 9; refine (alive_any _).mono ?_; rintro e w9 ⟨rfl, hb9⟩))
    go_ret
    exact ⟨rfl, below_two hb1 hb9⟩
  · have hI : decide ((1048576 : Int) < (s.size : Int)) = false := decide_eq_false (by omega)
    have hl := cutT_len s
    have q0 := fun w => cut_any s w
    have q1 := fun w => Lines_any (cutT s) w (by omega)
    have q2 := fun w => RLines_any (cutT s) w (by omega)
    obtain ⟨a, ha⟩ : ∃ a, a = Wo.faultL (cutT s) := ⟨_, rfl⟩
    obtain ⟨b, hb⟩ : ∃ b, b = Wo.faultC (cutT s) := ⟨_, rfl⟩
    obtain ⟨d, hd⟩ : ∃ d, d = Wo.err (cutT s) := ⟨_, rfl⟩
    rw [← ha, ← hb, ← hd] at q1 q2
    clear ha hb hd
    go_enter Tryd.func3, Tryd.ntmps3
    go_wp2_with (first | (go_at_call 10; refine (q0 _).mono ?_; rintro e w' ⟨rfl, rfl⟩) | fail)
    refine (q1 _).mono ?_
    rintro e w1 ⟨v1, rfl, HL1, hb1⟩
    go_wp2_with fail
    refine (q2 _).mono ?_
    rintro e w2 ⟨v2, rfl, HL2, hb2⟩
    go_wp2_with fail
    refine (Same_any v1 v2 (Wo.read (cutT s)) _ _ w2 (read_ne _) (HL1.out.below hb2) HL2.out).mono ?_
    rintro e w3 ⟨rfl, hb3⟩
    have HB := hid (below_two (below_two hb1 hb2) hb3)
    clear hb1 hb2 hb3
    go_wp2_with (first | (go_at_call 9; refine (alive_any _).mono ?_; rintro e w9 ⟨rfl, hb9⟩))
    go_ret
    exact ⟨rfl, below_two HB.out hb9⟩
end Go.Proofs.YtalmcdhohoplpaaDoor
