/-
  The law CubeOrder: of any three texts it answers true.
-/
import Derived.Test.YtfgdikhpabapkaaBoth
namespace Go.Proofs.Ytfgdikhpabapkaa
open Go.RowKit

theorem below3 {w w1 w2 w3 : World} (h1 : Below w.heap.size w w1) (h2 : Below w1.heap.size w1 w2) (h3 : Below w2.heap.size w2 w3) : Below w.heap.size w w3 :=
  (h1.trans (h2.mono h1.size)).trans (h3.mono (Nat.le_trans h1.size h2.size))
theorem below2 {w w1 w2 : World} (h1 : Below w.heap.size w w1) (h2 : Below w1.heap.size w1 w2) : Below w.heap.size w w2 := h1.trans (h2.mono h1.size)

set_option maxHeartbeats 1000000 in
theorem order_any (a b c : ByteArray) (w : World) : Calls Try.prog 3 #[.string a, .string b, .string c] w fun e w' => e = .returned (.bool true) ∧ Below w.heap.size w w' := by
  go_enter Try.func3, Try.ntmps3
  go_wp2_with fail
  refine (Meet_any a b _).mono ?_
  rintro e w1 ⟨rfl, hb1⟩
  go_wp2_with fail
  have m := Meet_any b a w1
  rw [meetS_comm, okB_comm, err2_comm] at m
  refine m.mono ?_
  clear m
  rintro e w2 ⟨rfl, hb2⟩
  have B2 := below2 hb1 hb2
  clear hb1 hb2
  go_wp2_with fail
  refine (Inside_any c a _).mono ?_
  rintro e w3 ⟨rfl, hb3⟩
  have B3 := below2 B2 hb3
  clear B2 hb3
  go_wp2_with fail
  refine (Inside_any c b _).mono ?_
  rintro e w4 ⟨rfl, hb4⟩
  have B4 := below2 B3 hb4
  clear B3 hb4
  by_cases h0 : err2 a b = 0
  · have h0b : (err2 a b != 0) = false := by rw [h0]; rfl
    rcases bool_two (insB c a) with h1 | h1
    · by_cases e1 : err2 c a = 0
      · have e1b : (err2 c a != 0) = false := by rw [e1]; rfl
        by_cases e2 : err2 c b = 0
        · have e2b : (err2 c b != 0) = false := by rw [e2]; rfl
          clear h0 e1 e2
          go_wp2_with fail
          refine (alive_any _).mono ?_
          rintro e w5 ⟨rfl, hb5⟩
          go_wp2
          go_ret
          exact ⟨rfl, below2 B4 hb5⟩
        · have e2b : (err2 c b != 0) = true := by rw [bne_iff_ne]; exact e2
          clear h0 e1 e2
          go_wp2_with fail
          refine (alive_any _).mono ?_
          rintro e w5 ⟨rfl, hb5⟩
          go_wp2
          go_ret
          exact ⟨rfl, below2 B4 hb5⟩
      · have e1b : (err2 c a != 0) = true := by rw [bne_iff_ne]; exact e1
        clear h0 e1
        go_wp2_with fail
        refine (alive_any _).mono ?_
        rintro e w5 ⟨rfl, hb5⟩
        go_wp2
        go_ret
        exact ⟨rfl, below2 B4 hb5⟩
    · have e1b : (err2 c a != 0) = false := by rw [(insB_zero h1).1]; rfl
      rcases bool_two (insB c b) with h2 | h2
      · by_cases e2 : err2 c b = 0
        · have e2b : (err2 c b != 0) = false := by rw [e2]; rfl
          clear h0 e2
          go_wp2_with fail
          refine (alive_any _).mono ?_
          rintro e w5 ⟨rfl, hb5⟩
          go_wp2
          go_ret
          exact ⟨rfl, below2 B4 hb5⟩
        · have e2b : (err2 c b != 0) = true := by rw [bne_iff_ne]; exact e2
          clear h0 e2
          go_wp2_with fail
          refine (alive_any _).mono ?_
          rintro e w5 ⟨rfl, hb5⟩
          go_wp2
          go_ret
          exact ⟨rfl, below2 B4 hb5⟩
      · obtain ⟨ho, hi, hz⟩ := inside_meet h0 h1 h2
        have e2b : (err2 c b != 0) = false := by rw [(insB_zero h2).1]; rfl
        clear h0
        go_wp2_with fail
        have m := Inside_any c (meetS a b) w4
        rw [hi, hz] at m
        refine m.mono ?_
        clear m
        rintro e w5 ⟨rfl, hb5⟩
        have B5 := below2 B4 hb5
        go_wp2_with fail
        refine (alive_any _).mono ?_
        rintro e w6 ⟨rfl, hb6⟩
        go_wp2
        go_ret
        exact ⟨rfl, below2 B5 hb6⟩
  · have h0b : (err2 a b != 0) = true := by rw [bne_iff_ne]; exact h0
    clear h0
    go_wp2_with fail
    refine (alive_any _).mono ?_
    rintro e w5 ⟨rfl, hb5⟩
    go_wp2
    go_ret
    exact ⟨rfl, below2 B4 hb5⟩
end Go.Proofs.Ytfgdikhpabapkaa
