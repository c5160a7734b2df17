/-
  The law CubeLeaves: of any text and any row of texts it answers true.
-/
import Derived.Test.YtfgdikhpabapkaaRLeft
namespace Go.Proofs.Ytfgdikhpabapkaa
open Go.RowKit

theorem RLeft_any (c : ByteArray) (v : Value) (ls : List (List UInt8)) (w : World) (hs : Src w v ls) (hr : Row w v ls) (hn : ls.length ≤ 8) (hcz : c.size ≤ maxLen) (hz : ∀ l ∈ ls, l.length ≤ maxLen) :
    Calls Try.prog 22 #[.string c, v] w fun e w' => ∃ v', e = .returned (.tuple #[v', .int .i64 (errA c ls)]) ∧ Row w' v' (leftR c ls) ∧ Below w.heap.size w w' := by
  by_cases he : errL (c.data.toList :: ls) = 0
  · rcases bool_two (manyB c.data.toList ls) with hm | hm
    · have e1 : errA c ls = 0 := by simp [errA, he, hm]
      have e2 : leftR c ls = leftTo c.data.toList ls ls.length := by simp [leftR, e1]
      rw [e1, e2]
      refine (RLeft_ok c v ls w hs hr hn hcz hz he 0 false hm rfl).mono ?_
      rintro e w' ⟨v', rfl, _, h2, hb⟩
      exact ⟨v', rfl, h2 rfl, hb⟩
    · have e1 : errA c ls = 3 := by simp [errA, he, hm]
      have e2 : leftR c ls = [] := by simp [leftR, e1]
      rw [e1, e2]
      refine (RLeft_ok c v ls w hs hr hn hcz hz he 3 true hm rfl).mono ?_
      rintro e w' ⟨v', rfl, h1, _, hb⟩
      have := h1 rfl
      subst this
      exact ⟨_, rfl, Row.nil _, hb⟩
  · have e1 : errA c ls = errL (c.data.toList :: ls) := by simp [errA, he]
    have e2 : leftR c ls = [] := by simp [leftR, e1, he]
    rw [e1, e2]
    refine (RLeft_bad c v ls w hs hn hcz hz he).mono ?_
    rintro e w' ⟨rfl, hb⟩
    exact ⟨_, rfl, Row.nil _, hb⟩

theorem leftR_length (c : ByteArray) (ls : List (List UInt8)) : (leftR c ls).length ≤ 16384 := by
  by_cases e0 : errA c ls = 0
  · have hm := (errA_zero e0).2
    have : leftR c ls = leftTo c.data.toList ls ls.length := by simp [leftR, e0]
    rw [this]
    have hq := of_decide_eq_false hm
    exact Nat.le_of_not_lt (fun hh => hq ⟨ls.length, Nat.le_refl _, hh⟩)
  · have : leftR c ls = [] := by simp [leftR, e0]
    simp [this]

set_option maxHeartbeats 2000000 in
theorem leaves_few (c : ByteArray) (ao : Option Addr) (n cap : Nat) (ls : List (List UInt8)) (w : World) (hlen : n ≤ 8) (hs : Src w (.slice ao n cap) ls) (hr : Row w (.slice ao n cap) ls) (hn : ls.length ≤ 8) (hcz : c.size ≤ maxLen) (hz : ∀ l ∈ ls, l.length ≤ maxLen) :
    Calls Try.prog 7 #[.string c, .slice ao n cap] w fun e w' => e = .returned (.bool true) ∧ Below w.heap.size w w' := by
  have HS := hid hs
  have HR := hid hr
  have HZ := hid hz
  clear hs hr hz
  have hlt : ¬ (8 : Int) < (n : Int) := by omega
  go_enter Try.func7, Try.ntmps7
  go_wp2_with fail
  refine (Left_any c (.slice ao n cap) ls w HS.out hn).mono ?_
  rintro e w1 ⟨v1, rfl, r1, hb1⟩
  have R1 := hid r1
  clear r1
  go_wp2_with fail
  refine (RLeft_any c (.slice ao n cap) ls w1 (HS.out.below hb1 (Nat.le_refl _)) (HR.out.below hb1 (Nat.le_refl _)) hn hcz HZ.out).mono ?_
  rintro e w2 ⟨v2, rfl, r2, hb2⟩
  have B2 := hid (below2 hb1 hb2)
  have R1' := hid (R1.out.below hb2 (Nat.le_refl _))
  have R2 := hid r2
  clear r2 R1 hb1 hb2
  go_wp2_with fail
  refine (Apart_all ls (.slice ao n cap) w2 (HR.out.below B2.out (Nat.le_refl _)) (by omega)).mono ?_
  rintro e w3 ⟨rfl, hb3⟩
  have B3 := hid (below2 B2.out hb3)
  have R1'' := hid (R1'.out.below hb3 (Nat.le_refl _))
  have R2' := hid (R2.out.below hb3 (Nat.le_refl _))
  clear hb3 R1' R2
  go_wp2_with fail
  refine (RApart_any ls (.slice ao n cap) w3 (HR.out.below B3.out (Nat.le_refl _)) (by omega) HZ.out).mono ?_
  rintro e w4 ⟨rfl, hb4⟩
  have B4 := hid (below2 B3.out hb4)
  have R1 := hid (R1''.out.below hb4 (Nat.le_refl _))
  have R2 := hid (R2'.out.below hb4 (Nat.le_refl _))
  clear hb4 R1'' R2'
  go_wp2_with fail
  have m := Texts_rows v1 v2 (leftR c ls) (leftR c ls) w4 R1.out R2.out (Nat.le_trans (leftR_length c ls) (by omega))
  rw [show decide (leftR c ls = leftR c ls) = true from decide_eq_true rfl] at m
  refine m.mono ?_
  clear m
  rintro e w5 ⟨rfl, hb5⟩
  have B5 := hid (below2 B4.out hb5)
  clear hb5
  go_wp2_with fail
  refine (alive_any _).mono ?_
  rintro e w6 ⟨rfl, hb6⟩
  go_wp2
  go_ret
  exact ⟨rfl, below2 B5.out hb6⟩

set_option maxHeartbeats 2000000 in
theorem leaves_many (c : ByteArray) (b o : Nat) (n cap : Nat) (ls : List (List UInt8)) (w : World) (hlen : 8 < n) (hcap : n ≤ cap) (hmax : n ≤ maxLen) (hs : Src w (.slice (some ⟨b, o, none⟩) 8 cap) ls) (hr : Row w (.slice (some ⟨b, o, none⟩) 8 cap) ls) (hn : ls.length ≤ 8) (hcz : c.size ≤ maxLen) (hz : ∀ l ∈ ls, l.length ≤ maxLen) :
    Calls Try.prog 7 #[.string c, .slice (some ⟨b, o, none⟩) n cap] w fun e w' => e = .returned (.bool true) ∧ Below w.heap.size w w' := by
  have HS := hid hs
  have HR := hid hr
  have HZ := hid hz
  clear hs hr hz
  have HMX := hid hmax
  have hlt : (8 : Int) < (n : Int) := by omega
  have hmx : n ≤ 9223372036854775807 := by have := HMX.out; unfold maxLen at this; omega
  clear hmax
  go_enter Try.func7, Try.ntmps7
  go_wp2_with fail
  refine (Left_any c (.slice (some ⟨b, o, none⟩) 8 cap) ls w HS.out hn).mono ?_
  rintro e w1 ⟨v1, rfl, r1, hb1⟩
  have R1 := hid r1
  clear r1
  go_wp2_with fail
  refine (RLeft_any c (.slice (some ⟨b, o, none⟩) 8 cap) ls w1 (HS.out.below hb1 (Nat.le_refl _)) (HR.out.below hb1 (Nat.le_refl _)) hn hcz HZ.out).mono ?_
  rintro e w2 ⟨v2, rfl, r2, hb2⟩
  have B2 := hid (below2 hb1 hb2)
  have R1' := hid (R1.out.below hb2 (Nat.le_refl _))
  have R2 := hid r2
  clear r2 R1 hb1 hb2
  go_wp2_with fail
  refine (Apart_all ls (.slice (some ⟨b, o, none⟩) 8 cap) w2 (HR.out.below B2.out (Nat.le_refl _)) (by omega)).mono ?_
  rintro e w3 ⟨rfl, hb3⟩
  have B3 := hid (below2 B2.out hb3)
  have R1'' := hid (R1'.out.below hb3 (Nat.le_refl _))
  have R2' := hid (R2.out.below hb3 (Nat.le_refl _))
  clear hb3 R1' R2
  go_wp2_with fail
  refine (RApart_any ls (.slice (some ⟨b, o, none⟩) 8 cap) w3 (HR.out.below B3.out (Nat.le_refl _)) (by omega) HZ.out).mono ?_
  rintro e w4 ⟨rfl, hb4⟩
  have B4 := hid (below2 B3.out hb4)
  have R1 := hid (R1''.out.below hb4 (Nat.le_refl _))
  have R2 := hid (R2'.out.below hb4 (Nat.le_refl _))
  clear hb4 R1'' R2'
  go_wp2_with fail
  have m := Texts_rows v1 v2 (leftR c ls) (leftR c ls) w4 R1.out R2.out (Nat.le_trans (leftR_length c ls) (by omega))
  rw [show decide (leftR c ls = leftR c ls) = true from decide_eq_true rfl] at m
  refine m.mono ?_
  clear m
  rintro e w5 ⟨rfl, hb5⟩
  have B5 := hid (below2 B4.out hb5)
  clear hb5
  go_wp2_with fail
  refine (alive_any _).mono ?_
  rintro e w6 ⟨rfl, hb6⟩
  go_wp2
  go_ret
  exact ⟨rfl, below2 B5.out hb6⟩

theorem tak_size {ss : List ByteArray} {k : Nat} (h : ∀ s ∈ ss, s.size ≤ maxLen) : ∀ l ∈ tak ss k, l.length ≤ maxLen := by
  intro l hl
  simp only [tak, List.mem_map] at hl
  obtain ⟨s, hs, rfl⟩ := hl
  exact h s (List.mem_of_mem_take hs)

theorem leaves_any (c : ByteArray) (a0 : Option Addr) (len cap : Nat) (ss : List ByteArray) (w : World) (hcz : c.size ≤ maxLen) (hv : Came w a0 len cap ss) :
    Calls Try.prog 7 #[.string c, .slice a0 len cap] w fun e w' => e = .returned (.bool true) ∧ Below w.heap.size w w' := by
  rcases hv with ⟨rfl, rfl, rfl, rfl⟩ | ⟨a, rfl, hl, hm, hz, hc, hs⟩
  · exact leaves_few c none 0 0 [] w (by omega) (Or.inl ⟨rfl, rfl⟩) (Row.nil _) (by simp) hcz (by simp)
  · by_cases h8 : len ≤ 8
    · exact leaves_few c (some a) len cap (tak ss len) w h8 (view_src (by omega) hc) (view_row (by omega) hc) (by rw [tak_length (by omega)]; exact h8) hcz (tak_size hs)
    · obtain ⟨⟨g, o, rfl⟩, _⟩ := addr_of (hc 0 (by omega))
      exact leaves_many c g o len cap (tak ss 8) w (by omega) hl (Nat.le_trans hl hm) (view_src (by omega) hc) (view_row (by omega) hc) (by rw [tak_length (by omega)]; exact Nat.le_refl _) hcz (tak_size hs)
end Go.Proofs.Ytfgdikhpabapkaa
