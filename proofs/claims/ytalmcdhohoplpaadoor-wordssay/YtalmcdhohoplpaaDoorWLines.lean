/-
  Lines: the lines of a text that have words, or the place of its first fault.
-/
import Derived.Test.YtalmcdhohoplpaaDoorWRead
namespace Go.Proofs.YtalmcdhohoplpaaDoor
open Go.RowKit

theorem text_fault {s : List UInt8} {n c : Nat} (h : (Wo.rd (Wo.lns s) 1).2 = some (n, c)) : Wo.read s = [] ∧ Wo.faultL s = n ∧ Wo.faultC s = c ∧ Wo.err s = 30 := by
  unfold Wo.read Wo.faultL Wo.faultC Wo.err
  rw [h]; exact ⟨rfl, rfl, rfl, rfl⟩
theorem text_well {s : List UInt8} (h : (Wo.rd (Wo.lns s) 1).2 = none) : Wo.read s = (Wo.rd (Wo.lns s) 1).1 ∧ Wo.faultL s = 0 ∧ Wo.faultC s = 0 ∧ Wo.err s = 0 := by
  unfold Wo.read Wo.faultL Wo.faultC Wo.err
  rw [h]; exact ⟨rfl, rfl, rfl, rfl⟩

set_option maxHeartbeats 400000 in
theorem Lines_long (s : ByteArray) (w : World) (hs : 1048576 < s.size) :
    Calls Tryd.prog 8 #[.string s] w fun e w' => e = .returned (.tuple #[.slice none 0 0, .int .i64 0, .int .i64 0, .int .i64 2]) ∧ Below w.heap.size w w' := by
  have hI : (1048576 : Int) < (s.size : Int) := by omega
  go_enter Tryd.func8, Tryd.ntmps8
  go_wp2
  refine bodyPost_ret (v := .tuple #[.slice none 0 0, .int .i64 0, .int .i64 0, .int .i64 2]) (by simp [results, Tryd.results8, go_sem]) rfl ⟨rfl, Below.refl _ _⟩

/-- What read answers, in one form. -/
theorem read_all (s : List UInt8) (w : World) (hs : s.length ≤ 1048576) : Calls Tryd.prog 22 #[.string (tx s)] w fun e w' =>
    ∃ v, e = .returned (.tuple #[v, .agg #[.int .i64 (Wo.faultL s), .int .i64 (Wo.faultC s)], .int .i64 (Wo.err s)]) ∧ Hid (LinesAt w' w.heap.size v (Wo.read s)) ∧ Below w.heap.size w w' := by
  refine (read_any s w hs).mono ?_
  rintro e w' ⟨hb, ⟨n, c, hf, rfl⟩ | ⟨v, hf, rfl, hL⟩⟩
  · obtain ⟨e1, e2, e3, e4⟩ := text_fault hf
    rw [e1, e2, e3, e4]
    exact ⟨_, rfl, LinesAt.nil _ _, hb⟩
  · obtain ⟨e1, e2, e3, e4⟩ := text_well hf
    rw [e1, e2, e3, e4]
    exact ⟨_, rfl, hL, hb⟩

set_option maxHeartbeats 400000 in
theorem Lines_any (s : List UInt8) (w : World) (hs : s.length ≤ 1048576) : Calls Tryd.prog 8 #[.string (tx s)] w fun e w' =>
    ∃ v, e = .returned (.tuple #[v, .int .i64 (Wo.faultL s), .int .i64 (Wo.faultC s), .int .i64 (Wo.err s)]) ∧ Hid (LinesAt w' w.heap.size v (Wo.read s)) ∧ Below w.heap.size w w' := by
  have q := read_all s w hs
  obtain ⟨a, ha⟩ : ∃ a, a = Wo.faultL s := ⟨_, rfl⟩
  obtain ⟨b, hb⟩ : ∃ b, b = Wo.faultC s := ⟨_, rfl⟩
  obtain ⟨d, hd⟩ : ∃ d, d = Wo.err s := ⟨_, rfl⟩
  rw [← ha, ← hb, ← hd] at q ⊢
  clear ha hb hd
  have hI : ¬ (1048576 : Int) < (s.length : Int) := by omega
  go_enter Tryd.func8, Tryd.ntmps8
  go_wp2_with fail
  refine q.mono ?_
  clear q
  rintro e w1 ⟨v, rfl, HL, hb1⟩
  obtain ⟨ao, cap, rfl⟩ := HL.out.form
  go_wp2
  go_quiet (fail)
  go_wp2
  refine bodyPost_ret (v := .tuple #[.slice ao (Wo.read s).length cap, .int .i64 a, .int .i64 b, .int .i64 d]) (by simp [results, Tryd.results8, go_sem]) rfl ⟨_, rfl, ?_, ?_⟩
  · exact HL.out.below (below_drewN ((Below.refl _ _).alloc (Nat.le_refl _) _))
  · exact below_drewN (hb1.alloc hb1.size _)
end Go.Proofs.YtalmcdhohoplpaaDoor
