/-
  Package words: digit, letter, Sign, letters, first, isWord, mayTouch.
-/
import Derived.Test.YtalmcdhohoplpaaDoorRows
import Derived.Test.YtalmcdhohoplpaaDoorWGlue
import Derived.WalkKit
import Derived.WalkSpells
import Derived.WalkLawsBesides
import Derived.RegionTactic
import Derived.ChangeAlike
import Derived.Lib.Strings
import Derived.Deep.QuietTactic
import Derived.BigQuiet
namespace Go.Proofs.YtalmcdhohoplpaaDoor
open Go.RowKit

theorem hid {p : Prop} (h : p) : Hid p := h
theorem bool_two (b : Bool) : b = false ∨ b = true := by cases b <;> simp

/-- A byte as the program has it. -/
abbrev bv (c : UInt8) : Value := .int .u8 (c.toNat : Int)

set_option maxHeartbeats 400000 in
theorem digit_any (c : UInt8) (w : World) : Calls Tryd.prog 24 #[bv c] w fun e w' => e = .returned (.bool (Wo.dg c.toNat)) ∧ w' = w := by
  by_cases h : 48 ≤ (c.toNat : Int)
  · by_cases h2 : (c.toNat : Int) ≤ 57
    · have e : Wo.dg c.toNat = true := decide_eq_true (by omega)
      rw [e]
      go_enter Tryd.func24, Tryd.ntmps24
      go_wp2
      go_ret
      exact ⟨rfl, rfl⟩
    · have e : Wo.dg c.toNat = false := decide_eq_false (by omega)
      rw [e]
      have hd : decide ((c.toNat : Int) ≤ 57) = false := decide_eq_false h2
      go_enter Tryd.func24, Tryd.ntmps24
      go_wp2
      go_ret
      exact ⟨rfl, rfl⟩
  · have e : Wo.dg c.toNat = false := decide_eq_false (by omega)
    rw [e]
    have hd : decide (48 ≤ (c.toNat : Int)) = false := decide_eq_false h
    go_enter Tryd.func24, Tryd.ntmps24
    go_wp2
    go_ret
    exact ⟨rfl, rfl⟩

theorem ret_bool {a b : Bool} (h : a = b) : Ending.returned (.bool a) = .returned (.bool b) := by rw [h]

set_option maxHeartbeats 1000000 in
theorem letter_any (c : UInt8) (w : World) : Calls Tryd.prog 41 #[bv c] w fun e w' => e = .returned (.bool (Wo.ltr c.toNat)) ∧ w' = w := by
  go_enter Tryd.func41, Tryd.ntmps41
  go_wp2_with (go_at_call 24; refine (digit_any c _).mono ?_; rintro e w' ⟨rfl, rfl⟩)
  all_goals
    go_ret
    refine ⟨ret_bool ?_, rfl⟩
    try rename_i hd0
    try simp only [Wo.dg, decide_eq_true_eq] at *
    rw [Bool.eq_iff_iff]
    simp only [Wo.ltr, Bool.or_eq_true, decide_eq_true_eq, beq_iff_eq, true_iff]
    omega

set_option maxHeartbeats 400000 in
theorem HasPrefix_arr (s : ByteArray) (w : World) : Calls Tryd.prog 42 #[.string s, .string ⟨#[45, 62]⟩] w fun e w' => e = .returned (.bool (Wo.arr s.data.toList)) ∧ w' = w := by
  have key : Wo.arr s.data.toList = (decide (2 ≤ s.size) && ((s.extract 0 2).toList == [45, 62])) := by
    rw [Lib.extract_toList, Lib.size_eq]
    match s.data.toList with
    | [] => rfl
    | [a] => rfl
    | a :: b :: t =>
      simp only [Wo.arr, List.drop_zero, Nat.sub_zero, List.length_cons, List.take_succ_cons, List.take_zero]
      rw [Bool.eq_iff_iff]
      simp
      constructor
      · rintro ⟨h1, h2⟩; exact ⟨UInt8.toNat.inj h1, UInt8.toNat.inj h2⟩
      · rintro ⟨rfl, rfl⟩; exact ⟨rfl, rfl⟩
  rw [key]
  clear key
  by_cases h : 2 ≤ (s.size : Int)
  · have hn : decide (2 ≤ s.size) = true := decide_eq_true (by omega)
    rw [hn]
    clear hn
    go_enter Tryd.func42, Tryd.ntmps42
    go_wp2
    go_ret
    exact ⟨rfl, rfl⟩
  · have hn : decide (2 ≤ s.size) = false := decide_eq_false (by omega)
    rw [hn]
    clear hn
    have hd : decide (2 ≤ (s.size : Int)) = false := decide_eq_false h
    go_enter Tryd.func42, Tryd.ntmps42
    go_wp2
    go_ret
    exact ⟨rfl, rfl⟩
end Go.Proofs.YtalmcdhohoplpaaDoor
