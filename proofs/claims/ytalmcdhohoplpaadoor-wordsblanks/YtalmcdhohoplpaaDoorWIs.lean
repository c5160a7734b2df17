/-
  Package words: isWord, mayTouch, Name, Number.
-/
import Derived.Test.YtalmcdhohoplpaaDoorWLet
namespace Go.Proofs.YtalmcdhohoplpaaDoor
open Go.RowKit

theorem empty_of_size {s : ByteArray} (h : s.size = 0) : s.data.toList = [] := by
  rw [Lib.size_eq] at h; exact List.length_eq_zero_iff.1 h
theorem list_size (s : ByteArray) : s.data.toList.length = s.size := (Lib.size_eq s).symm
theorem toList_nil (s : ByteArray) : (s.toList == []) = decide (s.size = 0) := by
  rw [Lib.toList_data, Lib.size_eq]
  cases s.data.toList <;> simp

set_option maxHeartbeats 400000 in
theorem isWord_any (s : ByteArray) (w : World) (hs : s.size ≤ maxLen) : Calls Tryd.prog 30 #[.string s] w fun e w' => e = .returned (.bool (Wo.isW s.data.toList)) ∧ w' = w := by
  by_cases h0 : s.size = 0
  · have HI := hid (show Wo.isW s.data.toList = false by rw [empty_of_size h0]; rfl)
    have hn : (s.toList == []) = true := by rw [toList_nil, h0]; rfl
    clear h0
    go_enter Tryd.func30, Tryd.ntmps30
    go_wp2
    go_ret
    exact ⟨ret_bool HI.out.symm, rfl⟩
  · have hn : (s.toList == []) = false := by rw [toList_nil]; exact decide_eq_false h0
    have HI := hid (show Wo.isW s.data.toList = ((Wo.fst s.data.toList : Int) == (s.size : Int)) by
      have : s.data.toList ≠ [] := fun e => h0 (by rw [Lib.size_eq, e]; rfl)
      unfold Wo.isW
      rw [Bool.eq_iff_iff, decide_eq_true_iff, beq_iff_eq, list_size]
      exact ⟨fun h => by omega, fun h => ⟨this, by omega⟩⟩)
    clear h0
    go_enter Tryd.func30, Tryd.ntmps30
    go_wp2_with (go_at_call 43; refine (first_any s _ hs).mono ?_; rintro e w' ⟨rfl, rfl⟩)
    go_ret
    exact ⟨ret_bool HI.out.symm, rfl⟩

set_option maxHeartbeats 400000 in
theorem mayTouch_any (a b : ByteArray) (w : World) (hs : a.size + b.size ≤ maxLen) : Calls Tryd.prog 31 #[.string a, .string b] w fun e w' => e = .returned (.bool (!Wo.glue a.data.toList b.data.toList)) ∧ w' = w := by
  have HI := hid (show (!Wo.glue a.data.toList b.data.toList) = ((Wo.fst (a.data.toList ++ b.data.toList) : Int) == (a.size : Int)) by
    unfold Wo.glue
    rw [Bool.eq_iff_iff, Bool.not_eq_true', decide_eq_false_iff_not, beq_iff_eq, list_size]
    constructor
    · intro h; omega
    · intro h; omega)
  have hsz : (a ++ b).size ≤ maxLen := by rw [ByteArray.size_append]; exact hs
  have hov : ¬ 9223372036854775807 < a.size + b.size := by unfold maxLen at hs; omega
  go_enter Tryd.func31, Tryd.ntmps31
  go_wp2_with (go_at_call 43; refine (first_any (a ++ b) _ hsz).mono ?_; rintro e w' ⟨rfl, rfl⟩)
  go_ret
  exact ⟨ret_bool HI.out.symm, rfl⟩
end Go.Proofs.YtalmcdhohoplpaaDoor
