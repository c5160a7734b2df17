/-
  Names, numbers, signs: the document's own.
-/
import Derived.Test.YtalmcdhohoplpaaDoorWKind
namespace Go.Proofs.YtalmcdhohoplpaaDoor
open Go.RowKit

set_option maxHeartbeats 400000 in
theorem Rdigit_any (c : UInt8) (w : World) : Calls Tryd.prog 25 #[bv c] w fun e w' => e = .returned (.bool (Wo.dg c.toNat)) ∧ w' = w := by
  go_enter Tryd.func25, Tryd.ntmps25
  go_wp2
  all_goals
    go_ret
    refine ⟨ret_bool ?_, rfl⟩
    rw [Bool.eq_iff_iff]
    simp only [Wo.dg, decide_eq_true_eq, Bool.false_eq_true, false_iff]
    omega

set_option maxHeartbeats 1000000 in
theorem Rletter_any (c : UInt8) (w : World) : Calls Tryd.prog 27 #[bv c] w fun e w' => e = .returned (.bool (Wo.ltr c.toNat)) ∧ w' = w := by
  go_enter Tryd.func27, Tryd.ntmps27
  go_wp2_with (go_at_call 25; refine (Rdigit_any c _).mono ?_; rintro e w' ⟨rfl, rfl⟩)
  all_goals
    go_ret
    refine ⟨ret_bool ?_, rfl⟩
    try simp only [Wo.dg, decide_eq_true_eq] at *
    rw [Bool.eq_iff_iff]
    simp only [Wo.ltr, Bool.or_eq_true, decide_eq_true_eq, beq_iff_eq, true_iff]
    omega

abbrev tbl : ByteArray := ⟨#[40, 41, 44, 124, 42, 43, 63, 46, 36, 61, 60, 62]⟩
theorem sgl_tbl (x : Nat) : Wo.sgl x = true ↔ ∃ k, ∃ h : k < 12, (tbl[k]'h).toNat = x := by
  constructor
  · intro h
    simp [Wo.sgl] at h
    rcases h with h | h | h | h | h | h | h | h | h | h | h | h
    · exact ⟨0, by omega, h.symm⟩
    · exact ⟨1, by omega, h.symm⟩
    · exact ⟨2, by omega, h.symm⟩
    · exact ⟨3, by omega, h.symm⟩
    · exact ⟨4, by omega, h.symm⟩
    · exact ⟨5, by omega, h.symm⟩
    · exact ⟨6, by omega, h.symm⟩
    · exact ⟨7, by omega, h.symm⟩
    · exact ⟨8, by omega, h.symm⟩
    · exact ⟨9, by omega, h.symm⟩
    · exact ⟨10, by omega, h.symm⟩
    · exact ⟨11, by omega, h.symm⟩
  · rintro ⟨k, hk, rfl⟩
    have : k = 0 ∨ k = 1 ∨ k = 2 ∨ k = 3 ∨ k = 4 ∨ k = 5 ∨ k = 6 ∨ k = 7 ∨ k = 8 ∨ k = 9 ∨ k = 10 ∨ k = 11 := by omega
    rcases this with rfl | rfl | rfl | rfl | rfl | rfl | rfl | rfl | rfl | rfl | rfl | rfl <;> rfl

set_option maxHeartbeats 1000000 in
theorem single_any (c : UInt8) (w : World) : Calls Tryd.prog 29 #[bv c] w fun e w' => e = .returned (.bool (Wo.sgl c.toNat)) ∧ w' = w := by
  go_enter Tryd.func29, Tryd.ntmps29
  go_wp2
  go_loop [3] (fun i => ∃ k : Nat, k ≤ 12 ∧ i = .int .i64 k ∧ Hid (∀ j (h : j < 12), j < k → (tbl[j]'h).toNat ≠ c.toNat)) (fun i => 12 - (intOf i).toNat)
  case atStart => exact ⟨0, Nat.zero_le _, rfl, fun j _ hj => absurd hj (Nat.not_lt_zero j)⟩
  case round =>
    obtain ⟨k, hk, rfl, HJ⟩ := hrel
    by_cases hlt : k < 12
    · have hkI : (0 : Int) ≤ (k : Int) := by omega
      have hkI2 : (k : Int) < 12 := by omega
      by_cases hx : (tbl[k]'hlt).toNat = c.toNat
      · have HE := hid ((sgl_tbl c.toNat).2 ⟨k, hlt, hx⟩)
        have hb : (((tbl[k]'hlt).toNat : Int) == (c.toNat : Int)) = true := by rw [beq_iff_eq]; omega
        clear hx
        go_wp2
        go_ret
        exact ⟨ret_bool HE.out.symm, rfl⟩
      · have hb : (((tbl[k]'hlt).toNat : Int) == (c.toNat : Int)) = false := by rw [beq_eq_false_iff_ne]; omega
        have HJ2 := hid (show ∀ j (h : j < 12), j < k + 1 → (tbl[j]'h).toNat ≠ c.toNat from fun j h hj => by
          by_cases e : j = k
          · subst e; exact hx
          · exact HJ.out j h (by omega))
        clear hx
        go_wp2
        go_round
        case rel => exact ⟨k + 1, by omega, by go_num, HJ2⟩
        case measure => simp [intOf]; omega
    · have HE := hid (show Wo.sgl c.toNat = false by
        cases hq : Wo.sgl c.toNat with
        | false => rfl
        | true =>
          obtain ⟨j, hj, e⟩ := (sgl_tbl c.toNat).1 hq
          exact absurd e (HJ.out j hj (by omega)))
      go_wp2
      go_ret
      exact ⟨ret_bool HE.out.symm, rfl⟩

/-- Is it a sign of two bytes? -/
def dblL (l : List UInt8) : Bool := l == [61, 61] || l == [60, 61] || l == [62, 61] || l == [45, 62]
theorem dblL_two (l : List UInt8) : dblL l = match l with | [a, b] => Wo.dbl a.toNat b.toNat | _ => false := by
  match l with
  | [] => rfl
  | [a] => simp [dblL]
  | [a, b] => simp [dblL, Wo.dbl, b_eq]
  | a :: b :: c :: t => simp [dblL]
set_option maxHeartbeats 1000000 in
theorem double_any (s : ByteArray) (w : World) : Calls Tryd.prog 28 #[.string s] w fun e w' => e = .returned (.bool (dblL s.data.toList)) ∧ w' = w := by
  rw [show s.data.toList = s.toList from (Lib.toList_data s).symm]
  go_enter Tryd.func28, Tryd.ntmps28
  go_wp2
  all_goals
    go_ret
    refine ⟨ret_bool ?_, rfl⟩
    unfold dblL
    simp_all
end Go.Proofs.YtalmcdhohoplpaaDoor
