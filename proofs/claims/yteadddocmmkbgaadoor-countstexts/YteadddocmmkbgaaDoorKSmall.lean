/-
  Package counts: the small calls on a bound.
-/
import Derived.Test.YteadddocmmkbgaaDoorKMath
import Derived.WalkKit
import Derived.WalkSpells
import Derived.WalkLawsBesides
import Derived.RegionTactic
import Derived.ChangeAlike
import Derived.Deep.QuietTactic
import Derived.BigQuiet
namespace Go.Proofs.YteadddocmmkbgaaDoor.Co
open Go.RowKit

theorem hid {p : Prop} (h : p) : Hid p := h
theorem run_min_nat {P : Program} {w : World} (ts : Array TypeId) (t : TypeId) (k k' : IntKind) (p q : Nat) : (Builtin.min_ ts t #[.int k (p : Int), .int k' (q : Int)]).run P w = .ok (.int k ((min p q : Nat) : Int)) w := by
  rw [run_min_int2]
  have e : (if (q : Int) < (p : Int) then (q : Int) else (p : Int)) = ((min p q : Nat) : Int) := by split <;> omega
  rw [e]

theorem wrap_pow (i : Nat) : IntKind.u64.wrap ((2 : Int) ^ i) = ((2 ^ i % 2 ^ 64 : Nat) : Int) := by
  rw [IntKind.wrap_u64, show ((2 : Int) ^ i) = ((2 ^ i : Nat) : Int) from by simp]
  have e : (2 : Nat) ^ 64 = 18446744073709551616 := by decide
  rw [e]
  generalize 2 ^ i = y at *
  omega
theorem pow_mod {i : Nat} (h : i < 64) : 2 ^ i % 2 ^ 64 = 2 ^ i := Nat.mod_eq_of_lt (Nat.pow_lt_pow_right (by omega) h)
theorem more_any {t : Nat} (ht : t ≤ 62) (w : World) : Calls Tryd.prog 47 #[.int .i64 (t : Int)] w fun e w' => e = .returned (.int .i64 ((t : Int) + 1)) ∧ w' = w := by
  go_enter Tryd.func47, Tryd.ntmps47
  go_wp2
  go_ret
  exact ⟨rfl, rfl⟩
theorem alone_any {i : Nat} (hi : i < 64) (w : World) : Calls Tryd.prog 29 #[.int .i64 (i : Int)] w fun e w' => e = .returned (.int .u64 ((2 ^ i : Nat) : Int)) ∧ w' = w := by
  go_enter Tryd.func29, Tryd.ntmps29
  go_wp2
  go_ret
  refine ⟨?_, rfl⟩
  rw [← pow_mod hi, ← wrap_pow]
  rfl
theorem alone_64 (w : World) : Calls Tryd.prog 29 #[.int .i64 64] w fun e w' => e = .returned (.int .u64 0) ∧ w' = w := by
  go_enter Tryd.func29, Tryd.ntmps29
  go_wp2
  go_ret
  exact ⟨rfl, rfl⟩
theorem below_any {i : Nat} (hi : i ≤ 64) (w : World) : Calls Tryd.prog 50 #[.int .i64 (i : Int)] w fun e w' => e = .returned (.int .u64 ((2 ^ i - 1 : Nat) : Int)) ∧ w' = w := by
  have H : Calls Tryd.prog 29 #[.int .i64 (i : Int)] w fun e w' => e = .returned (.int .u64 ((2 ^ i % 2 ^ 64 : Nat) : Int)) ∧ w' = w := by
    by_cases h : i < 64
    · rw [pow_mod h]; exact alone_any h w
    · obtain rfl : i = 64 := by omega
      exact alone_64 w
  have HH := hid H
  have e : IntKind.u64.wrap (((2 ^ i % 2 ^ 64 : Nat) : Int) - 1) = ((2 ^ i - 1 : Nat) : Int) := by
    rw [IntKind.wrap_u64]
    have e : (2 : Nat) ^ 64 = 18446744073709551616 := by decide
    by_cases h : i < 64
    · rw [pow_mod h]
      have h1 : 2 ^ i < 2 ^ 64 := Nat.pow_lt_pow_right (by omega) h
      have h2 : 0 < 2 ^ i := Nat.pow_pos (by omega)
      rw [e] at h1
      generalize 2 ^ i = y at *
      omega
    · obtain rfl : i = 64 := by omega
      decide
  have E := hid e
  clear H e
  go_enter Tryd.func50, Tryd.ntmps50
  go_wp2_with fail
  refine HH.out.mono ?_
  rintro e w' ⟨rfl, rfl⟩
  go_wp2
  go_ret
  refine ⟨?_, rfl⟩
  rw [← E.out]
  rfl
theorem all_any {t : Nat} (ht : t ≤ 62) (w : World) : Calls Tryd.prog 37 #[.int .i64 (t : Int)] w fun e w' => e = .returned (.int .u64 ((2 ^ (t + 2) - 1 : Nat) : Int)) ∧ w' = w := by
  have H1 := hid (more_any ht w)
  have H2 := hid (below_any (i := t + 2) (by omega) w)
  go_enter Tryd.func37, Tryd.ntmps37
  go_wp2_with fail
  refine H1.out.mono ?_
  rintro e w' ⟨rfl, rfl⟩
  go_wp2_with fail
  refine H2.out.mono ?_
  rintro e w' ⟨rfl, rfl⟩
  go_wp2
  go_ret
  exact ⟨rfl, rfl⟩
theorem cut_any {t : Nat} {n : Nat} (ht : t ≤ 62) (w : World) : Calls Tryd.prog 30 #[.int .i64 (t : Int), .int .i64 (n : Int)] w fun e w' => e = .returned (.int .i64 ((min n (t + 1) : Nat) : Int)) ∧ w' = w := by
  have H1 := hid (more_any ht w)
  go_enter Tryd.func30, Tryd.ntmps30
  go_wp2_with fail
  refine H1.out.mono ?_
  rintro e w' ⟨rfl, rfl⟩
  go_wp2
  · go_ret
    exact ⟨by rw [show min n (t + 1) = t + 1 by omega]; rfl, rfl⟩
  · go_ret
    exact ⟨by rw [show min n (t + 1) = n by omega]; rfl, rfl⟩
theorem holds_any {t i : Nat} (k : Int) (w : World) : Calls Tryd.prog 39 #[.int .i64 (t : Int), .int .i64 k, .int .i64 (i : Int)] w fun e w' => e = .returned (.bool (holdsB t k i)) ∧ w' = w := by
  by_cases h1 : k = 1
  · subst h1
    go_enter Tryd.func39, Tryd.ntmps39
    go_wp2
    go_ret
    refine ⟨?_, rfl⟩
    show Ending.returned (Value.bool ((i : Int) == (t : Int))) = _
    congr 2
    unfold holdsB
    rw [if_pos rfl, Bool.eq_iff_iff, beq_iff_eq, decide_eq_true_iff]
    omega
  · by_cases h2 : k = 2
    · subst h2
      go_enter Tryd.func39, Tryd.ntmps39
      go_wp2
      go_ret
      exact ⟨rfl, rfl⟩
    · go_enter Tryd.func39, Tryd.ntmps39
      go_wp2
      go_ret
      refine ⟨?_, rfl⟩
      show Ending.returned (Value.bool (decide (t ≤ i))) = _
      rw [holdsB, if_neg h1, if_neg h2]
theorem shl_wrap (a i : Nat) : IntKind.u64.wrap ((a : Int) * 2 ^ i) = ((a <<< i % 2 ^ 64 : Nat) : Int) := by
  rw [IntKind.wrap_u64, Nat.shiftLeft_eq, show ((a : Int) * 2 ^ i) = ((a * 2 ^ i : Nat) : Int) from by simp]
  have e : (2 : Nat) ^ 64 = 18446744073709551616 := by decide
  rw [e]
  generalize a * 2 ^ i = y at *
  omega
theorem lo_bits (t a i : Nat) (ht : t ≤ 62) : bits .and .u64 (IntKind.u64.wrap ((a : Int) * 2 ^ i)) ((2 ^ (t + 1) - 1 : Nat) : Int) = (((a <<< i) % 2 ^ 64 &&& (2 ^ (t + 1) - 1) : Nat) : Int) := by
  rw [shl_wrap]
  have h1 : 2 ^ (t + 1) < 2 ^ 64 := Nat.pow_lt_pow_right (by omega) (by omega)
  have e : (2 : Nat) ^ 64 = 18446744073709551616 := by decide
  exact u64_and_nat _ _ (by rw [← e]; exact Nat.mod_lt _ (by decide)) (by omega)
theorem pow_lt64 {i : Nat} (h : i < 64) : 2 ^ i < 18446744073709551616 := by
  have e : (2 : Nat) ^ 64 = 18446744073709551616 := by decide
  rw [← e]
  exact Nat.pow_lt_pow_right (by omega) h
theorem or_pow (x j : Nat) (hx : x < 18446744073709551616) (hj : j < 64) : bits .or .u64 (x : Int) ((2 : Int) ^ j) = ((x ||| 2 ^ j : Nat) : Int) := by
  rw [← u64_or_nat _ _ hx (pow_lt64 hj)]
  simp
theorem lo_lt (t a i : Nat) (ht : t ≤ 62) : (a <<< i) % 2 ^ 64 &&& (2 ^ (t + 1) - 1) < 18446744073709551616 := by
  have h1 : 2 ^ (t + 1) < 2 ^ 64 := Nat.pow_lt_pow_right (by omega) (by omega)
  have e : (2 : Nat) ^ 64 = 18446744073709551616 := by decide
  exact Nat.lt_of_le_of_lt Nat.and_le_right (by omega)
theorem shr_zero (a d : Nat) : ((a : Int) / 2 ^ d != 0) = decide (a >>> d ≠ 0) := by
  rw [Nat.shiftRight_eq_div_pow, show ((a : Int) / 2 ^ d) = ((a / 2 ^ d : Nat) : Int) from by simp]
  generalize a / 2 ^ d = y
  rw [Bool.eq_iff_iff]
  simp
theorem add_any {t a i : Nat} (ht : t ≤ 62) (hi : i ≤ t + 1) (w : World) : Calls Tryd.prog 49 #[.int .i64 (t : Int), .int .u64 (a : Int), .int .i64 (i : Int)] w fun e w' => e = .returned (.int .u64 (addN t a i : Nat)) ∧ ∃ m, w' = w.drewN m := by
  have H1 := hid (more_any ht)
  have H2 := hid (below_any (i := t + 1) (by omega))
  have H3 := hid (alone_any (i := t + 1) (by omega))
  obtain ⟨d, hd⟩ : ∃ d, t + 1 = i + d := ⟨t + 1 - i, by omega⟩
  have hs : (t : Int) + 1 - (i : Int) = (d : Int) := by omega
  have hd0 : d ≤ 63 := by omega
  have hI : (i : Int) ≤ (t : Int) + 1 := by omega
  have HD := hid (show t + 1 - i = d by omega)
  have HL := hid (lo_bits t a i ht)
  have HT := hid ht
  clear hd
  go_enter Tryd.func49, Tryd.ntmps49
  go_wp2_with fail
  go_quiet (first | exact Calls.quiet_of_same (H1.out _) | exact Calls.quiet_of_same (H2.out _))
  go_wp2_with fail
  refine (H1.out _).mono ?_
  rintro e w' ⟨rfl, rfl⟩
  go_wp2_with fail
  · refine (H1.out _).mono ?_
    rintro e w' ⟨rfl, rfl⟩
    go_wp2_with fail
    refine (H3.out _).mono ?_
    rintro e w' ⟨rfl, rfl⟩
    go_wp2
    go_ret
    rename_i hz
    rw [shr_zero, decide_eq_true_iff] at hz
    refine ⟨?_, _, rfl⟩
    rw [addN, HD.out, if_neg hz, ← or_pow _ _ (lo_lt t a i HT.out) (by have := HT.out; omega), ← HL.out]
    rfl
  · go_ret
    rename_i hz
    rw [shr_zero, decide_eq_false_iff_not] at hz
    refine ⟨?_, _, rfl⟩
    rw [addN, HD.out, if_pos (Classical.not_not.1 hz), Nat.or_zero, ← HL.out]
    rfl
end Go.Proofs.YteadddocmmkbgaaDoor.Co
