/-
  The methods of a ternary, said of lists of bytes: meets, inside, meet.
-/
import Derived.Test.YtenlmigdlibgeaaTernM
namespace Go.Proofs.Ytenlmigdlibgeaa
open Go.RowKit

theorem prt_eq (o p f g : Nat) (ho : o < 18446744073709551616) (hp : p < 18446744073709551616) (hf : f < 18446744073709551616) (hg : g < 18446744073709551616) :
    prt o p f g = decide (¬ ((((o ^^^ p) &&& f) &&& g) = 0)) := by
  unfold prt
  rw [u64_xor_nat _ _ ho hp, u64_and_nat _ _ (Cu.xor_lt ho hp) hf, u64_and_nat _ _ (Cu.and_lt (Cu.xor_lt ho hp)) hg]
  rw [Bool.eq_iff_iff]
  simp only [bne_iff_ne, ne_eq, decide_eq_true_eq]
  omega

theorem nprt (a b : List UInt8) (k : Nat) : (!prt (Cu.wd (Cu.oneAt a) k) (Cu.wd (Cu.oneAt b) k) (Cu.wd (Cu.fixAt a) k) (Cu.wd (Cu.fixAt b) k)) = true ↔ ∀ i, i < 64 → Cu.partAt a b (64 * k + i) = false := by
  rw [prt_eq _ _ _ _ (Cu.wd_lt _ _) (Cu.wd_lt _ _) (Cu.wd_lt _ _) (Cu.wd_lt _ _)]
  simp only [Bool.not_eq_true', decide_eq_false_iff_not, Decidable.not_not]
  rw [Cu.and_ne_zero]
  constructor
  · intro H i hi
    have := H i
    rw [Nat.testBit_and, Nat.testBit_xor, Cu.testBit_wd, Cu.testBit_wd, Cu.testBit_wd, Cu.testBit_wd] at this
    simpa [hi, Cu.partAt] using this
  · intro H i
    rw [Nat.testBit_and, Nat.testBit_xor, Cu.testBit_wd, Cu.testBit_wd, Cu.testBit_wd, Cu.testBit_wd]
    by_cases hi : i < 64
    · have := H i hi
      simpa [hi, Cu.partAt] using this
    · simp [hi]

theorem all128 {f : Nat → Bool} (hf : ∀ i, 128 ≤ i → f i = false) : (∀ i, f i = false) ↔ (∀ i, i < 64 → f (64 * 0 + i) = false) ∧ (∀ i, i < 64 → f (64 * 1 + i) = false) := by
  constructor
  · intro H; exact ⟨fun i _ => H _, fun i _ => H _⟩
  · rintro ⟨h0, h1⟩ i
    by_cases a : i < 64
    · have := h0 i a; simpa using this
    · by_cases b : i < 128
      · have := h1 (i - 64) (by omega); rw [show 64 * 1 + (i - 64) = i from by omega] at this; exact this
      · exact hf i (by omega)

theorem meets_lists {a b : List UInt8} (ha : Cu.right a = true) (hb : Cu.right b = true) (h : a.length = b.length) :
    (!prt (Cu.wd (Cu.oneAt a) 0) (Cu.wd (Cu.oneAt b) 0) (Cu.wd (Cu.fixAt a) 0) (Cu.wd (Cu.fixAt b) 0) && !prt (Cu.wd (Cu.oneAt a) 1) (Cu.wd (Cu.oneAt b) 1) (Cu.wd (Cu.fixAt a) 1) (Cu.wd (Cu.fixAt b) 1)) = Cu.meetsB a b := by
  obtain ⟨h1, h2, h3⟩ := Cu.right_all ha
  obtain ⟨k1, _, _⟩ := Cu.right_all hb
  rw [Bool.eq_iff_iff, Bool.and_eq_true, nprt, nprt, Cu.meetsB_iff h1 k1 h]
  refine (all128 fun i hi => ?_).symm
  unfold Cu.partAt
  rw [Cu.fixAt_ge (by omega)]; simp

theorem meets_any (a b : List UInt8) (w : World) (ha : Cu.right a = true) (hb : Cu.right b = true) (h : a.length = b.length) :
    Calls Try.prog 30 #[tv a, tv b] w fun e w' => e = .returned (.bool (Cu.meetsB a b)) ∧ Below w.heap.size w w' := by
  rw [← meets_lists ha hb h]
  exact meets_words _ _ _ _ _ _ _ _ w

theorem out1_eq (g f : Nat) (hg : g < 18446744073709551616) (hf : f < 18446744073709551616) : out1 g f = decide (¬ (g &&& (18446744073709551615 - f) = 0)) := by
  unfold out1
  rw [u64_andNot_nat _ _ hg hf, Bool.eq_iff_iff]
  simp only [bne_iff_ne, ne_eq, decide_eq_true_eq]
  omega
theorem out2_eq (o p g : Nat) (ho : o < 18446744073709551616) (hp : p < 18446744073709551616) (hg : g < 18446744073709551616) : out2 o p g = decide (¬ ((o ^^^ p) &&& g = 0)) := by
  unfold out2
  rw [u64_xor_nat _ _ ho hp, u64_and_nat _ _ (Cu.xor_lt ho hp) hg, Bool.eq_iff_iff]
  simp only [bne_iff_ne, ne_eq, decide_eq_true_eq]
  omega
theorem testBit_not64 (f i : Nat) (hf : f < 18446744073709551616) : (18446744073709551615 - f).testBit i = (decide (i < 64) && !f.testBit i) := by
  have : 18446744073709551615 - f = 2 ^ 64 - (f + 1) := by omega
  rw [this, Nat.testBit_two_pow_sub_succ hf]

theorem nout (a b : List UInt8) (k : Nat) : (!out1 (Cu.wd (Cu.fixAt b) k) (Cu.wd (Cu.fixAt a) k) && !out2 (Cu.wd (Cu.oneAt a) k) (Cu.wd (Cu.oneAt b) k) (Cu.wd (Cu.fixAt b) k)) = true ↔ ∀ i, i < 64 → Cu.outAt a b (64 * k + i) = false := by
  rw [out1_eq _ _ (Cu.wd_lt _ _) (Cu.wd_lt _ _), out2_eq _ _ _ (Cu.wd_lt _ _) (Cu.wd_lt _ _) (Cu.wd_lt _ _)]
  simp only [Bool.and_eq_true, Bool.not_eq_true', decide_eq_false_iff_not, Decidable.not_not]
  rw [Cu.and_ne_zero, Cu.and_ne_zero]
  constructor
  · rintro ⟨H1, H2⟩ i hi
    have e1 := H1 i
    have e2 := H2 i
    rw [testBit_not64 _ _ (Cu.wd_lt _ _), Cu.testBit_wd, Cu.testBit_wd] at e1
    rw [Nat.testBit_xor, Cu.testBit_wd, Cu.testBit_wd, Cu.testBit_wd] at e2
    simp only [hi, decide_true, Bool.true_and] at e1 e2
    unfold Cu.outAt
    cases h1 : Cu.fixAt b (64 * k + i) <;> cases h2 : Cu.fixAt a (64 * k + i) <;> simp_all
  · intro H
    refine ⟨fun i => ?_, fun i => ?_⟩
    · rw [testBit_not64 _ _ (Cu.wd_lt _ _), Cu.testBit_wd, Cu.testBit_wd]
      by_cases hi : i < 64
      · have := H i hi
        unfold Cu.outAt at this
        cases h1 : Cu.fixAt b (64 * k + i) <;> cases h2 : Cu.fixAt a (64 * k + i) <;> simp_all
      · simp [hi]
    · rw [Nat.testBit_xor, Cu.testBit_wd, Cu.testBit_wd, Cu.testBit_wd]
      by_cases hi : i < 64
      · have := H i hi
        unfold Cu.outAt at this
        cases h1 : Cu.fixAt b (64 * k + i) <;> cases h2 : Cu.fixAt a (64 * k + i) <;> simp_all
      · simp [hi]

theorem orw_eq (p q r : Nat → Bool) (k : Nat) (h : ∀ i, i < 64 → r (64 * k + i) = (p (64 * k + i) || q (64 * k + i))) : orw (Cu.wd p k) (Cu.wd q k) = .int .u64 (Cu.wd r k : Int) := by
  unfold orw
  rw [u64_or_nat _ _ (Cu.wd_lt _ _) (Cu.wd_lt _ _)]
  congr 2
  refine Cu.wd_eq (Cu.or_lt (Cu.wd_lt _ _) (Cu.wd_lt _ _)) fun i hi => ?_
  rw [Nat.testBit_or, Cu.testBit_wd, Cu.testBit_wd, h i hi]
  simp [hi]

theorem meet_any (a b : List UInt8) (w : World) (ha : Cu.right a = true) (hb : Cu.right b = true) (h : a.length = b.length) (hm : Cu.meetsB a b = true) :
    Calls Try.prog 31 #[tv a, tv b] w fun e w' => e = .returned (tv (Cu.meetL a b)) ∧ Below w.heap.size w w' := by
  obtain ⟨h1, h2, h3⟩ := Cu.right_all ha
  obtain ⟨k1, _, _⟩ := Cu.right_all hb
  refine (meet_words _ _ _ _ _ _ _ _ w).mono ?_
  rintro e w' ⟨rfl, hb'⟩
  refine ⟨?_, hb'⟩
  rw [orw_eq _ _ (Cu.fixAt (Cu.meetL a b)) 0 (fun i _ => Cu.fixAt_meetL h1 k1 h _), orw_eq _ _ (Cu.fixAt (Cu.meetL a b)) 1 (fun i _ => Cu.fixAt_meetL h1 k1 h _),
    orw_eq _ _ (Cu.oneAt (Cu.meetL a b)) 0 (fun i _ => Cu.oneAt_meetL h1 k1 h hm _), orw_eq _ _ (Cu.oneAt (Cu.meetL a b)) 1 (fun i _ => Cu.oneAt_meetL h1 k1 h hm _)]
end Go.Proofs.Ytenlmigdlibgeaa
