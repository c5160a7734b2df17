/-
  Sets of numbers of copies: the mathematics.
-/
import Derived.Test.YteadddocmmkbgaaDoorRows
namespace Go.Proofs.YteadddocmmkbgaaDoor.Co

/-- The set of some numbers; the elements of a set of t. -/
def setN (l : List Nat) : Nat := l.foldl (fun c n => c ||| 2 ^ n) 0
def els (t c : Nat) : List Nat := (List.range (t + 2)).filter c.testBit
def mayB (t c : Nat) : Bool := c != 0 && decide (c < 2 ^ (t + 2))

/-- Does a compare hold of an element? The least one of which it does not. -/
def holdsB (t : Nat) (k : Int) (i : Nat) : Bool := if k = 1 then decide (i = t) else if k = 2 then decide (i ≤ t) else decide (t ≤ i)
def breaksN (t : Nat) (k : Int) (c : Nat) : Option Nat := (els t c).find? fun i => !holdsB t k i

theorem fold_or (l : List Nat) (c k : Nat) : (l.foldl (fun c n => c ||| 2 ^ n) c).testBit k = (c.testBit k || decide (k ∈ l)) := by
  induction l generalizing c with
  | nil => simp
  | cons n l ih =>
    rw [List.foldl_cons, ih, Nat.testBit_or, Nat.testBit_two_pow]
    by_cases h : n = k
    · subst h; simp
    · have h' : ¬ k = n := fun e => h e.symm
      simp [h, h']
theorem setN_bit (l : List Nat) (k : Nat) : (setN l).testBit k = decide (k ∈ l) := by
  unfold setN; rw [fold_or]; simp
theorem mem_els {t c k : Nat} : k ∈ els t c ↔ k < t + 2 ∧ c.testBit k = true := by
  unfold els; rw [List.mem_filter, List.mem_range]
theorem may_ne {t c : Nat} (h : mayB t c = true) : c ≠ 0 := by
  unfold mayB at h; simp at h; exact h.1
theorem may_lt {t c : Nat} (h : mayB t c = true) : c < 2 ^ (t + 2) := by
  unfold mayB at h; simp at h; exact h.2
theorem bit_lt {t c k : Nat} (h : c < 2 ^ (t + 2)) (hk : c.testBit k = true) : k < t + 2 := by
  apply Classical.byContradiction
  intro hn
  have : 2 ^ (t + 2) ≤ 2 ^ k := Nat.pow_le_pow_right (by omega) (by omega)
  rw [Nat.testBit_lt_two_pow (Nat.lt_of_lt_of_le h this)] at hk
  cases hk
theorem lt_of_bits {t c : Nat} (h : ∀ k, t + 2 ≤ k → c.testBit k = false) : c < 2 ^ (t + 2) := Nat.lt_pow_two_of_testBit c h
theorem two_64 {t c : Nat} (h : c < 2 ^ (t + 2)) (ht : t ≤ 62) : c < 18446744073709551616 := by
  have : 2 ^ (t + 2) ≤ 2 ^ 64 := Nat.pow_le_pow_right (by omega) (by omega)
  have e : (2 : Nat) ^ 64 = 18446744073709551616 := by decide
  omega
theorem ne_zero_bit {c k : Nat} (h : c.testBit k = true) : c ≠ 0 := by rintro rfl; simp at h
theorem setN_lt {t : Nat} {l : List Nat} (h : ∀ k ∈ l, k < t + 2) : setN l < 2 ^ (t + 2) := lt_of_bits fun k hk => by
  rw [setN_bit]
  simp
  intro hm
  have := h k hm
  omega
theorem setN_els {t c : Nat} (h : c < 2 ^ (t + 2)) : setN (els t c) = c := Nat.eq_of_testBit_eq fun k => by
  rw [setN_bit, Bool.eq_iff_iff, decide_eq_true_iff, mem_els]
  exact ⟨fun h => h.2, fun hk => ⟨bit_lt h hk, hk⟩⟩
theorem setN_append (l m : List Nat) : setN (l ++ m) = setN l ||| setN m := Nat.eq_of_testBit_eq fun k => by
  rw [Nat.testBit_or, setN_bit, setN_bit, setN_bit]; simp
theorem setN_snoc (l : List Nat) (x : Nat) : setN (l ++ [x]) = setN l ||| 2 ^ x := by
  unfold setN; rw [List.foldl_append]; rfl

/-- An element added to each of a set's own, by shifts; all sums of two sets' elements. -/
def addN (t a i : Nat) : Nat := ((a <<< i) % 2 ^ 64 &&& (2 ^ (t + 1) - 1)) ||| (if a >>> (t + 1 - i) = 0 then 0 else 2 ^ (t + 1))
def sumN (t a b : Nat) : Nat := setN ((els t a).flatMap fun i => (els t b).map fun k => min (i + k) (t + 1))

theorem bit_of_ne {c : Nat} (h : c ≠ 0) : ∃ k, c.testBit k = true := by
  apply Classical.byContradiction
  intro hn
  exact h (Nat.eq_of_testBit_eq fun k => by
    cases e : c.testBit k with
    | false => simp
    | true => exact (hn ⟨k, e⟩).elim)
theorem addN_bit {t a i k : Nat} (ht : t ≤ 62) (hi : i ≤ t + 1) : (addN t a i).testBit k = true ↔ ∃ j, a.testBit j = true ∧ min (j + i) (t + 1) = k := by
  unfold addN
  rw [Nat.testBit_or, Nat.testBit_and, Nat.testBit_mod_two_pow, Nat.testBit_shiftLeft, Nat.testBit_two_pow_sub_one]
  rcases Nat.lt_trichotomy k (t + 1) with hk | hk | hk
  · have h2 : (if a >>> (t + 1 - i) = 0 then 0 else 2 ^ (t + 1)).testBit k = false := by
      split
      · simp
      · rw [Nat.testBit_two_pow]; simp; omega
    rw [h2]
    have h3 : k < 64 := by omega
    simp only [h3, hk, decide_true, Bool.true_and, Bool.and_true, Bool.or_false, Bool.and_eq_true, decide_eq_true_eq]
    constructor
    · rintro ⟨h, hb⟩
      exact ⟨k - i, hb, by omega⟩
    · rintro ⟨j, hj, e⟩
      have : k - i = j := by omega
      rw [this]
      exact ⟨by omega, hj⟩
  · subst hk
    have h1 : decide (t + 1 < t + 1) = false := by simp
    rw [h1, Bool.and_false, Bool.false_or]
    constructor
    · intro h
      by_cases h0 : a >>> (t + 1 - i) = 0
      · rw [if_pos h0] at h; simp at h
      · obtain ⟨j, hj⟩ := bit_of_ne h0
        rw [Nat.testBit_shiftRight] at hj
        exact ⟨_, hj, by omega⟩
    · rintro ⟨j, hj, e⟩
      have h0 : a >>> (t + 1 - i) ≠ 0 := by
        have : (a >>> (t + 1 - i)).testBit (j - (t + 1 - i)) = true := by
          rw [Nat.testBit_shiftRight, show t + 1 - i + (j - (t + 1 - i)) = j by omega]
          exact hj
        exact ne_zero_bit this
      rw [if_neg h0, Nat.testBit_two_pow]; simp
  · have h1 : decide (k < t + 1) = false := by simp; omega
    rw [h1, Bool.and_false, Bool.false_or]
    constructor
    · intro h
      split at h
      · simp at h
      · rw [Nat.testBit_two_pow] at h; simp at h; omega
    · rintro ⟨j, _, e⟩
      omega
theorem sumN_bit {t a b k : Nat} : (sumN t a b).testBit k = true ↔ ∃ i j, (i < t + 2 ∧ a.testBit i = true) ∧ (j < t + 2 ∧ b.testBit j = true) ∧ min (i + j) (t + 1) = k := by
  unfold sumN
  rw [setN_bit, decide_eq_true_iff, List.mem_flatMap]
  constructor
  · rintro ⟨i, hi, hk⟩
    rw [List.mem_map] at hk
    obtain ⟨j, hj, e⟩ := hk
    exact ⟨i, j, mem_els.1 hi, mem_els.1 hj, e⟩
  · rintro ⟨i, j, hi, hj, e⟩
    exact ⟨i, mem_els.2 hi, List.mem_map.2 ⟨j, mem_els.2 hj, e⟩⟩
theorem sumN_lt (t a b : Nat) : sumN t a b < 2 ^ (t + 2) := lt_of_bits fun k hk => by
  cases e : (sumN t a b).testBit k with
  | false => rfl
  | true => obtain ⟨i, j, _, _, h⟩ := sumN_bit.1 e; omega
theorem sumN_may {t a b : Nat} (ha : mayB t a = true) (hb : mayB t b = true) : mayB t (sumN t a b) = true := by
  obtain ⟨i, hi⟩ := bit_of_ne (may_ne ha)
  obtain ⟨j, hj⟩ := bit_of_ne (may_ne hb)
  unfold mayB
  simp only [bne_iff_ne, ne_eq, Bool.and_eq_true, decide_eq_true_eq]
  exact ⟨ne_zero_bit (sumN_bit.2 ⟨i, j, ⟨bit_lt (may_lt ha) hi, hi⟩, ⟨bit_lt (may_lt hb) hj, hj⟩, rfl⟩), sumN_lt _ _ _⟩
/-- The sums, element by element of the second set. -/
theorem sums_fold {t a b : Nat} (ht : t ≤ 62) (ha : a < 2 ^ (t + 2)) : (els t b).foldl (fun c i => c ||| addN t a i) 0 = sumN t a b := by
  have key : ∀ (l : List Nat) (c k : Nat), (l.foldl (fun c i => c ||| addN t a i) c).testBit k = true ↔ c.testBit k = true ∨ ∃ i ∈ l, (addN t a i).testBit k = true := by
    intro l
    induction l with
    | nil => simp
    | cons x l ih =>
      intro c k
      rw [List.foldl_cons, ih, Nat.testBit_or]
      simp [or_assoc]
  refine Nat.eq_of_testBit_eq fun k => ?_
  rw [Bool.eq_iff_iff, key, sumN_bit]
  constructor
  · rintro (h | ⟨j, hj, h⟩)
    · simp at h
    · have hj' := mem_els.1 hj
      obtain ⟨i, hi, e⟩ := (addN_bit ht (by omega)).1 h
      exact ⟨i, j, ⟨bit_lt ha hi, hi⟩, hj', e⟩
  · rintro ⟨i, j, hi, hj, e⟩
    exact Or.inr ⟨j, mem_els.2 hj, (addN_bit ht (by omega)).2 ⟨i, hi.2, e⟩⟩
theorem one_bit {k : Nat} : Nat.testBit 1 k = true ↔ k = 0 := by
  have := Nat.testBit_two_pow (n := 0) (m := k)
  simp at this
  simp [this]
  omega
theorem sumN_one {t a : Nat} (ha : a < 2 ^ (t + 2)) : sumN t 1 a = a := Nat.eq_of_testBit_eq fun k => by
  rw [Bool.eq_iff_iff, sumN_bit]
  constructor
  · rintro ⟨i, j, hi, hj, e⟩
    have := one_bit.1 hi.2
    have : k = j := by omega
    rw [this]; exact hj.2
  · intro hk
    have := bit_lt ha hk
    exact ⟨0, k, ⟨by omega, one_bit.2 rfl⟩, ⟨this, hk⟩, by omega⟩
theorem sumN_comm (t a b : Nat) : sumN t a b = sumN t b a := Nat.eq_of_testBit_eq fun k => by
  rw [Bool.eq_iff_iff, sumN_bit, sumN_bit]
  constructor <;> (rintro ⟨i, j, hi, hj, e⟩; exact ⟨j, i, hj, hi, by omega⟩)
theorem sumN_or {t a b c : Nat} : sumN t (a ||| b) c = sumN t b c ||| sumN t a c := Nat.eq_of_testBit_eq fun k => by
  rw [Nat.testBit_or, Bool.eq_iff_iff, Bool.or_eq_true, sumN_bit, sumN_bit, sumN_bit]
  constructor
  · rintro ⟨i, j, ⟨h, hi⟩, hj, e⟩
    rw [Nat.testBit_or, Bool.or_eq_true] at hi
    rcases hi with hi | hi
    · exact Or.inr ⟨i, j, ⟨h, hi⟩, hj, e⟩
    · exact Or.inl ⟨i, j, ⟨h, hi⟩, hj, e⟩
  · rintro (⟨i, j, ⟨h, hi⟩, hj, e⟩ | ⟨i, j, ⟨h, hi⟩, hj, e⟩)
    · exact ⟨i, j, ⟨h, by rw [Nat.testBit_or, hi, Bool.or_true]⟩, hj, e⟩
    · exact ⟨i, j, ⟨h, by rw [Nat.testBit_or, hi, Bool.true_or]⟩, hj, e⟩
theorem or_may {t a b : Nat} (ha : mayB t a = true) (hb : mayB t b = true) : mayB t (a ||| b) = true := by
  obtain ⟨i, hi⟩ := bit_of_ne (may_ne ha)
  unfold mayB
  simp only [bne_iff_ne, ne_eq, Bool.and_eq_true, decide_eq_true_eq]
  exact ⟨ne_zero_bit (k := i) (by rw [Nat.testBit_or, hi, Bool.true_or]), Nat.or_lt_two_pow (may_lt ha) (may_lt hb)⟩
/-- Numbers may be cut and added, or added and cut. -/
theorem sum_of {t : Nat} (ht : t ≤ 62) (l m : List Nat) : sumN t (setN (l.map fun x => min x (t + 1))) (setN (m.map fun x => min x (t + 1))) = setN ((l.flatMap fun x => m.map fun y => min x 100 + min y 100).map fun x => min x (t + 1)) := by
  refine Nat.eq_of_testBit_eq fun k => ?_
  rw [Bool.eq_iff_iff, sumN_bit, setN_bit, decide_eq_true_iff]
  constructor
  · rintro ⟨i, j, ⟨_, hi⟩, ⟨_, hj⟩, e⟩
    rw [setN_bit, decide_eq_true_iff, List.mem_map] at hi hj
    obtain ⟨x, hx, rfl⟩ := hi
    obtain ⟨y, hy, rfl⟩ := hj
    refine List.mem_map.2 ⟨min x 100 + min y 100, List.mem_flatMap.2 ⟨x, hx, List.mem_map.2 ⟨y, hy, rfl⟩⟩, ?_⟩
    omega
  · intro h
    obtain ⟨z, hz, rfl⟩ := List.mem_map.1 h
    obtain ⟨x, hx, hz⟩ := List.mem_flatMap.1 hz
    obtain ⟨y, hy, rfl⟩ := List.mem_map.1 hz
    refine ⟨min x (t + 1), min y (t + 1), ⟨by omega, ?_⟩, ⟨by omega, ?_⟩, by omega⟩
    · rw [setN_bit, decide_eq_true_iff]; exact List.mem_map.2 ⟨x, hx, rfl⟩
    · rw [setN_bit, decide_eq_true_iff]; exact List.mem_map.2 ⟨y, hy, rfl⟩
theorem map_cut_lt {t : Nat} (l : List Nat) : ∀ k ∈ l.map (fun x => min x (t + 1)), k < t + 2 := by
  intro k hk
  obtain ⟨x, _, rfl⟩ := List.mem_map.1 hk
  omega
theorem setN_may {t : Nat} {l : List Nat} (hl : l ≠ []) : mayB t (setN (l.map fun x => min x (t + 1))) = true := by
  obtain ⟨x, l, rfl⟩ := List.exists_cons_of_ne_nil hl
  unfold mayB
  simp only [bne_iff_ne, ne_eq, Bool.and_eq_true, decide_eq_true_eq]
  exact ⟨ne_zero_bit (k := min x (t + 1)) (by rw [setN_bit, decide_eq_true_iff]; exact List.mem_map.2 ⟨x, by simp, rfl⟩), setN_lt (map_cut_lt _)⟩
end Go.Proofs.YteadddocmmkbgaaDoor.Co
