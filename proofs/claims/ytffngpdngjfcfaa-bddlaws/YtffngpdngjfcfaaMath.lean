/-
  Plain mathematics of ternary headers as lists of bytes, and of the two words in which the program keeps a set of places. No program is named here.
-/
namespace Go.Proofs.Ytffngpdngjfcfaa
namespace Cu

/-- The word whose bit i (i < n) is p i. -/
def word (p : Nat → Bool) : Nat → Nat
  | 0 => 0
  | n + 1 => word p n ||| (if p n then 2 ^ n else 0)

theorem testBit_word (p : Nat → Bool) (n i : Nat) : (word p n).testBit i = (decide (i < n) && p i) := by
  induction n with
  | zero => simp [word]
  | succ n ih =>
    rw [word, Nat.testBit_or, ih]
    by_cases hp : p n
    · rw [if_pos hp, Nat.testBit_two_pow]
      by_cases e : n = i
      · subst e; simp [hp]
      · have : (i < n + 1) ↔ i < n := by omega
        simp [e, this]
    · rw [if_neg hp]
      by_cases e : i = n
      · subst e; simp [hp]
      · have : (i < n + 1) ↔ i < n := by omega
        simp [this]

theorem word_lt (p : Nat → Bool) (n : Nat) : word p n < 2 ^ n := by
  refine Nat.lt_pow_two_of_testBit _ fun i hi => ?_
  rw [testBit_word]
  simp; omega

theorem word_eq {p : Nat → Bool} {x : Nat} (n : Nat) (hx : x < 2 ^ n) (h : ∀ i, i < n → x.testBit i = p i) : x = word p n := by
  refine Nat.eq_of_testBit_eq fun i => ?_
  rw [testBit_word]
  by_cases hi : i < n
  · simp [hi, h i hi]
  · have : x.testBit i = false := Nat.testBit_lt_two_pow (Nat.lt_of_lt_of_le hx (Nat.pow_le_pow_right (by omega) (by omega)))
    simp [hi, this]

/-- Word k of a set of places. -/
def wd (p : Nat → Bool) (k : Nat) : Nat := word (fun i => p (64 * k + i)) 64
theorem wd_lt (p : Nat → Bool) (k : Nat) : wd p k < 18446744073709551616 := word_lt _ 64
theorem testBit_wd (p : Nat → Bool) (k i : Nat) : (wd p k).testBit i = (decide (i < 64) && p (64 * k + i)) := testBit_word _ _ _
theorem wd_eq {p : Nat → Bool} {x k : Nat} (hx : x < 18446744073709551616) (h : ∀ i, i < 64 → x.testBit i = p (64 * k + i)) : x = wd p k :=
  word_eq 64 hx h
theorem wd_congr {p q : Nat → Bool} {k : Nat} (h : ∀ i, i < 64 → p (64 * k + i) = q (64 * k + i)) : wd p k = wd q k :=
  wd_eq (wd_lt _ _) fun i hi => by rw [testBit_wd]; simp [hi, h i hi]

theorem or_lt {a b : Nat} (ha : a < 18446744073709551616) (hb : b < 18446744073709551616) : a ||| b < 18446744073709551616 := Nat.or_lt_two_pow (n := 64) ha hb
theorem and_lt {a b : Nat} (ha : a < 18446744073709551616) : a &&& b < 18446744073709551616 := Nat.lt_of_le_of_lt Nat.and_le_left ha
theorem xor_lt {a b : Nat} (ha : a < 18446744073709551616) (hb : b < 18446744073709551616) : a ^^^ b < 18446744073709551616 := Nat.xor_lt_two_pow (n := 64) ha hb
theorem pow_lt {i : Nat} (hi : i < 64) : 2 ^ i < 18446744073709551616 := Nat.pow_lt_pow_right (a := 2) (by omega) hi

/-- Is the place fixed? is it 1? (behind the end: free) -/
def fixAt (l : List UInt8) (i : Nat) : Bool := l[i]? == some 48 || l[i]? == some 49
def oneAt (l : List UInt8) (i : Nat) : Bool := l[i]? == some 49

/-- A byte of a cube; a cube. -/
def sym (c : UInt8) : Bool := c == 48 || c == 49 || c == 120
def right (l : List UInt8) : Bool := l.all sym && decide (1 ≤ l.length) && decide (l.length ≤ 128)

/-- Two words, bit by bit: is the and of them nought? -/
theorem and_ne_zero {x y : Nat} : (x &&& y = 0) ↔ ∀ i, (x.testBit i && y.testBit i) = false := by
  constructor
  · intro h i
    have := congrArg (fun z => z.testBit i) h
    simpa [Nat.testBit_and] using this
  · intro h
    refine Nat.eq_of_testBit_eq fun i => ?_
    rw [Nat.testBit_and, h i]; simp

/-- One bit more of a word. -/
def updw (p : Nat → Bool) (j : Nat) : Nat → Bool := fun i => p i || decide (i = j)
theorem wd_upd_same (p : Nat → Bool) (j : Nat) : wd p (j / 64) ||| 2 ^ (j % 64) = wd (updw p j) (j / 64) := by
  refine wd_eq (or_lt (wd_lt _ _) (pow_lt (by omega))) fun i hi => ?_
  rw [Nat.testBit_or, testBit_wd, Nat.testBit_two_pow]
  simp only [hi, updw, decide_true, Bool.true_and]
  congr 1
  apply decide_eq_decide.2
  omega
theorem wd_upd_other (p : Nat → Bool) (j k : Nat) (h : k ≠ j / 64) : wd (updw p j) k = wd p k := by
  refine wd_congr fun i hi => ?_
  have : ¬ (64 * k + i = j) := by omega
  simp [updw, this]

/-- One bit more, if that is said. -/
def setOne (q : Nat → Bool) (j : Nat) (one : Bool) : Nat → Bool := fun i => q i || (one && decide (i = j))

theorem get_snoc (l : List UInt8) (c : UInt8) (i : Nat) : (l ++ [c])[i]? = if i = l.length then some c else l[i]? := by
  by_cases h : i < l.length
  · rw [List.getElem?_append_left h, if_neg (by omega)]
  · rw [List.getElem?_append_right (by omega)]
    by_cases e : i = l.length
    · subst e; simp
    · rw [if_neg e, List.getElem?_eq_none (by simp; omega), List.getElem?_eq_none (by omega)]

theorem fixAt_end (l : List UInt8) : fixAt l l.length = false := by simp [fixAt]
theorem oneAt_end (l : List UInt8) : oneAt l l.length = false := by simp [oneAt]
theorem fixAt_snoc (l : List UInt8) (c : UInt8) (h : c = 48 ∨ c = 49) : fixAt (l ++ [c]) = updw (fixAt l) l.length := by
  funext i
  simp only [fixAt, updw, get_snoc]
  by_cases e : i = l.length
  · rw [if_pos e]; rcases h with rfl | rfl <;> simp [e]
  · rw [if_neg e]; simp [e]
theorem oneAt_snoc (l : List UInt8) (c : UInt8) : oneAt (l ++ [c]) = setOne (oneAt l) l.length (c == 49) := by
  funext i
  simp only [oneAt, setOne, get_snoc]
  by_cases e : i = l.length
  · rw [if_pos e]; simp [e]
  · rw [if_neg e]; simp [e]
theorem fixAt_snoc_x (l : List UInt8) : fixAt (l ++ [120]) = fixAt l := by
  funext i
  simp only [fixAt, get_snoc]
  by_cases e : i = l.length
  · rw [if_pos e]; subst e; simp
  · rw [if_neg e]
theorem oneAt_snoc_x (l : List UInt8) : oneAt (l ++ [120]) = oneAt l := by
  rw [oneAt_snoc]; funext i; simp [setOne]
theorem sym_cases {c : UInt8} (h : sym c = true) : c = 48 ∨ c = 49 ∨ c = 120 := by
  simp only [sym, Bool.or_eq_true, beq_iff_eq] at h
  rcases h with (h | h) | h <;> simp [h]

/-- Do two cubes meet? what they have in common; does the one lie inside the other? -/
def meetsB (a b : List UInt8) : Bool := (List.zip a b).all fun x => x.1 == x.2 || x.1 == 120 || x.2 == 120
def meetL (a b : List UInt8) : List UInt8 := List.zipWith (fun x y => if x == 120 then y else x) a b
def insideB (a b : List UInt8) : Bool := (List.zip a b).all fun x => x.1 == x.2 || x.2 == 120

theorem zip_all {a b : List UInt8} (h : a.length = b.length) (f : UInt8 × UInt8 → Bool) : (List.zip a b).all f = true ↔ ∀ i (hi : i < a.length), f (a[i], b[i]'(h ▸ hi)) = true := by
  rw [List.all_eq_true]
  constructor
  · intro H i hi
    refine H _ ?_
    have hz : i < (List.zip a b).length := by simp [← h, hi]
    have := List.getElem_mem hz
    simpa using this
  · intro H x hx
    obtain ⟨i, hi, rfl⟩ := List.getElem_of_mem hx
    have hi' : i < a.length := by simp at hi; omega
    simpa using H i hi'

theorem right_all {l : List UInt8} (h : right l = true) : l.all sym = true ∧ 1 ≤ l.length ∧ l.length ≤ 128 := by
  simp only [right, Bool.and_eq_true, decide_eq_true_eq] at h
  exact ⟨h.1.1, h.1.2, h.2⟩
theorem sym_at {l : List UInt8} (h : l.all sym = true) (i : Nat) (hi : i < l.length) : l[i] = 48 ∨ l[i] = 49 ∨ l[i] = 120 :=
  sym_cases (List.all_eq_true.1 h _ (List.getElem_mem hi))

theorem fixAt_lt {l : List UInt8} {i : Nat} (hi : i < l.length) : fixAt l i = (l[i] == 48 || l[i] == 49) := by
  simp [fixAt, List.getElem?_eq_getElem hi]
theorem oneAt_lt {l : List UInt8} {i : Nat} (hi : i < l.length) : oneAt l i = (l[i] == 49) := by
  simp [oneAt, List.getElem?_eq_getElem hi]
theorem fixAt_ge {l : List UInt8} {i : Nat} (hi : l.length ≤ i) : fixAt l i = false := by
  simp [fixAt, List.getElem?_eq_none hi]
theorem oneAt_ge {l : List UInt8} {i : Nat} (hi : l.length ≤ i) : oneAt l i = false := by
  simp [oneAt, List.getElem?_eq_none hi]

/-- Two cubes part at place i. -/
def partAt (a b : List UInt8) (i : Nat) : Bool := (oneAt a i != oneAt b i) && fixAt a i && fixAt b i
theorem meetsB_iff {a b : List UInt8} (ha : a.all sym = true) (hb : b.all sym = true) (h : a.length = b.length) : meetsB a b = true ↔ ∀ i, partAt a b i = false := by
  unfold meetsB
  rw [zip_all h]
  constructor
  · intro H i
    by_cases hi : i < a.length
    · have h1 := H i hi
      have hi' : i < b.length := h ▸ hi
      unfold partAt
      rw [fixAt_lt hi, fixAt_lt hi', oneAt_lt hi, oneAt_lt hi']
      rcases sym_at ha i hi with e | e | e <;> rcases sym_at hb i hi' with f | f | f <;> simp [e, f] at h1 ⊢
    · unfold partAt; rw [fixAt_ge (by omega)]; simp
  · intro H i hi
    have h1 := H i
    have hi' : i < b.length := h ▸ hi
    unfold partAt at h1
    rw [fixAt_lt hi, fixAt_lt hi', oneAt_lt hi, oneAt_lt hi'] at h1
    rcases sym_at ha i hi with e | e | e <;> rcases sym_at hb i hi' with f | f | f <;> simp [e, f] at h1 ⊢

/-- The one lies outside of the other at place i. -/
def outAt (a b : List UInt8) (i : Nat) : Bool := fixAt b i && (!fixAt a i || (oneAt a i != oneAt b i))
theorem insideB_iff {a b : List UInt8} (ha : a.all sym = true) (hb : b.all sym = true) (h : a.length = b.length) : insideB a b = true ↔ ∀ i, outAt a b i = false := by
  unfold insideB
  rw [zip_all h]
  constructor
  · intro H i
    by_cases hi : i < a.length
    · have h1 := H i hi
      have hi' : i < b.length := h ▸ hi
      unfold outAt
      rw [fixAt_lt hi, fixAt_lt hi', oneAt_lt hi, oneAt_lt hi']
      rcases sym_at ha i hi with e | e | e <;> rcases sym_at hb i hi' with f | f | f <;> simp [e, f] at h1 ⊢
    · unfold outAt; rw [fixAt_ge (l := b) (by omega)]; simp
  · intro H i hi
    have h1 := H i
    have hi' : i < b.length := h ▸ hi
    unfold outAt at h1
    rw [fixAt_lt hi, fixAt_lt hi', oneAt_lt hi, oneAt_lt hi'] at h1
    rcases sym_at ha i hi with e | e | e <;> rcases sym_at hb i hi' with f | f | f <;> simp [e, f] at h1 ⊢

theorem meetL_length {a b : List UInt8} (h : a.length = b.length) : (meetL a b).length = a.length := by simp [meetL, h]
theorem meetL_at {a b : List UInt8} (h : a.length = b.length) (i : Nat) (hi : i < a.length) : (meetL a b)[i]'(by rw [meetL_length h]; exact hi) = if a[i] == 120 then b[i]'(h ▸ hi) else a[i] := by
  simp [meetL]
theorem meetL_sym {a b : List UInt8} (ha : a.all sym = true) (hb : b.all sym = true) (h : a.length = b.length) : (meetL a b).all sym = true := by
  rw [List.all_eq_true]
  intro x hx
  obtain ⟨i, hi, rfl⟩ := List.getElem_of_mem hx
  have hi' : i < a.length := by rw [meetL_length h] at hi; exact hi
  rw [meetL_at h i hi']
  split
  · exact List.all_eq_true.1 hb _ (List.getElem_mem _)
  · exact List.all_eq_true.1 ha _ (List.getElem_mem _)
theorem meetL_right {a b : List UInt8} (ha : right a = true) (hb : right b = true) (h : a.length = b.length) : right (meetL a b) = true := by
  obtain ⟨h1, h2, h3⟩ := right_all ha
  obtain ⟨k1, _, _⟩ := right_all hb
  simp only [right, Bool.and_eq_true, decide_eq_true_eq]
  exact ⟨⟨meetL_sym h1 k1 h, by rw [meetL_length h]; exact h2⟩, by rw [meetL_length h]; exact h3⟩
theorem fixAt_meetL {a b : List UInt8} (ha : a.all sym = true) (hb : b.all sym = true) (h : a.length = b.length) (i : Nat) : fixAt (meetL a b) i = (fixAt a i || fixAt b i) := by
  by_cases hi : i < a.length
  · have hi' : i < b.length := h ▸ hi
    rw [fixAt_lt (by rw [meetL_length h]; exact hi), fixAt_lt hi, fixAt_lt hi', meetL_at h i hi]
    rcases sym_at ha i hi with e | e | e <;> rcases sym_at hb i hi' with f | f | f <;> simp [e, f]
  · rw [fixAt_ge (by rw [meetL_length h]; omega), fixAt_ge (by omega), fixAt_ge (l := b) (by omega)]; rfl
theorem oneAt_meetL {a b : List UInt8} (ha : a.all sym = true) (hb : b.all sym = true) (h : a.length = b.length) (hm : meetsB a b = true) (i : Nat) : oneAt (meetL a b) i = (oneAt a i || oneAt b i) := by
  by_cases hi : i < a.length
  · have hi' : i < b.length := h ▸ hi
    have hp := (meetsB_iff ha hb h).1 hm i
    unfold partAt at hp
    rw [fixAt_lt hi, fixAt_lt hi', oneAt_lt hi, oneAt_lt hi'] at hp
    rw [oneAt_lt (by rw [meetL_length h]; exact hi), oneAt_lt hi, oneAt_lt hi', meetL_at h i hi]
    rcases sym_at ha i hi with e | e | e <;> rcases sym_at hb i hi' with f | f | f <;> simp [e, f] at hp ⊢
  · rw [oneAt_ge (by rw [meetL_length h]; omega), oneAt_ge (by omega), oneAt_ge (l := b) (by omega)]; rfl

end Cu
end Go.Proofs.Ytffngpdngjfcfaa
