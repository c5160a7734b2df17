/-
  read: texts into ternaries.
  mustBeCube: the ternary of a cube; a panic with ErrCube at a text that is none.
  What the calls on a set of places do: has, add; and fix on a ternary.
  Plain mathematics of ternary headers as lists of bytes, and of the two words in which the program keeps a set of places. No program is named here.
-/
import Derived.Test.YtipmlcdnfaobiaaGreatRows
import Derived.WalkKit
import Derived.WalkSpells
import Derived.WalkLawsBesides
import Derived.RegionTactic
import Derived.ChangeAlike
import Derived.Defers
import Derived.Recover
import Derived.Deep.RegionHeld3
import Derived.Deep.RegionWith
import Derived.Deep.DrawnRows
namespace Go.Proofs.YtipmlcdnfaobiaaGreat.Cub
namespace Cu

/-- The word whose bit i (i < n) is p i. -/
def word (p : Nat → Bool) : Nat → Nat
  | 0 => 0
  | n + 1 => word p n ||| (if p n then 2 ^ n else 0)

theorem testBit_word (p : Nat → Bool) (n i : Nat) : (word p n).testBit i = (decide (i < n) && p i) := by
  induction n with
  | zero => simp [word]
  | succ n ih =>
    rw [word, Nat.testBit_or, ih]
    by_cases hp : p n
    · rw [if_pos hp, Nat.testBit_two_pow]
      by_cases e : n = i
      · subst e; simp [hp]
      · have : (i < n + 1) ↔ i < n := by omega
        simp [e, this]
    · rw [if_neg hp]
      by_cases e : i = n
      · subst e; simp [hp]
      · have : (i < n + 1) ↔ i < n := by omega
        simp [this]

theorem word_lt (p : Nat → Bool) (n : Nat) : word p n < 2 ^ n := by
  refine Nat.lt_pow_two_of_testBit _ fun i hi => ?_
  rw [testBit_word]
  simp; omega

theorem word_eq {p : Nat → Bool} {x : Nat} (n : Nat) (hx : x < 2 ^ n) (h : ∀ i, i < n → x.testBit i = p i) : x = word p n := by
  refine Nat.eq_of_testBit_eq fun i => ?_
  rw [testBit_word]
  by_cases hi : i < n
  · simp [hi, h i hi]
  · have : x.testBit i = false := Nat.testBit_lt_two_pow (Nat.lt_of_lt_of_le hx (Nat.pow_le_pow_right (by omega) (by omega)))
    simp [hi, this]

/-- Word k of a set of places. -/
def wd (p : Nat → Bool) (k : Nat) : Nat := word (fun i => p (64 * k + i)) 64
theorem wd_lt (p : Nat → Bool) (k : Nat) : wd p k < 18446744073709551616 := word_lt _ 64
theorem testBit_wd (p : Nat → Bool) (k i : Nat) : (wd p k).testBit i = (decide (i < 64) && p (64 * k + i)) := testBit_word _ _ _
theorem wd_eq {p : Nat → Bool} {x k : Nat} (hx : x < 18446744073709551616) (h : ∀ i, i < 64 → x.testBit i = p (64 * k + i)) : x = wd p k :=
  word_eq 64 hx h
theorem wd_congr {p q : Nat → Bool} {k : Nat} (h : ∀ i, i < 64 → p (64 * k + i) = q (64 * k + i)) : wd p k = wd q k :=
  wd_eq (wd_lt _ _) fun i hi => by rw [testBit_wd]; simp [hi, h i hi]

theorem or_lt {a b : Nat} (ha : a < 18446744073709551616) (hb : b < 18446744073709551616) : a ||| b < 18446744073709551616 := Nat.or_lt_two_pow (n := 64) ha hb
theorem and_lt {a b : Nat} (ha : a < 18446744073709551616) : a &&& b < 18446744073709551616 := Nat.lt_of_le_of_lt Nat.and_le_left ha
theorem xor_lt {a b : Nat} (ha : a < 18446744073709551616) (hb : b < 18446744073709551616) : a ^^^ b < 18446744073709551616 := Nat.xor_lt_two_pow (n := 64) ha hb
theorem pow_lt {i : Nat} (hi : i < 64) : 2 ^ i < 18446744073709551616 := Nat.pow_lt_pow_right (a := 2) (by omega) hi

/-- Is the place fixed? is it 1? (behind the end: free) -/
def fixAt (l : List UInt8) (i : Nat) : Bool := l[i]? == some 48 || l[i]? == some 49
def oneAt (l : List UInt8) (i : Nat) : Bool := l[i]? == some 49

/-- A byte of a cube; a cube. -/
def sym (c : UInt8) : Bool := c == 48 || c == 49 || c == 120
def right (l : List UInt8) : Bool := l.all sym && decide (1 ≤ l.length) && decide (l.length ≤ 128)

/-- Two words, bit by bit: is the and of them nought? -/
theorem and_ne_zero {x y : Nat} : (x &&& y = 0) ↔ ∀ i, (x.testBit i && y.testBit i) = false := by
  constructor
  · intro h i
    have := congrArg (fun z => z.testBit i) h
    simpa [Nat.testBit_and] using this
  · intro h
    refine Nat.eq_of_testBit_eq fun i => ?_
    rw [Nat.testBit_and, h i]; simp

/-- One bit more of a word. -/
def updw (p : Nat → Bool) (j : Nat) : Nat → Bool := fun i => p i || decide (i = j)
theorem wd_upd_same (p : Nat → Bool) (j : Nat) : wd p (j / 64) ||| 2 ^ (j % 64) = wd (updw p j) (j / 64) := by
  refine wd_eq (or_lt (wd_lt _ _) (pow_lt (by omega))) fun i hi => ?_
  rw [Nat.testBit_or, testBit_wd, Nat.testBit_two_pow]
  simp only [hi, updw, decide_true, Bool.true_and]
  congr 1
  apply decide_eq_decide.2
  omega
theorem wd_upd_other (p : Nat → Bool) (j k : Nat) (h : k ≠ j / 64) : wd (updw p j) k = wd p k := by
  refine wd_congr fun i hi => ?_
  have : ¬ (64 * k + i = j) := by omega
  simp [updw, this]

/-- One bit more, if that is said. -/
def setOne (q : Nat → Bool) (j : Nat) (one : Bool) : Nat → Bool := fun i => q i || (one && decide (i = j))

theorem get_snoc (l : List UInt8) (c : UInt8) (i : Nat) : (l ++ [c])[i]? = if i = l.length then some c else l[i]? := by
  by_cases h : i < l.length
  · rw [List.getElem?_append_left h, if_neg (by omega)]
  · rw [List.getElem?_append_right (by omega)]
    by_cases e : i = l.length
    · subst e; simp
    · rw [if_neg e, List.getElem?_eq_none (by simp; omega), List.getElem?_eq_none (by omega)]

theorem fixAt_snoc (l : List UInt8) (c : UInt8) (h : c = 48 ∨ c = 49) : fixAt (l ++ [c]) = updw (fixAt l) l.length := by
  funext i
  simp only [fixAt, updw, get_snoc]
  by_cases e : i = l.length
  · rw [if_pos e]; rcases h with rfl | rfl <;> simp [e]
  · rw [if_neg e]; simp [e]
theorem oneAt_snoc (l : List UInt8) (c : UInt8) : oneAt (l ++ [c]) = setOne (oneAt l) l.length (c == 49) := by
  funext i
  simp only [oneAt, setOne, get_snoc]
  by_cases e : i = l.length
  · rw [if_pos e]; simp [e]
  · rw [if_neg e]; simp [e]
theorem fixAt_snoc_x (l : List UInt8) : fixAt (l ++ [120]) = fixAt l := by
  funext i
  simp only [fixAt, get_snoc]
  by_cases e : i = l.length
  · rw [if_pos e]; subst e; simp
  · rw [if_neg e]
theorem oneAt_snoc_x (l : List UInt8) : oneAt (l ++ [120]) = oneAt l := by
  rw [oneAt_snoc]; funext i; simp [setOne]
theorem sym_cases {c : UInt8} (h : sym c = true) : c = 48 ∨ c = 49 ∨ c = 120 := by
  simp only [sym, Bool.or_eq_true, beq_iff_eq] at h
  rcases h with (h | h) | h <;> simp [h]

/-- Do two cubes meet? what they have in common; does the one lie inside the other? -/
def meetsB (a b : List UInt8) : Bool := (List.zip a b).all fun x => x.1 == x.2 || x.1 == 120 || x.2 == 120
def meetL (a b : List UInt8) : List UInt8 := List.zipWith (fun x y => if x == 120 then y else x) a b
def insideB (a b : List UInt8) : Bool := (List.zip a b).all fun x => x.1 == x.2 || x.2 == 120

theorem zip_all {a b : List UInt8} (h : a.length = b.length) (f : UInt8 × UInt8 → Bool) : (List.zip a b).all f = true ↔ ∀ i (hi : i < a.length), f (a[i], b[i]'(h ▸ hi)) = true := by
  rw [List.all_eq_true]
  constructor
  · intro H i hi
    refine H _ ?_
    have hz : i < (List.zip a b).length := by simp [← h, hi]
    have := List.getElem_mem hz
    simpa using this
  · intro H x hx
    obtain ⟨i, hi, rfl⟩ := List.getElem_of_mem hx
    have hi' : i < a.length := by simp at hi; omega
    simpa using H i hi'

theorem right_all {l : List UInt8} (h : right l = true) : l.all sym = true ∧ 1 ≤ l.length ∧ l.length ≤ 128 := by
  simp only [right, Bool.and_eq_true, decide_eq_true_eq] at h
  exact ⟨h.1.1, h.1.2, h.2⟩
theorem sym_at {l : List UInt8} (h : l.all sym = true) (i : Nat) (hi : i < l.length) : l[i] = 48 ∨ l[i] = 49 ∨ l[i] = 120 :=
  sym_cases (List.all_eq_true.1 h _ (List.getElem_mem hi))

theorem fixAt_lt {l : List UInt8} {i : Nat} (hi : i < l.length) : fixAt l i = (l[i] == 48 || l[i] == 49) := by
  simp [fixAt, List.getElem?_eq_getElem hi]
theorem oneAt_lt {l : List UInt8} {i : Nat} (hi : i < l.length) : oneAt l i = (l[i] == 49) := by
  simp [oneAt, List.getElem?_eq_getElem hi]
theorem fixAt_ge {l : List UInt8} {i : Nat} (hi : l.length ≤ i) : fixAt l i = false := by
  simp [fixAt, List.getElem?_eq_none hi]
theorem oneAt_ge {l : List UInt8} {i : Nat} (hi : l.length ≤ i) : oneAt l i = false := by
  simp [oneAt, List.getElem?_eq_none hi]

/-- Two cubes part at place i. -/
def partAt (a b : List UInt8) (i : Nat) : Bool := (oneAt a i != oneAt b i) && fixAt a i && fixAt b i
theorem meetsB_iff {a b : List UInt8} (ha : a.all sym = true) (hb : b.all sym = true) (h : a.length = b.length) : meetsB a b = true ↔ ∀ i, partAt a b i = false := by
  unfold meetsB
  rw [zip_all h]
  constructor
  · intro H i
    by_cases hi : i < a.length
    · have h1 := H i hi
      have hi' : i < b.length := h ▸ hi
      unfold partAt
      rw [fixAt_lt hi, fixAt_lt hi', oneAt_lt hi, oneAt_lt hi']
      rcases sym_at ha i hi with e | e | e <;> rcases sym_at hb i hi' with f | f | f <;> simp [e, f] at h1 ⊢
    · unfold partAt; rw [fixAt_ge (by omega)]; simp
  · intro H i hi
    have h1 := H i
    have hi' : i < b.length := h ▸ hi
    unfold partAt at h1
    rw [fixAt_lt hi, fixAt_lt hi', oneAt_lt hi, oneAt_lt hi'] at h1
    rcases sym_at ha i hi with e | e | e <;> rcases sym_at hb i hi' with f | f | f <;> simp [e, f] at h1 ⊢

/-- The one lies outside of the other at place i. -/
def outAt (a b : List UInt8) (i : Nat) : Bool := fixAt b i && (!fixAt a i || (oneAt a i != oneAt b i))
theorem insideB_iff {a b : List UInt8} (ha : a.all sym = true) (hb : b.all sym = true) (h : a.length = b.length) : insideB a b = true ↔ ∀ i, outAt a b i = false := by
  unfold insideB
  rw [zip_all h]
  constructor
  · intro H i
    by_cases hi : i < a.length
    · have h1 := H i hi
      have hi' : i < b.length := h ▸ hi
      unfold outAt
      rw [fixAt_lt hi, fixAt_lt hi', oneAt_lt hi, oneAt_lt hi']
      rcases sym_at ha i hi with e | e | e <;> rcases sym_at hb i hi' with f | f | f <;> simp [e, f] at h1 ⊢
    · unfold outAt; rw [fixAt_ge (l := b) (by omega)]; simp
  · intro H i hi
    have h1 := H i
    have hi' : i < b.length := h ▸ hi
    unfold outAt at h1
    rw [fixAt_lt hi, fixAt_lt hi', oneAt_lt hi, oneAt_lt hi'] at h1
    rcases sym_at ha i hi with e | e | e <;> rcases sym_at hb i hi' with f | f | f <;> simp [e, f] at h1 ⊢

theorem meetL_length {a b : List UInt8} (h : a.length = b.length) : (meetL a b).length = a.length := by simp [meetL, h]
theorem meetL_at {a b : List UInt8} (h : a.length = b.length) (i : Nat) (hi : i < a.length) : (meetL a b)[i]'(by rw [meetL_length h]; exact hi) = if a[i] == 120 then b[i]'(h ▸ hi) else a[i] := by
  simp [meetL]
theorem meetL_sym {a b : List UInt8} (ha : a.all sym = true) (hb : b.all sym = true) (h : a.length = b.length) : (meetL a b).all sym = true := by
  rw [List.all_eq_true]
  intro x hx
  obtain ⟨i, hi, rfl⟩ := List.getElem_of_mem hx
  have hi' : i < a.length := by rw [meetL_length h] at hi; exact hi
  rw [meetL_at h i hi']
  split
  · exact List.all_eq_true.1 hb _ (List.getElem_mem _)
  · exact List.all_eq_true.1 ha _ (List.getElem_mem _)
theorem meetL_right {a b : List UInt8} (ha : right a = true) (hb : right b = true) (h : a.length = b.length) : right (meetL a b) = true := by
  obtain ⟨h1, h2, h3⟩ := right_all ha
  obtain ⟨k1, _, _⟩ := right_all hb
  simp only [right, Bool.and_eq_true, decide_eq_true_eq]
  exact ⟨⟨meetL_sym h1 k1 h, by rw [meetL_length h]; exact h2⟩, by rw [meetL_length h]; exact h3⟩
theorem fixAt_meetL {a b : List UInt8} (ha : a.all sym = true) (hb : b.all sym = true) (h : a.length = b.length) (i : Nat) : fixAt (meetL a b) i = (fixAt a i || fixAt b i) := by
  by_cases hi : i < a.length
  · have hi' : i < b.length := h ▸ hi
    rw [fixAt_lt (by rw [meetL_length h]; exact hi), fixAt_lt hi, fixAt_lt hi', meetL_at h i hi]
    rcases sym_at ha i hi with e | e | e <;> rcases sym_at hb i hi' with f | f | f <;> simp [e, f]
  · rw [fixAt_ge (by rw [meetL_length h]; omega), fixAt_ge (by omega), fixAt_ge (l := b) (by omega)]; rfl
theorem oneAt_meetL {a b : List UInt8} (ha : a.all sym = true) (hb : b.all sym = true) (h : a.length = b.length) (hm : meetsB a b = true) (i : Nat) : oneAt (meetL a b) i = (oneAt a i || oneAt b i) := by
  by_cases hi : i < a.length
  · have hi' : i < b.length := h ▸ hi
    have hp := (meetsB_iff ha hb h).1 hm i
    unfold partAt at hp
    rw [fixAt_lt hi, fixAt_lt hi', oneAt_lt hi, oneAt_lt hi'] at hp
    rw [oneAt_lt (by rw [meetL_length h]; exact hi), oneAt_lt hi, oneAt_lt hi', meetL_at h i hi]
    rcases sym_at ha i hi with e | e | e <;> rcases sym_at hb i hi' with f | f | f <;> simp [e, f] at hp ⊢
  · rw [oneAt_ge (by rw [meetL_length h]; omega), oneAt_ge (by omega), oneAt_ge (l := b) (by omega)]; rfl

end Cu
end Go.Proofs.YtipmlcdnfaobiaaGreat.Cub
namespace Go.Proofs.YtipmlcdnfaobiaaGreat.Cub
open Go.RowKit

theorem has_bit (x j : Nat) (hx : x < 18446744073709551616) : (bits .and .u64 ((x : Int) / 2 ^ j) 1 == 1) = x.testBit j := by
  have e : ((x : Int) / 2 ^ j) = ((x / 2 ^ j : Nat) : Int) := by simp
  rw [e]
  have := u64_and_nat (x / 2 ^ j) 1 (Nat.lt_of_le_of_lt (Nat.div_le_self _ _) hx) (by omega)
  rw [show (1 : Int) = ((1 : Nat) : Int) from rfl, this, nat_mask1, Nat.testBit_eq_decide_div_mod_eq]
  rw [Bool.eq_iff_iff]
  simp only [beq_iff_eq, decide_eq_true_eq]
  omega

set_option maxHeartbeats 400000 in
theorem has_lo (a b i : Nat) (w : World) (hi : i < 64) (ha : a < 18446744073709551616) :
    Calls Tryz.prog 108 #[.agg #[.int .u64 (a : Int), .int .u64 (b : Int)], .int .i64 (i : Int)] w fun e w' =>
      e = .returned (.bool (a.testBit i)) ∧ w' = w.alloc (.cells #[.int .u64 (a : Int), .int .u64 (b : Int)] 106) := by
  have hq : ((i : Int) / 64) = 0 := by omega
  go_enter Tryz.func108, Tryz.ntmps108
  go_wp2
  go_ret
  refine ⟨?_, rfl⟩
  rw [has_bit a (i % 64) ha, Nat.mod_eq_of_lt hi]
  rfl

set_option maxHeartbeats 400000 in
theorem has_hi (a b i : Nat) (w : World) (hi : ¬ i < 64) (h2 : i < 128) (hb : b < 18446744073709551616) :
    Calls Tryz.prog 108 #[.agg #[.int .u64 (a : Int), .int .u64 (b : Int)], .int .i64 (i : Int)] w fun e w' =>
      e = .returned (.bool (b.testBit (i - 64))) ∧ w' = w.alloc (.cells #[.int .u64 (a : Int), .int .u64 (b : Int)] 106) := by
  have hq : ((i : Int) / 64) = 1 := by omega
  go_enter Tryz.func108, Tryz.ntmps108
  go_wp2
  go_ret
  refine ⟨?_, rfl⟩
  rw [has_bit b (i % 64) hb, show i % 64 = i - 64 from by omega]
  rfl

def c4 (p q : Nat → Bool) : Array Value := #[.int .u64 (Cu.wd p 0 : Int), .int .u64 (Cu.wd p 1 : Int), .int .u64 (Cu.wd q 0 : Int), .int .u64 (Cu.wd q 1 : Int)]

theorem has_any (p : Nat → Bool) (i : Nat) (w : World) (h2 : i < 128) :
    Calls Tryz.prog 108 #[.agg #[.int .u64 (Cu.wd p 0 : Int), .int .u64 (Cu.wd p 1 : Int)], .int .i64 (i : Int)] w fun e w' =>
      e = .returned (.bool (p i)) ∧ Below w.heap.size w w' := by
  by_cases hi : i < 64
  · refine (has_lo _ _ i w hi (Cu.wd_lt _ _)).mono ?_
    rintro e w' ⟨rfl, rfl⟩
    refine ⟨?_, (Below.refl _ _).alloc (Nat.le_refl _) _⟩
    rw [Cu.testBit_wd]; simp [hi]
  · refine (has_hi _ _ i w hi h2 (Cu.wd_lt _ _)).mono ?_
    rintro e w' ⟨rfl, rfl⟩
    refine ⟨?_, (Below.refl _ _).alloc (Nat.le_refl _) _⟩
    rw [Cu.testBit_wd]
    have : i - 64 < 64 := by omega
    have e2 : 64 * 1 + (i - 64) = i := by omega
    simp only [this, decide_true, Bool.true_and, e2]

theorem or_bit (x j : Nat) (hx : x < 18446744073709551616) (hj : j < 64) : bits .or .u64 (x : Int) (IntKind.u64.wrap (2 ^ j)) = ((x ||| 2 ^ j : Nat) : Int) := by
  have e : IntKind.u64.wrap (2 ^ j) = ((2 ^ j : Nat) : Int) := by
    have := Cu.pow_lt hj
    rw [IntKind.wrap_u64, show ((2 : Int) ^ j) = ((2 ^ j : Nat) : Int) from by simp]
    generalize 2 ^ j = y at *
    omega
  rw [e, u64_or_nat _ _ hx (Cu.pow_lt hj)]

set_option maxHeartbeats 400000 in
theorem add_lo (x i b o : Nat) (w : World) (hi : i < 64) (hx : x < 18446744073709551616) (hc : w.cell? ⟨b, o, none⟩ = some (.int .u64 (x : Int))) (hf : w.frozen? ⟨b, o, none⟩ = false) :
    Calls Tryz.prog 128 #[.pointer (some ⟨b, o, none⟩), .int .i64 (i : Int)] w fun e w' =>
      e = .returned (.tuple #[]) ∧ w' = (w.setCell ⟨b, o, none⟩ (.int .u64 ((x ||| 2 ^ i : Nat) : Int))).drew := by
  have hq : ((i : Int) / 64) = 0 := by omega
  go_enter Tryz.func128, Tryz.ntmps128
  go_wp2
  go_region
  go_end0
  refine ⟨rfl, ?_⟩
  rw [Nat.mod_eq_of_lt hi, or_bit x i hx hi]

set_option maxHeartbeats 400000 in
theorem add_hi (x i b o : Nat) (w : World) (hi : ¬ i < 64) (h2 : i < 128) (hx : x < 18446744073709551616) (hc : w.cell? ⟨b, o + 1, none⟩ = some (.int .u64 (x : Int))) (hf : w.frozen? ⟨b, o + 1, none⟩ = false) :
    Calls Tryz.prog 128 #[.pointer (some ⟨b, o, none⟩), .int .i64 (i : Int)] w fun e w' =>
      e = .returned (.tuple #[]) ∧ w' = (w.setCell ⟨b, o + 1, none⟩ (.int .u64 ((x ||| 2 ^ (i - 64) : Nat) : Int))).drew := by
  have hq : ((i : Int) / 64) = 1 := by omega
  go_enter Tryz.func128, Tryz.ntmps128
  go_wp2
  go_region
  go_end0
  refine ⟨rfl, ?_⟩
  rw [show i % 64 = i - 64 from by omega, or_bit x (i - 64) hx (by omega)]

/-- A block of four cells: its cells, and that they may be written; the block behind a store. -/
theorem four_cell {w : World} {b : Nat} {c0 c1 c2 c3 : Value} {t : TypeId} (h : w.heap[b]? = some (.cells #[c0, c1, c2, c3] t (0, 0))) :
    w.cell? ⟨b, 0, none⟩ = some c0 ∧ w.cell? ⟨b, 1, none⟩ = some c1 ∧ w.cell? ⟨b, 2, none⟩ = some c2 ∧ w.cell? ⟨b, 3, none⟩ = some c3 := by
  simp [World.cell?, h]
theorem free_of {w : World} {b o : Nat} {cs : Array Value} {t : TypeId} (h : w.heap[b]? = some (.cells cs t (0, 0))) : w.frozen? ⟨b, o, none⟩ = false := by
  simp [World.frozen?, h]
theorem block_set {w : World} {b o : Nat} {cs : Array Value} {t : TypeId} (u : Value) (h : w.heap[b]? = some (.cells cs t (0, 0))) :
    (w.setCell ⟨b, o, none⟩ u).heap[b]? = some (.cells (cs.setIfInBounds o u) t (0, 0)) := by
  have hlt := lt_of_block h
  have h' : w.heap[b] = .cells cs t (0, 0) := by simpa [Array.getElem?_eq_getElem hlt] using h
  show (w.heap.modify b _)[b]? = _
  rw [Array.getElem?_eq_getElem (by simpa using hlt), Array.getElem_modify_self, h']
  rfl
theorem new_0 (w : World) (o : Obj) : (w.alloc o).heap[w.heap.size]? = some o := by
  show (w.heap.push o)[w.heap.size]? = _
  rw [Array.getElem?_push, if_pos rfl]
theorem new_1 (w : World) (o o' : Obj) : ((w.alloc o).alloc o').heap[w.heap.size + 1]? = some o' := by
  show ((w.heap.push o).push o')[w.heap.size + 1]? = _
  rw [Array.getElem?_push, if_pos (by simp)]
theorem new_old (w : World) (o : Obj) {k : Nat} {x : Obj} (h : w.heap[k]? = some x) : (w.alloc o).heap[k]? = some x := by
  have := lt_of_block h
  show (w.heap.push o)[k]? = _
  rw [Array.getElem?_push, if_neg (by omega), h]
theorem grown_set (w : World) (b o : Nat) (u : Value) : w.grownBy (w.setCell ⟨b, o, none⟩ u).drew (some b) :=
  ⟨rfl, rfl, rfl, by simp, fun k _ hne => Below.heap_setCell _ _ _ _ (fun e => hne (by simp [e]))⟩
theorem grown_trans {a b c : World} {r : Option Nat} (h : a.grownBy b r) (k : b.grownBy c r) : a.grownBy c r :=
  ⟨k.os.trans h.os, k.tape.trans h.tape, k.output.trans h.output, Nat.le_trans h.size k.size, fun i hi hne => (k.block i (Nat.lt_of_lt_of_le hi h.size) hne).trans (h.block i hi hne)⟩
theorem grown_of_below {a b : World} (r : Option Nat) (h : Below a.heap.size a b) : a.grownBy b r := ⟨h.os, h.tape, h.output, h.size, fun i hi _ => h.block i hi⟩
theorem grown_refl (a : World) (r : Option Nat) : a.grownBy a r := ⟨rfl, rfl, rfl, Nat.le_refl _, fun _ _ _ => rfl⟩

theorem add_fixed (p q : Nat → Bool) (i b : Nat) (w : World) (h2 : i < 128) (hb : w.heap[b]? = some (.cells (c4 p q) 108 (0, 0))) :
    Calls Tryz.prog 128 #[.pointer (some ⟨b, 0, none⟩), .int .i64 (i : Int)] w fun e w' =>
      e = .returned (.tuple #[]) ∧ w'.heap[b]? = some (.cells (c4 (Cu.updw p i) q) 108 (0, 0)) ∧ w.grownBy w' (some b) := by
  have hc := four_cell hb
  by_cases hi : i < 64
  · refine (add_lo _ i b 0 w hi (Cu.wd_lt _ _) hc.1 (free_of hb)).mono ?_
    rintro e w' ⟨rfl, rfl⟩
    refine ⟨rfl, ?_, grown_set _ _ _ _⟩
    show (w.setCell _ _).heap[b]? = _
    rw [block_set _ hb]
    have e0 := Cu.wd_upd_same p i
    have e1 := Cu.wd_upd_other p i 1 (by omega)
    rw [show i / 64 = 0 from by omega, Nat.mod_eq_of_lt hi] at e0
    simp [c4, e0, e1]
  · refine (add_hi _ i b 0 w hi h2 (Cu.wd_lt _ _) hc.2.1 (free_of hb)).mono ?_
    rintro e w' ⟨rfl, rfl⟩
    refine ⟨rfl, ?_, grown_set _ _ _ _⟩
    show (w.setCell _ _).heap[b]? = _
    rw [block_set _ hb]
    have e0 := Cu.wd_upd_same p i
    have e1 := Cu.wd_upd_other p i 0 (by omega)
    rw [show i / 64 = 1 from by omega, show i % 64 = i - 64 from by omega] at e0
    simp [c4, e0, e1]

theorem add_ones (p q : Nat → Bool) (i b : Nat) (w : World) (h2 : i < 128) (hb : w.heap[b]? = some (.cells (c4 p q) 108 (0, 0))) :
    Calls Tryz.prog 128 #[.pointer (some ⟨b, 2, none⟩), .int .i64 (i : Int)] w fun e w' =>
      e = .returned (.tuple #[]) ∧ w'.heap[b]? = some (.cells (c4 p (Cu.updw q i)) 108 (0, 0)) ∧ w.grownBy w' (some b) := by
  have hc := four_cell hb
  by_cases hi : i < 64
  · refine (add_lo _ i b 2 w hi (Cu.wd_lt _ _) hc.2.2.1 (free_of hb)).mono ?_
    rintro e w' ⟨rfl, rfl⟩
    refine ⟨rfl, ?_, grown_set _ _ _ _⟩
    show (w.setCell _ _).heap[b]? = _
    rw [block_set _ hb]
    have e0 := Cu.wd_upd_same q i
    have e1 := Cu.wd_upd_other q i 1 (by omega)
    rw [show i / 64 = 0 from by omega, Nat.mod_eq_of_lt hi] at e0
    simp [c4, e0, e1]
  · refine (add_hi _ i b 2 w hi h2 (Cu.wd_lt _ _) hc.2.2.2 (free_of hb)).mono ?_
    rintro e w' ⟨rfl, rfl⟩
    refine ⟨rfl, ?_, grown_set _ _ _ _⟩
    show (w.setCell _ _).heap[b]? = _
    rw [block_set _ hb]
    have e0 := Cu.wd_upd_same q i
    have e1 := Cu.wd_upd_other q i 0 (by omega)
    rw [show i / 64 = 1 from by omega, show i % 64 = i - 64 from by omega] at e0
    simp [c4, e0, e1]

set_option maxHeartbeats 400000 in
theorem fix_any (p q : Nat → Bool) (i b : Nat) (one : Bool) (w : World) (h2 : i < 128) (hb : w.heap[b]? = some (.cells (c4 p q) 108 (0, 0))) :
    Calls Tryz.prog 106 #[.pointer (some ⟨b, 0, none⟩), .int .i64 (i : Int), .bool one] w fun e w' =>
      e = .returned (.tuple #[]) ∧ w'.heap[b]? = some (.cells (c4 (Cu.updw p i) (Cu.setOne q i one)) 108 (0, 0)) ∧ w.grownBy w' (some b) := by
  have HB : Hid (w.heap[b]? = some (.cells (c4 p q) 108 (0, 0))) := hb
  clear hb
  cases one with
  | false =>
    have e : Cu.setOne q i false = q := by funext j; simp [Cu.setOne]
    rw [e]
    go_enter Tryz.func106, Tryz.ntmps106
    go_wp2_with fail
    refine (add_fixed p q i b w h2 HB.out).mono ?_
    rintro e w1 ⟨rfl, h1, g1⟩
    have H1 : Hid _ := h1
    clear h1
    go_wp2_with fail
    go_end0
    exact ⟨rfl, H1.out, g1⟩
  | true =>
    have e : Cu.setOne q i true = Cu.updw q i := by funext j; simp [Cu.setOne, Cu.updw]
    rw [e]
    go_enter Tryz.func106, Tryz.ntmps106
    go_wp2_with fail
    refine (add_fixed p q i b w h2 HB.out).mono ?_
    rintro e w1 ⟨rfl, h1, g1⟩
    have H1 : Hid _ := h1
    clear h1
    go_wp2_with fail
    refine (add_ones _ q i b w1 h2 H1.out).mono ?_
    rintro e w2 ⟨rfl, h2', g2⟩
    go_wp2_with fail
    go_end0
    exact ⟨rfl, h2', grown_trans g1 g2⟩
end Go.Proofs.YtipmlcdnfaobiaaGreat.Cub
namespace Go.Proofs.YtipmlcdnfaobiaaGreat.Cub
open Go.RowKit

/-- The cells of a cube's ternary. -/
abbrev tc (l : List UInt8) : Array Value := c4 (Cu.fixAt l) (Cu.oneAt l)

theorem take_snoc (s : ByteArray) (k : Nat) (h : k < s.size) : s.data.toList.take (k + 1) = s.data.toList.take k ++ [s[k]] := by
  rw [List.take_succ_eq_append_getElem (by simpa using h)]; rfl
theorem take_len (s : ByteArray) (k : Nat) (h : k ≤ s.size) : (s.data.toList.take k).length = k := by
  rw [List.length_take]; simp; exact Nat.min_eq_left h
theorem grown_block {w w' : World} {r : Nat} (g : w.grownBy w' (some r)) {k : Nat} {o : Obj} (h : w.heap[k]? = some o) (hne : k ≠ r) : w'.heap[k]? = some o :=
  (g.block k (lt_of_block h) (by simp [hne])).trans h
theorem below_grown {B r : Nat} {w w1 w2 : World} (h : Below B w w1) (g : w1.grownBy w2 (some r)) (h1 : B ≤ w1.heap.size) (h2 : B ≤ r) : Below B w w2 :=
  h.grown g h1 (fun k hk => by simp at hk; omega)

theorem tc_snoc_fix (l : List UInt8) (c : UInt8) (h : c = 48 ∨ c = 49) : tc (l ++ [c]) = c4 (Cu.updw (Cu.fixAt l) l.length) (Cu.setOne (Cu.oneAt l) l.length (c == 49)) := by
  rw [tc, Cu.fixAt_snoc l c h, Cu.oneAt_snoc]
theorem tc_snoc_x (l : List UInt8) : tc (l ++ [120]) = tc l := by
  rw [tc, Cu.fixAt_snoc_x, Cu.oneAt_snoc_x]
theorem tc_nil : tc [] = #[.int .u64 0, .int .u64 0, .int .u64 0, .int .u64 0] := by
  have e : Cu.wd (Cu.fixAt []) = fun _ => 0 := by
    funext k
    symm
    exact Cu.wd_eq (by omega) (fun i _ => by simp [Cu.fixAt])
  have e2 : Cu.wd (Cu.oneAt []) = fun _ => 0 := by
    funext k
    symm
    exact Cu.wd_eq (by omega) (fun i _ => by simp [Cu.oneAt])
  simp [tc, c4, e, e2]

set_option maxHeartbeats 400000 in
theorem must_right (s : ByteArray) (w : World) (hs : Cu.right s.data.toList = true) :
    Calls Tryz.prog 79 #[.string s] w fun e w' =>
      e = .returned (.agg (tc s.data.toList)) ∧ Below w.heap.size w w' := by
  have hr := hs
  simp only [Cu.right, Bool.and_eq_true, decide_eq_true_eq, Array.length_toList] at hr
  obtain ⟨⟨hall, h1⟩, h2⟩ := hr
  have h1' : 1 ≤ s.size := h1
  have h2' : s.size ≤ 128 := h2
  have hd1 : decide ((s.size : Int) < 1) = false := by simp; omega
  have hd2 : decide (128 < (s.size : Int)) = false := by simp; omega
  clear h1 h2 hs
  have HA : Hid (s.data.toList.all Cu.sym = true) := hall
  clear hall
  go_enter Tryz.func79, Tryz.ntmps79
  go_wp2
  go_loopw [16] (fun i wr => ∃ k : Nat, k ≤ s.size ∧ i = .int .i64 k ∧ wr.heap[w.heap.size + 1]? = some (.cells (tc (s.data.toList.take k)) 108 (0, 0)) ∧
      wr.heap[w.heap.size]? = some (.cells #[.int .u64 0, .int .u64 0, .int .u64 0, .int .u64 0] 108 (0, 0)) ∧ Below w.heap.size w wr)
    (fun i _ => s.size - (intOf i).toNat)
  case atStart =>
    refine ⟨0, Nat.zero_le _, rfl, ?_, ?_, ((Below.refl _ _).alloc (Nat.le_refl _) _).alloc (by simp) _⟩
    · rw [List.take_zero, tc_nil]
      exact new_1 _ _ _
    · exact new_old _ _ (new_0 _ _)
  case round =>
    obtain ⟨k, hk, rfl, ht, hz, hb⟩ := hrel
    have HT : Hid _ := ht
    have HZ : Hid _ := hz
    by_cases hlt : k < s.size
    · clear ht hz
      have hsym : Cu.sym s[k] = true := by
        have := HA.out
        rw [List.all_eq_true] at this
        refine this _ ?_
        show s.data[k] ∈ s.data.toList
        simp
      have HS : Hid (s.data.toList.take (k + 1) = s.data.toList.take k ++ [s[k]]) := take_snoc s k hlt
      have HL : Hid ((s.data.toList.take k).length = k) := take_len s k hk
      have hs1 := hb.size
      rcases Cu.sym_cases hsym with hc | hc | hc
      · have hcn : (s[k].toNat : Int) = 48 := by rw [hc]; rfl
        have HC : Hid (s[k] = 48) := hc
        clear hc hsym
        go_wp2_with fail
        refine (fix_any _ _ k _ false wr (by omega) HT.out).mono ?_
        rintro e w1 ⟨rfl, hn, g1⟩
        have HN : Hid _ := hn
        clear hn
        go_wp2
        go_roundw
        case rel =>
          refine ⟨k + 1, by omega, by go_num, ?_, grown_block g1 HZ.out (by omega), below_grown hb g1 hs1 (by omega)⟩
          rw [HS.out, HC.out, tc_snoc_fix _ _ (Or.inl rfl), HL.out]
          exact HN.out
        case measure => simp [intOf]; omega
      · have hcn : (s[k].toNat : Int) = 49 := by rw [hc]; rfl
        have HC : Hid (s[k] = 49) := hc
        clear hc hsym
        go_wp2_with fail
        refine (fix_any _ _ k _ true wr (by omega) HT.out).mono ?_
        rintro e w1 ⟨rfl, hn, g1⟩
        have HN : Hid _ := hn
        clear hn
        go_wp2
        go_roundw
        case rel =>
          refine ⟨k + 1, by omega, by go_num, ?_, grown_block g1 HZ.out (by omega), below_grown hb g1 hs1 (by omega)⟩
          rw [HS.out, HC.out, tc_snoc_fix _ _ (Or.inr rfl), HL.out]
          exact HN.out
        case measure => simp [intOf]; omega
      · have hcn : (s[k].toNat : Int) = 120 := by rw [hc]; rfl
        have HC : Hid (s[k] = 120) := hc
        clear hc hsym
        go_wp2
        go_roundw
        case rel =>
          refine ⟨k + 1, by omega, by go_num, ?_, HZ.out, hb⟩
          rw [HS.out, HC.out, tc_snoc_x]
          exact HT.out
        case measure => simp [intOf]; omega
    · have hkk : k = s.size := by omega
      subst hkk
      have HE : Hid (s.data.toList.take s.size = s.data.toList) := by
        show _ = _
        rw [List.take_of_length_le (by simp)]
      obtain ⟨t0, t1, t2, t3⟩ := four_cell ht
      obtain ⟨z0, z1, z2, z3⟩ := four_cell hz
      have f0 : wr.frozen? ⟨w.heap.size, 0, none⟩ = false := free_of hz
      have f1 : wr.frozen? ⟨w.heap.size, 1, none⟩ = false := free_of hz
      have f2 : wr.frozen? ⟨w.heap.size, 2, none⟩ = false := free_of hz
      have f3 : wr.frozen? ⟨w.heap.size, 3, none⟩ = false := free_of hz
      clear ht hz
      go_wp2
      refine bodyPost_ret (v := .agg (tc (s.data.toList.take s.size))) ?_ rfl ⟨by rw [HE.out], ?_⟩
      · simp [results, Tryz.results79, go_sem, z0, z1, z2, z3, c4]
      · exact (((hb.setCell (by simp) _).setCell (by simp) _).setCell (by simp) _).setCell (by simp) _

/-- A ternary's value, written out. -/
abbrev tv (l : List UInt8) : Value := .agg #[.int .u64 (Cu.wd (Cu.fixAt l) 0 : Int), .int .u64 (Cu.wd (Cu.fixAt l) 1 : Int), .int .u64 (Cu.wd (Cu.oneAt l) 0 : Int), .int .u64 (Cu.wd (Cu.oneAt l) 1 : Int)]

theorem must_right' (s : ByteArray) (w : World) (hs : Cu.right s.data.toList = true) :
    Calls Tryz.prog 79 #[.string s] w fun e w' => e = .returned (tv s.data.toList) ∧ Below w.heap.size w w' := must_right s w hs

/-- The panic of a text that is no cube. -/
abbrev noCube : List PanicEntry := [{ v := .iface 33 (.int .i64 10), recovered := false }]

set_option maxHeartbeats 400000 in
theorem must_size (s : ByteArray) (w : World) (hs : s.size < 1 ∨ 128 < s.size) :
    Calls Tryz.prog 79 #[.string s] w fun e w' => e = .panicked noCube ∧ Below w.heap.size w w' := by
  rcases hs with hs | hs
  · have hd1 : decide ((s.size : Int) < 1) = true := by simp; omega
    go_enter Tryz.func79, Tryz.ntmps79
    go_wp2
    exact ⟨rfl, rfl, (Below.refl _ _).alloc (Nat.le_refl _) _⟩
  · have hd1 : decide ((s.size : Int) < 1) = false := by simp; omega
    have hd2 : decide (128 < (s.size : Int)) = true := by simp; omega
    go_enter Tryz.func79, Tryz.ntmps79
    go_wp2
    exact ⟨rfl, rfl, (Below.refl _ _).alloc (Nat.le_refl _) _⟩

set_option maxHeartbeats 400000 in
theorem must_sym (s : ByteArray) (w : World) (h1' : 1 ≤ s.size) (h2' : s.size ≤ 128) (hall : s.data.toList.all Cu.sym = false) :
    Calls Tryz.prog 79 #[.string s] w fun e w' => e = .panicked noCube ∧ Below w.heap.size w w' := by
  have hd1 : decide ((s.size : Int) < 1) = false := by simp; omega
  have hd2 : decide (128 < (s.size : Int)) = false := by simp; omega
  have HA : Hid (s.data.toList.all Cu.sym = false) := hall
  clear hall
  go_enter Tryz.func79, Tryz.ntmps79
  go_wp2
  go_loopw [16] (fun i wr => ∃ k : Nat, k ≤ s.size ∧ i = .int .i64 k ∧ (∃ p q, wr.heap[w.heap.size + 1]? = some (.cells (c4 p q) 108 (0, 0))) ∧
      Hid ((s.data.toList.take k).all Cu.sym = true) ∧ Below w.heap.size w wr)
    (fun i _ => s.size - (intOf i).toNat)
  case atStart =>
    refine ⟨0, Nat.zero_le _, rfl, ⟨Cu.fixAt [], Cu.oneAt [], ?_⟩, ?_, ((Below.refl _ _).alloc (Nat.le_refl _) _).alloc (by simp) _⟩
    · have := tc_nil
      rw [tc] at this
      rw [this]
      exact new_1 _ _ _
    · show _ = _
      simp
  case round =>
    obtain ⟨k, hk, rfl, ⟨p, q, ht⟩, hpre, hb⟩ := hrel
    have HT : Hid _ := ht
    clear ht
    have hs1 := hb.size
    by_cases hlt : k < s.size
    · have HS : Hid (s.data.toList.take (k + 1) = s.data.toList.take k ++ [s[k]]) := take_snoc s k hlt
      by_cases hsym : Cu.sym s[k] = true
      · have HP : Hid ((s.data.toList.take (k + 1)).all Cu.sym = true) := by
          show _ = _
          rw [HS.out, List.all_append, hpre.out]; simp [hsym]
        rcases Cu.sym_cases hsym with hc | hc | hc
        · have hcn : (s[k].toNat : Int) = 48 := by rw [hc]; rfl
          clear hc hsym
          go_wp2_with fail
          refine (fix_any _ _ k _ false wr (by omega) HT.out).mono ?_
          rintro e w1 ⟨rfl, hn, g1⟩
          have HN : Hid _ := hn
          clear hn
          go_wp2
          go_roundw
          case rel => exact ⟨k + 1, by omega, by go_num, ⟨_, _, HN.out⟩, HP, below_grown hb g1 hs1 (by omega)⟩
          case measure => simp [intOf]; omega
        · have hcn : (s[k].toNat : Int) = 49 := by rw [hc]; rfl
          clear hc hsym
          go_wp2_with fail
          refine (fix_any _ _ k _ true wr (by omega) HT.out).mono ?_
          rintro e w1 ⟨rfl, hn, g1⟩
          have HN : Hid _ := hn
          clear hn
          go_wp2
          go_roundw
          case rel => exact ⟨k + 1, by omega, by go_num, ⟨_, _, HN.out⟩, HP, below_grown hb g1 hs1 (by omega)⟩
          case measure => simp [intOf]; omega
        · have hcn : (s[k].toNat : Int) = 120 := by rw [hc]; rfl
          clear hc hsym
          go_wp2
          go_roundw
          case rel => exact ⟨k + 1, by omega, by go_num, ⟨_, _, HT.out⟩, HP, hb⟩
          case measure => simp [intOf]; omega
      · have n1 : ((s[k].toNat : Int) == 48) = false := by
          rw [beq_eq_false_iff_ne]; intro h; exact hsym (by have : s[k] = 48 := UInt8.toNat.inj (by simp; omega); simp [Cu.sym, this])
        have n2 : ((s[k].toNat : Int) == 49) = false := by
          rw [beq_eq_false_iff_ne]; intro h; exact hsym (by have : s[k] = 49 := UInt8.toNat.inj (by simp; omega); simp [Cu.sym, this])
        have n3 : ((s[k].toNat : Int) == 120) = false := by
          rw [beq_eq_false_iff_ne]; intro h; exact hsym (by have : s[k] = 120 := UInt8.toNat.inj (by simp; omega); simp [Cu.sym, this])
        clear hsym
        go_wp2
        exact ⟨rfl, rfl, hb⟩
    · exfalso
      have hkk : k = s.size := by omega
      have h1 := hpre.out
      rw [hkk, List.take_of_length_le (by simp)] at h1
      have h2 := HA.out
      rw [h1] at h2
      cases h2

theorem must_wrong (s : ByteArray) (w : World) (hs : Cu.right s.data.toList = false) :
    Calls Tryz.prog 79 #[.string s] w fun e w' => e = .panicked noCube ∧ Below w.heap.size w w' := by
  by_cases h : s.size < 1 ∨ 128 < s.size
  · exact must_size s w h
  · refine must_sym s w (by omega) (by omega) ?_
    have h1 : 1 ≤ s.data.toList.length := by simp; show 1 ≤ s.size; omega
    have h2 : s.data.toList.length ≤ 128 := by simp; show s.size ≤ 128; omega
    simpa only [Cu.right, h1, h2, decide_true, Bool.and_true] using hs
end Go.Proofs.YtipmlcdnfaobiaaGreat.Cub
namespace Go.Proofs.YtipmlcdnfaobiaaGreat.Cub
open Go.RowKit

def zero4 : Array Value := #[.int .u64 0, .int .u64 0, .int .u64 0, .int .u64 0]
def made (n : Nat) : Array Value := madeCells zero4 (n * 4)
theorem Tryz.infoTern : (Tryz.prog.info? 108).map (fun i => (i.zero, i.size, i.bytes)) = some (some (.agg zero4), 4, 32) := by kernel_rfl

theorem run_made (n : Nat) (hn : n ≤ 1000000) (w : World) :
    (Instr.makeSlice 101 (.int .i64 (n : Int)) (.int .i64 (n : Int))).run Tryz.prog w = .ok (.slice (some ⟨w.heap.size, 0, none⟩) n n) (w.alloc (.cells (made n) 108)) := by
  obtain ⟨i, hi, hz0, hz1, hz2⟩ := info_parts Tryz.infoTern
  have := run_make (P := Tryz.prog) w 101 108 i (.agg zero4) Tryz.underlying101 hi hz0 .i64 .i64 n n (by omega) (by omega) (by rw [hz2]; omega) (by omega)
  rw [this, hz1]
  rfl

theorem catch_panicking (p q : Addr) (x y : Value) (pv : Value) (older : List PanicEntry) (w : World) (hc : w.cell? p = some x) (hz : w.frozen? p = false) (hc2 : w.cell? q = some y) (hz2 : w.frozen? q = false) (hpq : p ≠ q) :
    CallsD Tryz.prog 78 #[.pointer (some p), .pointer (some q)] (.panicking ({ v := .iface 33 pv, recovered := false } :: older)) w fun e u' w' =>
      e = .returned (.tuple #[]) ∧ u' = .panicking ({ v := .iface 33 pv, recovered := true } :: older) ∧ w' = (w.setCell p (.slice none 0 0)).setCell q (.int .i64 10) := by
  have hc2' : (w.setCell p (.slice none 0 0)).cell? q = some y := by rw [World.cell?_setCell_other _ _ _ _ hpq]; exact hc2
  refine callsD_of_wpS Tryz.func78 rfl fun c₀ cs hu => ?_
  apply wpS_seq
  apply wpS_region
  simp [wpOpsS, go_sem, recoverD, hu, Tryz.ntmps78, Exit.thenS]
  refine wpS_cond (t := true) (by simp [Act.eval, Array.replicate]) ?_
  simp only [if_true]
  apply wpS_region
  simp [wpOpsS, go_sem, hc, hz, hc2', hz2, bodyPostS, results, Tryz.results78]

theorem catch_idle (p q : Addr) (w : World) :
    CallsD Tryz.prog 78 #[.pointer (some p), .pointer (some q)] .returning w fun e u' w' => e = .returned (.tuple #[]) ∧ u' = .returning ∧ w' = w := by
  refine callsD_of_wpS Tryz.func78 rfl fun c₀ cs hu => ?_
  apply wpS_seq
  apply wpS_region
  simp [wpOpsS, go_sem, recoverD, hu, Tryz.ntmps78, Exit.thenS]
  refine wpS_cond (t := false) (by simp [Act.eval, Array.replicate]) ?_
  simp only [Bool.false_eq_true, if_false]
  refine wpS_of_wp (wp_skip ?_)
  cases c₀
  simp_all [bodyPostS, results, Tryz.results78]

/-- Cells in which k ternaries lie one behind the other. -/
def lie (cs : Array Value) (k : Nat) (L : Nat → List UInt8) : Prop :=
  ∀ i, i < k → ∀ j, j < 4 → cs[i * 4 + j]? = (tc (L i))[j]?

theorem made_size (n : Nat) : (made n).size = n * 4 := size_madeCells _ _

/-- The bytes of the i-th text. -/
abbrev by_ (S : Nat → ByteArray) (i : Nat) : List UInt8 := (S i).data.toList

theorem cells_some {w : World} {g : Nat} {cs : Array Value} {t : TypeId} (h : w.heap[g]? = some (.cells cs t (0, 0))) {x : Nat} (hx : x < cs.size) : ∃ v, w.cell? ⟨g, x, none⟩ = some v := by
  exact ⟨cs[x], by simp [World.cell?, h, hx]⟩
theorem four_at {w : World} {g : Nat} {cs : Array Value} {t : TypeId} (h : w.heap[g]? = some (.cells cs t (0, 0))) {x : Nat} (hx : x + 3 < cs.size) :
    (∃ v, w.cell? ⟨g, x, none⟩ = some v) ∧ (∃ v, w.cell? ⟨g, x + 1, none⟩ = some v) ∧ (∃ v, w.cell? ⟨g, x + 2, none⟩ = some v) ∧ (∃ v, w.cell? ⟨g, x + 3, none⟩ = some v) ∧
      w.frozen? ⟨g, x, none⟩ = false ∧ w.frozen? ⟨g, x + 1, none⟩ = false ∧ w.frozen? ⟨g, x + 2, none⟩ = false ∧ w.frozen? ⟨g, x + 3, none⟩ = false :=
  ⟨cells_some h (by omega), cells_some h (by omega), cells_some h (by omega), cells_some h hx, free_of h, free_of h, free_of h, free_of h⟩
theorem below_block {B k : Nat} {w w' : World} (h : Below B w w') {x : Obj} (hx : w.heap[k]? = some x) (hk : k < B) : w'.heap[k]? = some x := (h.block k hk).trans hx

/-- Four cells stored one behind the other. -/
def set4 (cs : Array Value) (x : Nat) (a b c d : Value) : Array Value := (((cs.setIfInBounds x a).setIfInBounds (x + 1) b).setIfInBounds (x + 2) c).setIfInBounds (x + 3) d
theorem set4_size (cs : Array Value) (x : Nat) (a b c d : Value) : (set4 cs x a b c d).size = cs.size := by simp [set4]
theorem set4_get (cs : Array Value) (x : Nat) (a b c d : Value) (hx : x + 3 < cs.size) (y : Nat) :
    (set4 cs x a b c d)[y]? = if y = x then some a else if y = x + 1 then some b else if y = x + 2 then some c else if y = x + 3 then some d else cs[y]? := by
  simp only [set4, Array.getElem?_setIfInBounds, Array.size_setIfInBounds]
  by_cases h0 : y = x
  · subst h0
    rw [if_neg (by omega), if_neg (by omega), if_neg (by omega), if_pos rfl, if_pos (by omega), if_pos rfl]
  · by_cases h1 : y = x + 1
    · subst h1
      rw [if_neg (by omega), if_neg (by omega), if_pos rfl, if_pos (by omega), if_neg (by omega), if_pos rfl]
    · by_cases h2 : y = x + 2
      · subst h2
        rw [if_neg (by omega), if_pos rfl, if_pos (by omega), if_neg (by omega), if_neg (by omega), if_pos rfl]
      · by_cases h3 : y = x + 3
        · subst h3
          rw [if_pos rfl, if_pos (by omega), if_neg (by omega), if_neg (by omega), if_neg (by omega), if_pos rfl]
        · rw [if_neg (by omega), if_neg (by omega), if_neg (by omega), if_neg (by omega), if_neg h0, if_neg h1, if_neg h2, if_neg h3]
theorem store4 {w : World} {g x : Nat} {cs : Array Value} {t : TypeId} (h : w.heap[g]? = some (.cells cs t (0, 0))) (a b c d : Value) :
    ((((w.setCell ⟨g, x, none⟩ a).setCell ⟨g, x + 1, none⟩ b).setCell ⟨g, x + 2, none⟩ c).setCell ⟨g, x + 3, none⟩ d).heap[g]? = some (.cells (set4 cs x a b c d) t (0, 0)) :=
  block_set _ (block_set _ (block_set _ (block_set _ h)))
theorem store4_other {w : World} {g x k : Nat} (a b c d : Value) (hk : k ≠ g) :
    ((((w.setCell ⟨g, x, none⟩ a).setCell ⟨g, x + 1, none⟩ b).setCell ⟨g, x + 2, none⟩ c).setCell ⟨g, x + 3, none⟩ d).heap[k]? = w.heap[k]? := by
  rw [Below.heap_setCell _ _ _ _ hk, Below.heap_setCell _ _ _ _ hk, Below.heap_setCell _ _ _ _ hk, Below.heap_setCell _ _ _ _ hk]
theorem lie_set {cs : Array Value} {k n : Nat} {L : Nat → List UInt8} (h : lie cs k L) (hs : cs.size = n * 4) (hk : k < n) (l : List UInt8) (hl : l = L k) :
    lie (set4 cs (k * 4) (.int .u64 (Cu.wd (Cu.fixAt l) 0 : Int)) (.int .u64 (Cu.wd (Cu.fixAt l) 1 : Int)) (.int .u64 (Cu.wd (Cu.oneAt l) 0 : Int)) (.int .u64 (Cu.wd (Cu.oneAt l) 1 : Int))) (k + 1) L := by
  subst hl
  intro i hi j hj
  rw [set4_get _ _ _ _ _ _ (by omega)]
  by_cases e : i = k
  · subst e
    have : j = 0 ∨ j = 1 ∨ j = 2 ∨ j = 3 := by omega
    rcases this with rfl | rfl | rfl | rfl <;> simp [c4]
  · rw [if_neg (by omega), if_neg (by omega), if_neg (by omega), if_neg (by omega)]
    exact h i (by omega) j hj
theorem lie_zero (cs : Array Value) (L : Nat → List UInt8) : lie cs 0 L := fun i hi => absurd hi (Nat.not_lt_zero i)

/-- The world behind the store of a ternary. -/
abbrev st4 (w : World) (g x : Nat) (l : List UInt8) : World :=
  (((w.setCell ⟨g, x, none⟩ (.int .u64 (Cu.wd (Cu.fixAt l) 0 : Int))).setCell ⟨g, x + 1, none⟩ (.int .u64 (Cu.wd (Cu.fixAt l) 1 : Int))).setCell ⟨g, x + 2, none⟩ (.int .u64 (Cu.wd (Cu.oneAt l) 0 : Int))).setCell ⟨g, x + 3, none⟩ (.int .u64 (Cu.wd (Cu.oneAt l) 1 : Int))

theorem undrew {w w1 : World} (h : Below w.drew.heap.size w.drew w1) : Below w.heap.size w w1 := ⟨h.os, h.tape, h.output, h.size, h.block⟩

theorem rel_step (S : Nat → ByteArray) {w wr w1 : World} {cs : Array Value} {n k : Nat} {o0 o1 : Obj}
    (h0 : wr.heap[w.heap.size]? = some o0) (h1 : wr.heap[w.heap.size + 1]? = some o1) (h2 : wr.heap[w.heap.size + 2]? = some (.cells cs 108 (0, 0)))
    (hsz : cs.size = n * 4) (hlie : lie cs k (by_ S)) (hlt : k < n) (hbl : Below w.heap.size w wr) (hb1 : Below wr.heap.size wr w1) :
    (st4 w1 (w.heap.size + 2) (k * 4) (S k).data.toList).heap[w.heap.size]? = some o0 ∧ (st4 w1 (w.heap.size + 2) (k * 4) (S k).data.toList).heap[w.heap.size + 1]? = some o1 ∧
      (∃ cs, (st4 w1 (w.heap.size + 2) (k * 4) (S k).data.toList).heap[w.heap.size + 2]? = some (.cells cs 108 (0, 0)) ∧ cs.size = n * 4 ∧ lie cs (k + 1) (by_ S)) ∧
      Below w.heap.size w (st4 w1 (w.heap.size + 2) (k * 4) (S k).data.toList) := by
  have hs := hbl.size
  refine ⟨?_, ?_, ⟨_, store4 (below_block hb1 h2 (lt_of_block h2)) _ _ _ _, ?_, ?_⟩, ?_⟩
  · rw [store4_other _ _ _ _ (by omega)]; exact below_block hb1 h0 (lt_of_block h0)
  · rw [store4_other _ _ _ _ (by omega)]; exact below_block hb1 h1 (lt_of_block h1)
  · rw [set4_size]; exact hsz
  · exact lie_set hlie hsz hlt (S k).data.toList rfl
  · exact ((((hbl.trans (hb1.mono hs)).setCell (by simp) _).setCell (by simp) _).setCell (by simp) _).setCell (by simp) _

theorem start_three (w : World) (o0 o1 o2 : Obj) : (((w.alloc o0).alloc o1).alloc o2).heap[w.heap.size]? = some o0 ∧ (((w.alloc o0).alloc o1).alloc o2).heap[w.heap.size + 1]? = some o1 ∧
    (((w.alloc o0).alloc o1).alloc o2).heap[w.heap.size + 2]? = some o2 ∧ Below w.heap.size w (((w.alloc o0).alloc o1).alloc o2) := by
  refine ⟨new_old _ _ (new_old _ _ (new_0 _ _)), new_old _ _ (new_1 _ _ _), ?_, (((Below.refl _ _).alloc (Nat.le_refl _) _).alloc (by simp) _).alloc (by simp; omega) _⟩
  have := new_0 ((w.alloc o0).alloc o1) o2
  simpa using this

set_option maxHeartbeats 1000000 in
theorem read_right (S : Nat → ByteArray) (n b o cap : Nat) (w : World) (hb : b < w.heap.size) (hc : ∀ i, i < n → w.cell? ⟨b, o + i, none⟩ = some (.string (S i)))
    (hn0 : 0 < n) (hn : n ≤ 1000000) (hr : ∀ i, i < n → Cu.right (by_ S i) = true) (hw : ∀ i, i < n → (S i).size = (S 0).size) :
    Calls Tryz.prog 58 #[.slice (some ⟨b, o, none⟩) n cap] w fun e w' =>
      e = .returned (.tuple #[.slice (some ⟨w.heap.size + 2, 0, none⟩) n n, .int .i64 0]) ∧ (∃ cs, w'.heap[w.heap.size + 2]? = some (.cells cs 108 (0, 0)) ∧ cs.size = n * 4 ∧ lie cs n (by_ S)) ∧ Below w.heap.size w w' := by
  have HC : Hid (∀ i, i < n → w.cell? ⟨b, o + i, none⟩ = some (.string (S i))) := hc
  have HR : Hid (∀ i, i < n → Cu.right (by_ S i) = true) := hr
  have HW : Hid (∀ i, i < n → (S i).size = (S 0).size) := hw
  clear hc hr hw
  have hmf : ∀ (fn : Fn) (first cap : Array Value) (w : World), (Instr.makeFunc fn first cap).run Tryz.prog w = .ok (.func fn first cap) w := fun _ _ _ _ => rfl
  have hmk := run_made n hn
  go_enter_defers Tryz.func58, Tryz.ntmps58
  go_wp2
  go_loopw [14] (fun i wr => ∃ k : Nat, k ≤ n ∧ i = .int .i64 k ∧ wr.heap[w.heap.size]? = some (.cells #[.slice (some ⟨w.heap.size + 2, 0, none⟩) n n] 101 (0, 0)) ∧
      wr.heap[w.heap.size + 1]? = some (.cells #[.int .i64 0] 33 (0, 0)) ∧
      (∃ cs, wr.heap[w.heap.size + 2]? = some (.cells cs 108 (0, 0)) ∧ cs.size = n * 4 ∧ lie cs k (by_ S)) ∧ Below w.heap.size w wr)
    (fun i _ => n - (intOf i).toNat)
  case atStart =>
    have R := start_three w (.cells #[.slice (some ⟨w.heap.size + 2, 0, none⟩) n n] 101 (0, 0)) (.cells #[.int .i64 0] 33 (0, 0)) (.cells (made n) 108 (0, 0))
    exact ⟨0, Nat.zero_le _, rfl, R.1, R.2.1, ⟨made n, R.2.2.1, made_size n, lie_zero _ _⟩, R.2.2.2⟩
  case round =>
    obtain ⟨k, hk, rfl, h0, h1, ⟨cs, h2, hsz, hlie⟩, hbl⟩ := hrel
    have H1 : Hid _ := h1
    have H2 : Hid _ := h2
    have H0 : Hid _ := h0
    have hs1 := hbl.size
    have c0 := cell_of_one h0
    have hlt0 := lt_of_block h2
    by_cases hlt : k < n
    · have hck : wr.cell? ⟨b, o + k, none⟩ = some (.string (S k)) := by rw [hbl.cell (by exact hb)]; exact HC.out k hlt
      have hkI : (0 : Int) ≤ (k : Int) := by omega
      have hkI2 : (k : Int) < (n : Int) := by omega
      clear h0 h1 h2
      go_wp2_with fail
      go_region_held3 (fun w' => w'.cell? ⟨w.heap.size, 0, none⟩ = some (.slice (some ⟨w.heap.size + 2, 0, none⟩) n n)) (first | (go_keep; done) | exact hc1) (first | (go_at_call 79; refine (must_right' (S k) _ (HR.out k hlt)).mono ?_; rintro e w1 ⟨rfl, hb1⟩; have hc1 : w1.cell? ⟨w.heap.size, 0, none⟩ = some (.slice (some ⟨w.heap.size + 2, 0, none⟩) n n) := (by rw [hb1.cell (by show w.heap.size < wr.heap.size; omega)]; exact c0); obtain ⟨⟨v0, q0⟩, ⟨v1, q1⟩, ⟨v2, q2⟩, ⟨v3, q3⟩, f0, f1, f2, f3⟩ := four_at (below_block hb1 (k := w.heap.size + 2) H2.out (by show w.heap.size + 2 < wr.heap.size; omega)) (x := k * 4) (by omega)))
      go_wp2
      go_roundw
      case rel =>
        have R := rel_step S H0.out H1.out H2.out hsz hlie hlt hbl (undrew hb1)
        exact ⟨k + 1, by omega, by go_num, R.1, R.2.1, R.2.2.1, R.2.2.2⟩
      case measure => simp [intOf]; omega
    · have hkn : k = n := by omega
      subst hkn
      have f0 : wr.frozen? ⟨w.heap.size, 0, none⟩ = false := free_of h0
      have f1 : wr.frozen? ⟨w.heap.size + 1, 0, none⟩ = false := free_of h1
      have c1 := cell_of_one h1
      have hc0 : wr.cell? ⟨b, o, none⟩ = some (.string (S 0)) := by rw [hbl.cell (by exact hb)]; exact HC.out 0 hn0
      clear h0 h1 h2
      go_wp2
      go_loop [27] (fun i => ∃ j : Nat, j ≤ k ∧ i = .int .i64 j) (fun i => k - (intOf i).toNat)
      case atStart => exact ⟨0, Nat.zero_le _, rfl⟩
      case round =>
        obtain ⟨j, hj, rfl⟩ := hrel
        by_cases hjn : j < k
        · have hck : wr.cell? ⟨b, o + j, none⟩ = some (.string (S j)) := by rw [hbl.cell (by exact hb)]; exact HC.out j hjn
          have hne : (((S j).size : Int) != ((S 0).size : Int)) = false := by rw [HW.out j hjn]; simp
          go_wp2
          go_round
          case rel => exact ⟨j + 1, by omega, by go_num⟩
          case measure => simp [intOf]; omega
        · go_wp2
          refine leaves_cons (f := 78) (args := #[.pointer (some ⟨w.heap.size, 0, none⟩), .pointer (some ⟨w.heap.size + 1, 0, none⟩)]) (by simp) (by simp [go_sem]) ?_
          refine (catch_idle _ _ _).mono ?_
          rintro e u' w'' ⟨rfl, rfl, rfl⟩
          refine ⟨.tuple #[.slice (some ⟨w.heap.size + 2, 0, none⟩) k k, .int .i64 0], ?_, rfl, ⟨cs, ?_, hsz, hlie⟩, ?_⟩
          · simp [results, Tryz.results58, go_sem, c0, c1]
          · rw [Below.heap_setCell _ _ _ _ (by simp), Below.heap_setCell _ _ _ _ (by simp)]; exact H2.out
          · exact (hbl.setCell (by simp) _).setCell (by simp) _

set_option maxHeartbeats 1000000 in
theorem read_width (S : Nat → ByteArray) (n b o cap : Nat) (w : World) (hb : b < w.heap.size) (hc : ∀ i, i < n → w.cell? ⟨b, o + i, none⟩ = some (.string (S i)))
    (hn0 : 0 < n) (hn : n ≤ 1000000) (hr : ∀ i, i < n → Cu.right (by_ S i) = true) (m : Nat) (hm : m < n) (hw : (S m).size ≠ (S 0).size) :
    Calls Tryz.prog 58 #[.slice (some ⟨b, o, none⟩) n cap] w fun e w' =>
      e = .returned (.tuple #[.slice none 0 0, .int .i64 11]) ∧ Below w.heap.size w w' := by
  have HC : Hid (∀ i, i < n → w.cell? ⟨b, o + i, none⟩ = some (.string (S i))) := hc
  have HR : Hid (∀ i, i < n → Cu.right (by_ S i) = true) := hr
  have HW : Hid ((S m).size ≠ (S 0).size) := hw
  clear hc hr hw
  have hmf : ∀ (fn : Fn) (first cap : Array Value) (w : World), (Instr.makeFunc fn first cap).run Tryz.prog w = .ok (.func fn first cap) w := fun _ _ _ _ => rfl
  have hmk := run_made n hn
  go_enter_defers Tryz.func58, Tryz.ntmps58
  go_wp2
  go_loopw [14] (fun i wr => ∃ k : Nat, k ≤ n ∧ i = .int .i64 k ∧ wr.heap[w.heap.size]? = some (.cells #[.slice (some ⟨w.heap.size + 2, 0, none⟩) n n] 101 (0, 0)) ∧
      wr.heap[w.heap.size + 1]? = some (.cells #[.int .i64 0] 33 (0, 0)) ∧
      (∃ cs, wr.heap[w.heap.size + 2]? = some (.cells cs 108 (0, 0)) ∧ cs.size = n * 4 ∧ lie cs k (by_ S)) ∧ Below w.heap.size w wr)
    (fun i _ => n - (intOf i).toNat)
  case atStart =>
    have R := start_three w (.cells #[.slice (some ⟨w.heap.size + 2, 0, none⟩) n n] 101 (0, 0)) (.cells #[.int .i64 0] 33 (0, 0)) (.cells (made n) 108 (0, 0))
    exact ⟨0, Nat.zero_le _, rfl, R.1, R.2.1, ⟨made n, R.2.2.1, made_size n, lie_zero _ _⟩, R.2.2.2⟩
  case round =>
    obtain ⟨k, hk, rfl, h0, h1, ⟨cs, h2, hsz, hlie⟩, hbl⟩ := hrel
    have H1 : Hid _ := h1
    have H2 : Hid _ := h2
    have H0 : Hid _ := h0
    have hs1 := hbl.size
    have c0 := cell_of_one h0
    have hlt0 := lt_of_block h2
    by_cases hlt : k < n
    · have hck : wr.cell? ⟨b, o + k, none⟩ = some (.string (S k)) := by rw [hbl.cell (by exact hb)]; exact HC.out k hlt
      have hkI : (0 : Int) ≤ (k : Int) := by omega
      have hkI2 : (k : Int) < (n : Int) := by omega
      clear h0 h1 h2
      go_wp2_with fail
      go_region_held3 (fun w' => w'.cell? ⟨w.heap.size, 0, none⟩ = some (.slice (some ⟨w.heap.size + 2, 0, none⟩) n n)) (first | (go_keep; done) | exact hc1) (first | (go_at_call 79; refine (must_right' (S k) _ (HR.out k hlt)).mono ?_; rintro e w1 ⟨rfl, hb1⟩; have hc1 : w1.cell? ⟨w.heap.size, 0, none⟩ = some (.slice (some ⟨w.heap.size + 2, 0, none⟩) n n) := (by rw [hb1.cell (by show w.heap.size < wr.heap.size; omega)]; exact c0); obtain ⟨⟨v0, q0⟩, ⟨v1, q1⟩, ⟨v2, q2⟩, ⟨v3, q3⟩, f0, f1, f2, f3⟩ := four_at (below_block hb1 (k := w.heap.size + 2) H2.out (by show w.heap.size + 2 < wr.heap.size; omega)) (x := k * 4) (by omega)))
      go_wp2
      go_roundw
      case rel =>
        have R := rel_step S H0.out H1.out H2.out hsz hlie hlt hbl (undrew hb1)
        exact ⟨k + 1, by omega, by go_num, R.1, R.2.1, R.2.2.1, R.2.2.2⟩
      case measure => simp [intOf]; omega
    · have hkn : k = n := by omega
      subst hkn
      have f0 : wr.frozen? ⟨w.heap.size, 0, none⟩ = false := free_of h0
      have f1 : wr.frozen? ⟨w.heap.size + 1, 0, none⟩ = false := free_of h1
      have c1 := cell_of_one h1
      have hc0 : wr.cell? ⟨b, o, none⟩ = some (.string (S 0)) := by rw [hbl.cell (by exact hb)]; exact HC.out 0 hn0
      clear h0 h1 h2
      go_wp2
      go_loop [27] (fun i => ∃ j : Nat, j ≤ k ∧ i = .int .i64 j ∧ j ≤ m) (fun i => k - (intOf i).toNat)
      case atStart => exact ⟨0, Nat.zero_le _, rfl, Nat.zero_le _⟩
      case round =>
        obtain ⟨j, hj, rfl, hjm⟩ := hrel
        have hjn : j < k := by omega
        have hck : wr.cell? ⟨b, o + j, none⟩ = some (.string (S j)) := by rw [hbl.cell (by exact hb)]; exact HC.out j hjn
        by_cases hsame : (S j).size = (S 0).size
        · have hne : (((S j).size : Int) != ((S 0).size : Int)) = false := by rw [hsame]; simp
          have hjm2 : j < m := by
            have : j ≠ m := fun e => HW.out (by rw [← e]; exact hsame)
            omega
          clear hsame
          go_wp2
          go_round
          case rel => exact ⟨j + 1, by omega, by go_num, by omega⟩
          case measure => simp [intOf]; omega
        · have hne : (((S j).size : Int) != ((S 0).size : Int)) = true := by rw [bne_iff_ne]; omega
          clear hsame
          go_wp2
          refine leaves_cons (f := 78) (args := #[.pointer (some ⟨w.heap.size, 0, none⟩), .pointer (some ⟨w.heap.size + 1, 0, none⟩)]) (by simp) (by simp [go_sem]) ?_
          refine (catch_idle _ _ _).mono ?_
          rintro e u' w'' ⟨rfl, rfl, rfl⟩
          refine ⟨.tuple #[.slice none 0 0, .int .i64 11], ?_, rfl, ?_⟩
          · simp [results, Tryz.results58, go_sem, c0, c1]
          · exact (hbl.setCell (by simp) _).setCell (by simp) _
end Go.Proofs.YtipmlcdnfaobiaaGreat.Cub
