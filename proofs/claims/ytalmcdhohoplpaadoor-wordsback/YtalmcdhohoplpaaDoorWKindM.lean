/-
  Names and numbers, over lists of bytes. No program is named here.
-/
import Derived.Test.YtalmcdhohoplpaaDoorWGlue
namespace Go.Proofs.YtalmcdhohoplpaaDoor
namespace Wo

def decF (n : Nat) (c : UInt8) : Nat := 10 * n + (c.toNat - 48)
def decN (l : List UInt8) : Nat := l.foldl decF 0
theorem decN_snoc (l : List UInt8) (c : UInt8) : decN (l ++ [c]) = 10 * decN l + (c.toNat - 48) := by simp [decN, decF]
theorem foldl_ge (t : List UInt8) (n : Nat) : n * 10 ^ t.length ≤ t.foldl decF n := by
  induction t generalizing n with
  | nil => simp
  | cons a t ih =>
    have := ih (decF n a)
    show _ ≤ t.foldl decF (decF n a)
    refine Nat.le_trans ?_ this
    have : n * 10 ≤ decF n a := by unfold decF; omega
    rw [List.length_cons, Nat.pow_succ, Nat.mul_comm (10 ^ t.length) 10, ← Nat.mul_assoc]
    exact Nat.mul_le_mul_right _ this
theorem decN_mono (l t : List UInt8) : decN l ≤ decN (l ++ t) := by
  unfold decN
  rw [List.foldl_append]
  have := foldl_ge t (l.foldl decF 0)
  exact Nat.le_trans (Nat.le_mul_of_pos_right _ (Nat.pow_pos (by omega))) this
def allD (l : List UInt8) : Bool := l.all fun c => dg c.toNat
/-- Is it a number? Its value; the error. -/
def numB (l : List UInt8) : Bool := decide (l ≠ [] ∧ (l.length ≤ 1 ∨ (l.headD 0).toNat ≠ 48) ∧ allD l = true ∧ decN l ≤ 2147483647)
def numV (l : List UInt8) : Nat := if numB l then decN l else 0
def numE (l : List UInt8) : Nat := if numB l then 0 else 32
theorem num_bad {l : List UInt8} (h : numB l = false) : numV l = 0 ∧ numE l = 32 := by unfold numV numE; rw [h]; exact ⟨rfl, rfl⟩
theorem num_good {l : List UInt8} (h : numB l = true) : numV l = decN l ∧ numE l = 0 := by unfold numV numE; rw [h]; exact ⟨rfl, rfl⟩
theorem num_long {l : List UInt8} (h : 10 < l.length) : numB l = false := by
  refine decide_eq_false ?_
  rintro ⟨h0, h1, h2, h3⟩
  cases l with
  | nil => exact h0 rfl
  | cons a t =>
    simp only [List.headD_cons, List.length_cons] at h1 h
    have ha : dg a.toNat = true := by unfold allD at h2; rw [List.all_cons, Bool.and_eq_true] at h2; exact h2.1
    have ha' := of_decide_eq_true ha
    have : decN (a :: t) = t.foldl decF (a.toNat - 48) := by simp [decN, decF]
    rw [this] at h3
    have h4 := foldl_ge t (a.toNat - 48)
    have h5 : 10 ^ 10 ≤ 10 ^ t.length := Nat.pow_le_pow_right (by omega) (by omega)
    have h6 : 1 * 10 ^ t.length ≤ (a.toNat - 48) * 10 ^ t.length := Nat.mul_le_mul_right _ (by omega)
    have h7 : (10 : Nat) ^ 10 = 10000000000 := by decide
    omega

theorem decN_lt (l : List UInt8) (h : allD l = true) : decN l < 10 ^ l.length := by
  have key : ∀ (t : List UInt8) (n : Nat), allD t = true → t.foldl decF n < (n + 1) * 10 ^ t.length := by
    intro t
    induction t with
    | nil => intro n _; simp
    | cons a t ih =>
      intro n ht
      unfold allD at ht
      rw [List.all_cons, Bool.and_eq_true] at ht
      have ha := of_decide_eq_true ht.1
      have h1 := ih (decF n a) ht.2
      show t.foldl decF (decF n a) < _
      have h2 : decF n a + 1 ≤ (n + 1) * 10 := by unfold decF; omega
      rw [List.length_cons, Nat.pow_succ, Nat.mul_comm (10 ^ t.length) 10, ← Nat.mul_assoc]
      exact Nat.lt_of_lt_of_le h1 (Nat.mul_le_mul_right _ h2)
  have := key l 0 h
  simpa [decN] using this
theorem decN_ten (l : List UInt8) (h : allD l = true) (h10 : l.length ≤ 10) : decN l ≤ 9999999999 := by
  have h1 := decN_lt l h
  have h2 : 10 ^ l.length ≤ 10 ^ 10 := Nat.pow_le_pow_right (by omega) h10
  have h3 : (10 : Nat) ^ 10 = 10000000000 := by decide
  omega

/-- Is it a name? -/
def nameB (l : List UInt8) : Bool := decide (l ≠ [] ∧ l.length ≤ 64 ∧ dg (l.headD 0).toNat = false ∧ (l.headD 0).toNat ≠ 45 ∧ (l.all fun c => ltr c.toNat) = true)
theorem lets_all (l : List UInt8) : lets l = l.length ↔ (l.all fun c => ltr c.toNat) = true := by
  induction l with
  | nil => simp [lets]
  | cons a t ih =>
    have eq2 : ((a :: t).all fun c => ltr c.toNat) = true ↔ ltr a.toNat = true ∧ (t.all fun c => ltr c.toNat) = true := by rw [List.all_cons, Bool.and_eq_true]
    rw [eq2, lets_cons]
    constructor
    · intro h
      split at h
      · rename_i hx
        simp only [Bool.and_eq_true] at hx
        exact ⟨hx.1, ih.1 (by simp only [List.length_cons] at h; omega)⟩
      · simp at h
    · rintro ⟨h1, h2⟩
      have ha : arr (a :: t) = false := by
        cases t with
        | nil => rfl
        | cons b t =>
          rw [List.all_cons, Bool.and_eq_true] at h2
          show (a.toNat == 45 && b.toNat == 62) = false
          have : (b.toNat == 62) = false := by
            rw [beq_eq_false_iff_ne]
            intro e
            have := h2.1
            rw [e] at this
            exact absurd this (by decide)
          rw [this]; simp
      rw [if_pos (by rw [h1, ha]; rfl), ih.2 h2]; rfl
end Wo
end Go.Proofs.YtalmcdhohoplpaaDoor
