/-
  Counts: the first place at which no text goes on.
-/
import Derived.Test.YteadddocmmkbgaaDoorKRefK
namespace Go.Proofs.YteadddocmmkbgaaDoor.Co
open Go.RowKit Go.Shelf

/-- May an element follow the last? -/
def Aft (t : Nat) (last : Option Nat) (i : Nat) : Prop := i ≤ t + 1 ∧ ∀ l, last = some l → l < i
/-- An element's word and a rest behind it. -/
def RE (t : Nat) (last : Option Nat) (x : List UInt8) : Prop := ∃ i y, Aft t last i ∧ Rst t (some i) y ∧ x = wordT t i ++ y
theorem Rst.head {t i : Nat} {y : List UInt8} (h : Rst t (some i) y) : ∃ z r, y = z :: r ∧ (z = 44 ∨ z = 125) := by
  cases h with
  | fin => exact ⟨_, _, rfl, Or.inr rfl⟩
  | next => exact ⟨_, _, rfl, Or.inl rfl⟩
theorem Rst.comma {t i : Nat} {x : List UInt8} (h : Rst t (some i) (44 :: x)) : RE t (some i) x := by
  cases h with
  | next _ e y hl he hr => exact ⟨e, y, ⟨he, fun l q => by cases q; exact hl⟩, hr, rfl⟩
theorem RE.comma {t i : Nat} {x : List UInt8} (h : RE t (some i) x) : Rst t (some i) (44 :: x) := by
  obtain ⟨e, y, ha, hr, rfl⟩ := h
  exact .next i e y (ha.2 i rfl) ha.1 hr
/-- What is found where a text's rest stands. -/
theorem RE.elem {t left : Nat} {last : Option Nat} {x : List UInt8} (ht : t ≤ 62) (hf : ∀ i, i ∈ els t left ↔ Aft t last i) (h : RE t last x) : ∃ i y, Aft t last i ∧ Rst t (some i) y ∧ x = wordT t i ++ y ∧ Co.elem t left x = (some i, (wordT t i).length) := by
  obtain ⟨i, y, ha, hr, rfl⟩ := h
  refine ⟨i, y, ha, hr, rfl, ?_⟩
  obtain ⟨z, r, rfl, hz⟩ := hr.head
  exact elem_word ht ((hf i).2 ha) hz
/-- The fault's place: so far it may go on, one further not; and it is no whole. -/
def Stop (t : Nat) (last : Option Nat) (s : List UInt8) (n : Nat) : Prop :=
  n ≤ s.length ∧ (∃ y, RE t last (s.take n ++ y)) ∧ (n < s.length → ∀ y, ¬ RE t last (s.take (n + 1) ++ y)) ∧ ¬ RE t last s
/-- Two words with signs that are no word's behind them. -/
theorem word_cmp {t i e : Nat} (ht : t ≤ 62) (hi : i ≤ t + 1) {b z : UInt8} {y r : List UInt8} (hz : z = 44 ∨ z = 125) (h : wordT t i ++ b :: y = wordT t e ++ z :: r) : (wordT t i = wordT t e ∧ b = z ∧ y = r) ∨ (wordT t i ++ [b]) <+: wordT t e := by
  rcases List.append_eq_append_iff.1 h with ⟨c, h1, h2⟩ | ⟨c, h1, h2⟩
  · cases c with
    | nil =>
      rw [List.append_nil] at h1
      rw [List.nil_append] at h2
      obtain ⟨e1, e2⟩ := List.cons.inj h2
      exact Or.inl ⟨h1.symm, e1, e2⟩
    | cons x c =>
      rw [List.cons_append] at h2
      obtain ⟨e1, _⟩ := List.cons.inj h2
      refine Or.inr ⟨c, ?_⟩
      rw [h1, e1]; simp
  · cases c with
    | nil =>
      rw [List.append_nil] at h1
      rw [List.nil_append] at h2
      obtain ⟨e1, e2⟩ := List.cons.inj h2
      exact Or.inl ⟨h1, e1.symm, e2.symm⟩
    | cons x c =>
      rw [List.cons_append] at h2
      obtain ⟨e1, _⟩ := List.cons.inj h2
      have := word_signs ht hi x (by rw [h1]; simp)
      rcases hz with hz | hz
      · exact absurd (e1.symm.trans hz) this.1
      · exact absurd (e1.symm.trans hz) this.2
/-- No element is found: the longest beginning is where it stops. -/
theorem stop_none {t left far : Nat} {last : Option Nat} {s : List UInt8} (ht : t ≤ 62) (hf : ∀ i, i ∈ els t left ↔ Aft t last i) (hne : ∃ i, Aft t last i) (h : Co.elem t left s = (none, far)) : Stop t last s far := by
  have F := elem_fnd t left s
  rw [h] at F
  have hlong : far ≤ s.length := by
    rcases F.some_at with h0 | ⟨j, _, h0⟩
    · have h0' : far = 0 := h0
      omega
    · have h0' : al (wordT t j) s = far := h0
      have := al_le_right (wordT t j) s
      omega
  refine ⟨hlong, ?_, ?_, ?_⟩
  · rcases F.some_at with h0 | ⟨j, hj, h0⟩
    · have h0' : far = 0 := h0
      obtain ⟨i, hi⟩ := hne
      exact ⟨_, i, [125], hi, .fin i, by rw [h0', List.take_zero, List.nil_append]⟩
    · have h0' : al (wordT t j) s = far := h0
      refine ⟨(wordT t j).drop far ++ [125], j, [125], (hf j).1 hj, .fin j, ?_⟩
      have e := al_take (wordT t j) s
      rw [h0'] at e
      rw [← e, ← List.append_assoc, List.take_append_drop]
  · rintro hlt y ⟨i, y', ha, hr, e⟩
    have hi := (hf i).2 ha
    have hle : al (wordT t i) s ≤ far := F.le i hi
    by_cases hw : far + 1 ≤ (wordT t i).length
    · have e2 : (wordT t i).take (far + 1) = s.take (far + 1) := by
        have := congrArg (List.take (far + 1)) e
        rw [List.take_append_of_le_length (by rw [List.length_take]; omega), List.take_append_of_le_length hw, List.take_take, Nat.min_self] at this
        exact this.symm
      have := al_most _ _ _ hw (by omega) e2
      omega
    · have hwl : (wordT t i).length ≤ far := by omega
      have e2 : s.take (wordT t i).length = wordT t i := by
        have := congrArg (List.take (wordT t i).length) e
        rw [List.take_append_of_le_length (by rw [List.length_take]; omega), List.take_left, List.take_take, Nat.min_eq_left (by omega)] at this
        exact this
      have hal : (wordT t i).length ≤ al (wordT t i) s := al_most _ _ _ (Nat.le_refl _) (by omega) (by rw [List.take_length, e2])
      have hal2 := al_le_left (wordT t i) s
      by_cases hwe : (wordT t i).length = far
      · exact F.miss rfl i hi (show al (wordT t i) s = far by omega) hwe.symm
      · have hp := word_pos ht ha.1
        rcases F.some_at with h0 | ⟨j, hj, h0⟩
        · have h0' : far = 0 := h0
          omega
        · have h0' : al (wordT t j) s = far := h0
          have hlj := al_le_left (wordT t j) s
          have e3 := al_take (wordT t j) s
          rw [h0'] at e3
          obtain ⟨z, r, rfl, hz⟩ := hr.head
          -- the sign behind word i is one of word j
          have g1 : (s.take (far + 1) ++ y)[(wordT t i).length]? = some z := by rw [e]; simp
          have g2 : s[(wordT t i).length]? = some z := by
            rw [List.getElem?_append_left (by rw [List.length_take]; omega), List.getElem?_take_of_lt (by omega)] at g1
            exact g1
          have g3 : (wordT t j)[(wordT t i).length]? = some z := by
            have g4 : ((wordT t j).take far)[(wordT t i).length]? = (s.take far)[(wordT t i).length]? := by rw [e3]
            rw [List.getElem?_take_of_lt (by omega), List.getElem?_take_of_lt (by omega), g2] at g4
            exact g4
          have hs := word_signs ht ((hf j).1 hj).1 z (List.mem_of_getElem? g3)
          rcases hz with hz | hz
          · exact hs.1 hz
          · exact hs.2 hz
  · intro hr
    obtain ⟨i, y, _, _, _, he⟩ := hr.elem ht hf
    rw [h] at he
    cases he
end Go.Proofs.YteadddocmmkbgaaDoor.Co
