/-
  Counts: the elements' fault is the first place at which no text goes on.
-/
import Derived.Test.YteadddocmmkbgaaDoorKRefL
namespace Go.Proofs.YteadddocmmkbgaaDoor.Co
open Go.RowKit Go.Shelf

theorem take_word (W x : List UInt8) (z : UInt8) (m : Nat) : (W ++ z :: x).take (W.length + 1 + m) = W ++ z :: x.take m := by
  rw [show W.length + 1 + m = W.length + (m + 1) by omega, List.take_length_add_append, List.take_succ_cons]
/-- Behind a word and a sign that is no word's: the rest. -/
theorem RE.cut {t left i : Nat} {last : Option Nat} {x : List UInt8} {z : UInt8} (ht : t ≤ 62) (hf : ∀ i, i ∈ els t left ↔ Aft t last i) (hi : i ∈ els t left) (hz : z = 44 ∨ z = 125) (h : RE t last (wordT t i ++ z :: x)) : Rst t (some i) (z :: x) := by
  obtain ⟨e, y, _, hr, hx, he⟩ := h.elem ht hf
  rw [elem_word ht hi hz] at he
  obtain rfl : i = e := by
    have := (Prod.mk.inj he).1
    exact Option.some.inj this
  rw [List.append_cancel_left hx]
  exact hr
theorem stop_comma {t left i n : Nat} {last : Option Nat} {x : List UInt8} (ht : t ≤ 62) (hf : ∀ i, i ∈ els t left ↔ Aft t last i) (hi : i ∈ els t left) (h : Stop t (some i) x n) : Stop t last (wordT t i ++ 44 :: x) ((wordT t i).length + 1 + n) := by
  obtain ⟨h1, ⟨y, h2⟩, h3, h4⟩ := h
  refine ⟨by rw [List.length_append, List.length_cons]; omega, ⟨y, i, 44 :: (x.take n ++ y), (hf i).1 hi, h2.comma, by rw [take_word]; simp⟩, ?_, ?_⟩
  · intro hlt y2 hr
    rw [List.length_append, List.length_cons] at hlt
    rw [Nat.add_assoc _ n 1, take_word, List.append_assoc, List.cons_append] at hr
    exact h3 (by omega) y2 (RE.cut ht hf hi (Or.inl rfl) hr).comma
  · intro hr
    exact h4 (RE.cut ht hf hi (Or.inl rfl) hr).comma
theorem stop_brace {t left i : Nat} {last : Option Nat} {b : UInt8} {x : List UInt8} (ht : t ≤ 62) (hf : ∀ i, i ∈ els t left ↔ Aft t last i) (hi : i ∈ els t left) : Stop t last (wordT t i ++ 125 :: b :: x) ((wordT t i).length + 1) := by
  have hno : ∀ y, ¬ Rst t (some i) (125 :: b :: y) := by
    intro y hr
    have := hr.ends ht [] (b :: y) rfl
    cases this
  refine ⟨by simp, ⟨[], i, [125], (hf i).1 hi, .fin i, ?_⟩, ?_, ?_⟩
  · have := take_word (wordT t i) (b :: x) 125 0
    rw [Nat.add_zero] at this
    rw [this]; simp
  · intro _ y hr
    rw [take_word, List.append_assoc, List.cons_append] at hr
    exact hno _ (RE.cut ht hf hi (Or.inr rfl) hr)
  · intro hr
    exact hno _ (RE.cut ht hf hi (Or.inr rfl) hr)
theorem stop_else {t left i : Nat} {last : Option Nat} {r : List UInt8} (ht : t ≤ 62) (hf : ∀ i, i ∈ els t left ↔ Aft t last i) (hi : i ∈ els t left) (he : Co.elem t left (wordT t i ++ r) = (some i, (wordT t i).length)) (h1 : ¬ r.head? = some 125) (h2 : r.head? = some 44 → ∀ e, ¬ Aft t (some i) e) : Stop t last (wordT t i ++ r) (wordT t i).length := by
  have F := elem_fnd t left (wordT t i ++ r)
  rw [he] at F
  have hno : ∀ y, Rst t (some i) y → y.head? = r.head? → False := by
    intro y hr hh
    cases hr with
    | fin => exact h1 hh.symm
    | next _ e y hl hei _ => exact h2 hh.symm e ⟨hei, fun l q => by cases q; exact hl⟩
  refine ⟨by simp, ⟨[125], i, [125], (hf i).1 hi, .fin i, by rw [List.take_left]⟩, ?_, ?_⟩
  · rintro hlt y ⟨e, y', ha, hr, hx⟩
    cases r with
    | nil => simp at hlt
    | cons b r =>
      have tk := take_word (wordT t i) r b 0
      rw [Nat.add_zero, List.take_zero] at tk
      obtain ⟨z, q, rfl, hz⟩ := hr.head
      have hx' := hx
      rw [tk, List.append_assoc] at hx'
      rcases word_cmp ht ((hf i).1 hi).1 hz hx' with ⟨e1, e2, _⟩ | hp
      · obtain rfl : i = e := word_inj ht ((hf i).1 hi).1 ha.1 e1
        exact hno _ hr (by rw [e2]; rfl)
      · obtain ⟨w, hw⟩ := hp
        have hl : (wordT t i).length + 1 ≤ (wordT t e).length := by rw [← hw]; simp
        have := al_most (wordT t e) (wordT t i ++ b :: r) ((wordT t i).length + 1) hl (by simp) (by
          rw [tk, ← hw]
          rw [List.take_append_of_le_length (by simp)]
          rw [List.take_of_length_le (by simp)])
        have hle : al (wordT t e) (wordT t i ++ b :: r) ≤ (wordT t i).length := F.le e ((hf e).2 ha)
        omega
  · intro hr
    obtain ⟨e, y, _, hry, hx, he2⟩ := hr.elem ht hf
    rw [he] at he2
    obtain rfl : i = e := Option.some.inj (Prod.mk.inj he2).1
    exact hno y hry (by rw [List.append_cancel_left hx])
/-- What the elements and the brace come to. -/
def Out (t : Nat) (last : Option Nat) (s : List UInt8) (p : Nat) (R : Except Nat Nat) : Prop := (∃ c, R = .ok c ∧ RE t last s) ∨ (∃ n, R = .error (p + n) ∧ Stop t last s n)
theorem elemsR_out {t : Nat} (ht : t ≤ 62) : ∀ (k left c p : Nat) (s : List UInt8) (last : Option Nat), left < 2 ^ (t + 2) → (∀ i, i ∈ els t left ↔ Aft t last i) → (∃ i, Aft t last i) → (∀ i, Aft t last i → t + 2 - i ≤ k) → Out t last s p (endR (elemsR t k left c p s)) := by
  intro k
  induction k with
  | zero =>
    intro left c p s last _ _ ⟨i, hi⟩ hk
    have h1 := hk i hi
    have h2 := hi.1
    omega
  | succ k ih =>
    intro left c p s last hlt hf hne hk
    have h64 : left < 2 ^ 64 := Nat.lt_of_lt_of_le hlt (Nat.pow_le_pow_right (by omega) (by omega))
    cases he : Co.elem t left s with
    | mk o far =>
      cases o with
      | none =>
        rw [elemsR_succ, he]
        exact Or.inr ⟨far, rfl, stop_none ht hf hne he⟩
      | some i =>
        have F := elem_fnd t left s
        rw [he] at F
        obtain ⟨hi, hal, hfar⟩ := F.hit i rfl
        simp only at hal hfar
        obtain ⟨r, rfl⟩ := al_pre (hal.trans hfar)
        rw [hfar] at he
        have hai := (hf i).1 hi
        have hit := hai.1
        have hf2 : ∀ e, e ∈ els t (leftN left i) ↔ Aft t (some i) e := by
          intro e
          rw [mem_els, leftN_bit h64 (by omega), Bool.and_eq_true, decide_eq_true_eq]
          constructor
          · rintro ⟨a, _, b⟩
            exact ⟨by omega, fun l q => by cases q; exact b⟩
          · rintro ⟨a, b⟩
            have hie := b i rfl
            have : e ∈ els t left := (hf e).2 ⟨a, fun l q => by have := hai.2 l q; omega⟩
            exact ⟨by omega, (mem_els.1 this).2, hie⟩
        have hll : leftN left i < 2 ^ (t + 2) := Nat.lt_of_le_of_lt Nat.and_le_left hlt
        have hnz : leftN left i ≠ 0 ↔ ∃ e, Aft t (some i) e := by
          constructor
          · intro h
            obtain ⟨e, hb⟩ := bit_of_ne h
            exact ⟨e, (hf2 e).1 (mem_els.2 ⟨bit_lt hll hb, hb⟩)⟩
          · rintro ⟨e, h⟩
            exact ne_zero_bit (mem_els.1 ((hf2 e).2 h)).2
        rw [elemsR_succ, he]
        simp only [List.drop_left]
        by_cases hc : leftN left i ≠ 0 ∧ r.head? = some 44
        · rw [if_pos hc]
          obtain ⟨x, rfl⟩ : ∃ x, r = 44 :: x := by
            cases r with
            | nil => cases hc.2
            | cons a x => exact ⟨x, by rw [Option.some.inj hc.2]⟩
          rcases ih (leftN left i) (c ||| 2 ^ i) (p + (wordT t i).length + 1) x (some i) hll hf2 (hnz.1 hc.1) (fun e h => by have h1 := hk i hai; have h2 := h.2 i rfl; omega) with ⟨c', h1, h2⟩ | ⟨n, h1, h2⟩
          · exact Or.inl ⟨c', h1, i, 44 :: x, hai, h2.comma, rfl⟩
          · exact Or.inr ⟨(wordT t i).length + 1 + n, by rw [show p + ((wordT t i).length + 1 + n) = p + (wordT t i).length + 1 + n by omega]; exact h1, stop_comma ht hf hi h2⟩
        · rw [if_neg hc]
          by_cases h3 : r.head? = some 125
          · obtain ⟨x, rfl⟩ : ∃ x, r = 125 :: x := by
              cases r with
              | nil => cases h3
              | cons a x => exact ⟨x, by rw [Option.some.inj h3]⟩
            cases x with
            | nil => exact Or.inl ⟨_, rfl, i, [125], hai, .fin i, rfl⟩
            | cons b x => exact Or.inr ⟨(wordT t i).length + 1, rfl, stop_brace ht hf hi⟩
          · refine Or.inr ⟨(wordT t i).length, ?_, stop_else ht hf hi he h3 (fun h4 e ha => hc ⟨hnz.2 ⟨e, ha⟩, h4⟩)⟩
            unfold endR
            simp only
            rw [if_neg h3]
end Go.Proofs.YteadddocmmkbgaaDoor.Co
