/-
  Counts: a text's rest has its brace at its end and nowhere else.
-/
import Derived.Test.YteadddocmmkbgaaDoorKRefJ
namespace Go.Proofs.YteadddocmmkbgaaDoor.Co
open Go.RowKit Go.Shelf

/-- A sign that is none of a word's lies behind the word. -/
theorem behind_word {W y a b : List UInt8} {z : UInt8} (hW : ∀ x ∈ W, x ≠ z) (h : W ++ y = a ++ z :: b) : ∃ a', y = a' ++ z :: b := by
  rcases List.append_eq_append_iff.1 h with ⟨c, _, h2⟩ | ⟨c, h1, h2⟩
  · exact ⟨c, h2⟩
  · cases c with
    | nil => exact ⟨[], by rw [List.nil_append] at h2 ⊢; exact h2.symm⟩
    | cons x c =>
      rw [List.cons_append] at h2
      obtain ⟨e, _⟩ := List.cons.inj h2
      exact absurd e.symm (hW x (by rw [h1]; simp))
theorem Rst.ends {t : Nat} (ht : t ≤ 62) {last : Option Nat} {x : List UInt8} (h : Rst t last x) : ∀ a b, x = a ++ 125 :: b → b = [] := by
  induction h with
  | fin l =>
    intro a b e
    have := congrArg List.length e
    rw [List.length_append, List.length_cons] at this
    exact List.length_eq_zero_iff.1 (by simp at this; omega)
  | first i y hi _ ih =>
    intro a b e
    obtain ⟨a', h'⟩ := behind_word (fun x hx => (word_signs ht hi x hx).2) e
    exact ih a' b h'
  | next l i y _ hi _ ih =>
    intro a b e
    cases a with
    | nil => exact absurd (List.cons.inj e).1 (by decide)
    | cons z a =>
      obtain ⟨a', h'⟩ := behind_word (fun x hx => (word_signs ht hi x hx).2) (List.cons.inj e).2
      exact ih a' b h'
/-- What begins a text's rest and ends with the brace is the whole. -/
theorem Rst.whole {t : Nat} (ht : t ≤ 62) {last : Option Nat} {s y : List UInt8} (h : Rst t last (s ++ y)) (hs : s.getLast? = some 125) : y = [] := by
  obtain ⟨a, rfl⟩ := List.getLast?_eq_some_iff.1 hs
  exact h.ends ht a y (by simp)
end Go.Proofs.YteadddocmmkbgaaDoor.Co
