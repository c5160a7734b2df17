/-
  Counts: the document's begins decides whether a rest of a text begins so.
-/
import Derived.Test.YteadddocmmkbgaaDoorKRefH
namespace Go.Proofs.YteadddocmmkbgaaDoor.Co
open Go.RowKit Go.Shelf

/-- A text's rest behind its last element (none: behind the brace). -/
inductive Rst (t : Nat) : Option Nat → List UInt8 → Prop
  | fin (l : Nat) : Rst t (some l) [125]
  | first (i : Nat) (y : List UInt8) (h : i ≤ t + 1) (r : Rst t (some i) y) : Rst t none (wordT t i ++ y)
  | next (l i : Nat) (y : List UInt8) (hl : l < i) (h : i ≤ t + 1) (r : Rst t (some i) y) : Rst t (some l) (44 :: (wordT t i ++ y))
theorem goB_elim {t i : Nat} {rec : Nat → List UInt8 → Bool} {s : List UInt8} (h : goB t rec s i = true) : (∃ y, wordT t i = s ++ y) ∨ (∃ z, s = wordT t i ++ z ∧ rec i z = true) := by
  unfold goB at h
  rw [Bool.or_eq_true, Bool.and_eq_true, Bool.and_eq_true, Bool.and_eq_true] at h
  rcases h with ⟨_, h2⟩ | ⟨_, h2, h3⟩
  · exact Or.inl ⟨(wordT t i).drop s.length, by
      have := of_decide_eq_true h2
      exact (List.take_append_drop s.length (wordT t i)).symm.trans (by rw [this])⟩
  · exact Or.inr ⟨s.drop (wordT t i).length, by
      have := of_decide_eq_true h2
      exact ⟨(List.take_append_drop (wordT t i).length s).symm.trans (by rw [this]), h3⟩⟩
theorem goB_intro {t i : Nat} {rec : Nat → List UInt8 → Bool} {s y z : List UInt8} (h : s ++ y = wordT t i ++ z) (hr : ∀ q, s = wordT t i ++ q → q ≠ [] → q ++ y = z → rec i q = true) : goB t rec s i = true := by
  unfold goB
  rcases List.append_eq_append_iff.1 h with ⟨a, h1, h2⟩ | ⟨a, h1, h2⟩
  · rw [h1]
    simp
  · by_cases ha : a = []
    · rw [ha, List.append_nil] at h1
      rw [h1]
      simp
    · have := hr a h1 ha h2.symm
      rw [h1]
      have hl : 0 < a.length := List.length_pos_iff.2 ha
      simp [this, hl]
theorem rst_ex (t : Nat) (last : Option Nat) : ∃ y, Rst t last y := by
  cases last with
  | none => exact ⟨_, .first 0 [125] (by omega) (.fin 0)⟩
  | some l => exact ⟨_, .fin l⟩
theorem begB_sound {t : Nat} : ∀ (k : Nat) (last : Option Nat) (s : List UInt8), (∀ l, last = some l → l ≤ t + 1) → begB t k last s = true → ∃ y, Rst t last (s ++ y) := by
  intro k
  induction k with
  | zero => intro last s _ h; cases h
  | succ k ih =>
    intro last s hl h
    unfold begB at h
    by_cases h0 : s = []
    · obtain ⟨y, hy⟩ := rst_ex t last
      exact ⟨y, by rw [h0]; exact hy⟩
    · rw [if_neg h0] at h
      have go : ∀ (q : List UInt8) (i : Nat), i ≤ t + 1 → goB t (fun i r => begB t k (some i) r) q i = true → ∃ y z, q ++ y = wordT t i ++ z ∧ Rst t (some i) z := by
        intro q i hi hg
        rcases goB_elim hg with ⟨y, hy⟩ | ⟨z, hz, hr⟩
        · exact ⟨y ++ [125], [125], by rw [hy, List.append_assoc], .fin i⟩
        · obtain ⟨y, hy⟩ := ih (some i) z (fun l e => by cases e; exact hi) hr
          exact ⟨y, z ++ y, by rw [hz, List.append_assoc], hy⟩
      cases last with
      | none =>
        obtain ⟨i, hi, hg⟩ := List.any_eq_true.1 h
        have hi' := List.mem_range.1 hi
        obtain ⟨y, z, e, hr⟩ := go s i (by omega) hg
        exact ⟨y, by rw [e]; exact .first i z (by omega) hr⟩
      | some l =>
        simp only at h
        by_cases h1 : s = [125]
        · exact ⟨[], by rw [h1]; exact .fin l⟩
        · rw [if_neg h1] at h
          by_cases h2 : s.head? = some 44
          · rw [if_pos h2] at h
            obtain ⟨a, r, rfl⟩ := List.exists_cons_of_ne_nil h0
            obtain rfl : a = 44 := Option.some.inj h2
            by_cases h3 : r = []
            · rw [if_pos (show ((44 : UInt8) :: r).tail = [] from h3)] at h
              have hlt := of_decide_eq_true h
              exact ⟨wordT t (t + 1) ++ [125], by rw [h3]; exact .next l (t + 1) [125] (by omega) (by omega) (.fin _)⟩
            · rw [if_neg (show ¬ ((44 : UInt8) :: r).tail = [] from h3)] at h
              obtain ⟨i, hi, hg⟩ := List.any_eq_true.1 h
              have hi' := List.mem_range.1 hi
              rw [Bool.and_eq_true] at hg
              obtain ⟨y, z, e, hr⟩ := go r i (by omega) hg.2
              exact ⟨y, by rw [List.cons_append, e]; exact .next l i z (of_decide_eq_true hg.1) (by omega) hr⟩
          · rw [if_neg h2] at h; cases h
theorem begB_whole {t : Nat} (ht : t ≤ 62) : ∀ (k : Nat) (last : Option Nat) (s y : List UInt8), s.length < k → Rst t last (s ++ y) → begB t k last s = true := by
  intro k
  induction k with
  | zero => intro last s y h; omega
  | succ k ih =>
    intro last s y hk h
    unfold begB
    by_cases h0 : s = []
    · rw [if_pos h0]
    · rw [if_neg h0]
      have go : ∀ (q : List UInt8) (i : Nat) (z : List UInt8), q ≠ [] → q.length < k + 1 → i ≤ t + 1 → q ++ y = wordT t i ++ z → Rst t (some i) z → goB t (fun i r => begB t k (some i) r) q i = true := by
        intro q i z hq hqk hi e hr
        refine goB_intro e (fun q' e1 _ e2 => ih (some i) q' y ?_ (by rw [e2]; exact hr))
        have hp := word_pos ht hi
        rw [e1, List.length_append] at hqk
        omega
      cases last with
      | none =>
        obtain ⟨x, hx⟩ : ∃ x, x = s ++ y := ⟨_, rfl⟩
        rw [← hx] at h
        cases h with
        | first i z hi hr => exact List.any_eq_true.2 ⟨i, List.mem_range.2 (by omega), go s i z h0 hk hi hx.symm hr⟩
      | some l =>
        simp only
        obtain ⟨a, r, rfl⟩ := List.exists_cons_of_ne_nil h0
        obtain ⟨x, hx⟩ : ∃ x, x = (a :: r) ++ y := ⟨_, rfl⟩
        rw [← hx] at h
        cases h with
        | fin =>
          rw [List.cons_append] at hx
          obtain ⟨rfl, hx2⟩ := List.cons.inj hx
          have : r = [] := (List.append_eq_nil_iff.1 hx2.symm).1
          rw [this, if_pos rfl]
        | next l i z hl hi hr =>
          rw [List.cons_append] at hx
          obtain ⟨rfl, hx2⟩ := List.cons.inj hx
          rw [if_neg (by simp), if_pos (show ((44 : UInt8) :: r).head? = some 44 from rfl)]
          by_cases h3 : r = []
          · rw [if_pos (show ((44 : UInt8) :: r).tail = [] from h3)]; exact decide_eq_true (by omega)
          · rw [if_neg (show ¬ ((44 : UInt8) :: r).tail = [] from h3)]
            exact List.any_eq_true.2 ⟨i, List.mem_range.2 (by omega), by
              have hg := go r i z h3 (by simp at hk; omega) hi hx2.symm hr
              exact Bool.and_eq_true_iff.2 ⟨decide_eq_true hl, hg⟩⟩
/-- The document's Begins: is there a text that begins so? -/
theorem BegB_iff {t : Nat} (ht : t ≤ 62) (s : List UInt8) : BegB t s = true ↔ ∃ x y, Rst t none x ∧ s ++ y = 123 :: x := by
  unfold BegB
  by_cases h0 : s = []
  · rw [if_pos h0, h0]
    obtain ⟨x, hx⟩ := rst_ex t none
    exact ⟨fun _ => ⟨x, _, hx, rfl⟩, fun _ => rfl⟩
  · rw [if_neg h0]
    obtain ⟨a, r, rfl⟩ := List.exists_cons_of_ne_nil h0
    by_cases ha : a = 123
    · subst ha
      rw [if_pos (show ((123 : UInt8) :: r).head? = some 123 from rfl)]
      constructor
      · intro h
        obtain ⟨y, hy⟩ := begB_sound _ none r (fun l e => by cases e) h
        exact ⟨_, y, hy, rfl⟩
      · rintro ⟨x, y, hx, e⟩
        rw [List.cons_append] at e
        obtain ⟨_, e2⟩ := List.cons.inj e
        exact begB_whole ht _ none r y (by simp) (by rw [e2]; exact hx)
    · rw [if_neg (by simpa using ha)]
      constructor
      · intro h; cases h
      · rintro ⟨x, y, _, e⟩
        rw [List.cons_append] at e
        exact absurd (List.cons.inj e).1 ha
end Go.Proofs.YteadddocmmkbgaaDoor.Co
