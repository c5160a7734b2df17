/-
  Counts: what the search for the longest element comes to.
-/
import Derived.Test.YteadddocmmkbgaaDoorKRefI
namespace Go.Proofs.YteadddocmmkbgaaDoor.Co
open Go.RowKit Go.Shelf

/-- What stands behind some elements have been looked at. -/
structure Fnd (t : Nat) (s : List UInt8) (L : List Nat) (q : Option Nat × Nat) : Prop where
  le : ∀ j ∈ L, al (wordT t j) s ≤ q.2
  some_at : q.2 = 0 ∨ ∃ j ∈ L, al (wordT t j) s = q.2
  hit : ∀ i, q.1 = some i → i ∈ L ∧ al (wordT t i) s = q.2 ∧ q.2 = (wordT t i).length
  miss : q.1 = none → ∀ j ∈ L, al (wordT t j) s = q.2 → q.2 ≠ (wordT t j).length
theorem Fnd.step {t x : Nat} {s : List UInt8} {L : List Nat} {q : Option Nat × Nat} (h : Fnd t s L q) : Fnd t s (L ++ [x]) (elStep t s q x) := by
  obtain ⟨o, far⟩ := q
  obtain ⟨h1, h2, h3, h4⟩ := h
  simp only at h1 h2 h3 h4
  obtain ⟨n, hn⟩ : ∃ n, n = al (wordT t x) s := ⟨_, rfl⟩
  unfold elStep
  simp only
  rw [← hn]
  by_cases hlt : far < n
  · rw [if_pos hlt]
    by_cases he : n = (wordT t x).length
    · rw [if_pos ⟨rfl, he⟩]
      refine ⟨fun j hj => ?_, Or.inr ⟨x, by simp, hn.symm⟩, fun i hi => ?_, fun hc => by cases hc⟩
      · rcases List.mem_append.1 hj with hj | hj
        · have := h1 j hj; show _ ≤ n; omega
        · rw [List.mem_singleton.1 hj, ← hn]; exact Nat.le_refl _
      · cases hi; exact ⟨by simp, hn.symm, he⟩
    · rw [if_neg (fun q => he q.2)]
      refine ⟨fun j hj => ?_, Or.inr ⟨x, by simp, hn.symm⟩, fun i hi => (by cases hi), fun _ j hj ha => ?_⟩
      · rcases List.mem_append.1 hj with hj | hj
        · have := h1 j hj; show _ ≤ n; omega
        · rw [List.mem_singleton.1 hj, ← hn]; exact Nat.le_refl _
      · rcases List.mem_append.1 hj with hj | hj
        · have := h1 j hj
          have ha' : al (wordT t j) s = n := ha
          omega
        · rw [List.mem_singleton.1 hj]; exact he
  · rw [if_neg hlt]
    by_cases he : n = far ∧ n = (wordT t x).length
    · rw [if_pos he]
      refine ⟨fun j hj => ?_, Or.inr ⟨x, by simp, by rw [← hn]; exact he.1⟩, fun i hi => ?_, fun hc => by cases hc⟩
      · rcases List.mem_append.1 hj with hj | hj
        · exact h1 j hj
        · rw [List.mem_singleton.1 hj, ← hn]; exact Nat.le_of_eq he.1
      · cases hi; exact ⟨by simp, by rw [← hn]; exact he.1, by show far = _; omega⟩
    · rw [if_neg he]
      refine ⟨fun j hj => ?_, ?_, fun i hi => ?_, fun hc j hj ha => ?_⟩
      · rcases List.mem_append.1 hj with hj | hj
        · exact h1 j hj
        · rw [List.mem_singleton.1 hj, ← hn]; show n ≤ far; omega
      · rcases h2 with h2 | ⟨j, hj, h2⟩
        · exact Or.inl h2
        · exact Or.inr ⟨j, by simp [hj], h2⟩
      · obtain ⟨a, b⟩ := h3 i hi
        exact ⟨by simp [a], b⟩
      · rcases List.mem_append.1 hj with hj | hj
        · exact h4 hc j hj ha
        · have hjx := List.mem_singleton.1 hj
          rw [hjx, ← hn] at ha
          have ha' : n = far := ha
          rw [hjx]
          intro hc2
          have hc3 : far = (wordT t x).length := hc2
          exact he ⟨ha', by omega⟩
theorem elem_fnd (t left : Nat) (s : List UInt8) : Fnd t s (els t left) (elem t left s) := by
  have key : ∀ (l L : List Nat) (q : Option Nat × Nat), Fnd t s L q → Fnd t s (L ++ l) (l.foldl (elStep t s) q) := by
    intro l
    induction l with
    | nil => intro L q h; rw [List.append_nil]; exact h
    | cons x l ih =>
      intro L q h
      have := ih (L ++ [x]) _ (h.step (x := x))
      rw [List.append_assoc] at this
      exact this
  have h0 : Fnd t s [] (none, 0) := ⟨fun j hj => (by cases hj), Or.inl rfl, fun i hi => (by cases hi), fun _ j hj => (by cases hj)⟩
  exact key (els t left) [] _ h0
/-- How far two texts agree. -/
theorem al_take : ∀ (a s : List UInt8), a.take (al a s) = s.take (al a s)
  | [], s => by simp [al]
  | a :: r, [] => by simp [al]
  | a :: r, b :: s => by
    unfold al
    split
    · rename_i h
      rw [h, List.take_succ_cons, List.take_succ_cons, al_take r s]
    · rfl
theorem al_le_left : ∀ (a s : List UInt8), al a s ≤ a.length
  | [], s => by simp [al]
  | a :: r, [] => by simp [al]
  | a :: r, b :: s => by
    unfold al
    split
    · have := al_le_left r s; simp; omega
    · omega
theorem al_le_right : ∀ (a s : List UInt8), al a s ≤ s.length
  | [], s => by simp [al]
  | a :: r, [] => by simp [al]
  | a :: r, b :: s => by
    unfold al
    split
    · have := al_le_right r s; simp; omega
    · omega
/-- No further: where both go on, they differ. -/
theorem al_most : ∀ (a s : List UInt8) (n : Nat), n ≤ a.length → n ≤ s.length → a.take n = s.take n → n ≤ al a s
  | _, _, 0, _, _, _ => by omega
  | [], s, n + 1, h, _, _ => by simp at h
  | a :: r, [], n + 1, _, h, _ => by simp at h
  | a :: r, b :: s, n + 1, h1, h2, e => by
    rw [List.take_succ_cons, List.take_succ_cons] at e
    obtain ⟨e1, e2⟩ := List.cons.inj e
    unfold al
    rw [if_pos e1]
    have := al_most r s n (by simp at h1; omega) (by simp at h2; omega) e2
    omega
end Go.Proofs.YteadddocmmkbgaaDoor.Co
