/-
  Counts: a set's fault is the first place at which no text goes on.
-/
import Derived.Test.YteadddocmmkbgaaDoorKRefM
import Derived.Test.YteadddocmmkbgaaDoorKRdD
namespace Go.Proofs.YteadddocmmkbgaaDoor.Co
open Go.RowKit Go.Shelf

theorem re_none {t : Nat} {x : List UInt8} : RE t none x ↔ Rst t none x := by
  constructor
  · rintro ⟨i, y, ha, hr, rfl⟩; exact .first i y ha.1 hr
  · intro h
    cases h with
    | first i y hi hr => exact ⟨i, y, ⟨hi, fun l q => by cases q⟩, hr, rfl⟩
theorem BegB_take {t : Nat} (ht : t ≤ 62) {s : List UInt8} {n m : Nat} (hm : m ≤ n) (h : BegB t (s.take n) = true) : BegB t (s.take m) = true := by
  obtain ⟨x, y, hr, e⟩ := (BegB_iff ht _).1 h
  refine (BegB_iff ht _).2 ⟨x, (s.take n).drop m ++ y, hr, ?_⟩
  rw [← List.append_assoc, ← e]
  congr 1
  have := List.take_append_drop m (s.take n)
  rw [List.take_take, Nat.min_eq_left hm] at this
  exact this
theorem full_aft (t : Nat) : ∀ i, i ∈ els t (2 ^ (t + 2) - 1) ↔ Aft t none i := by
  intro i
  rw [mem_els, Nat.testBit_two_pow_sub_one, decide_eq_true_eq]
  exact ⟨fun h => ⟨by omega, fun l q => by cases q⟩, fun h => ⟨by have := h.1; omega, by have := h.1; omega⟩⟩
/-- Is it a text? -/
def IsT (t : Nat) (s : List UInt8) : Prop := ∃ x, s = 123 :: x ∧ Rst t none x
theorem setR_out {t : Nat} (ht : t ≤ 62) (s : List UInt8) : (∃ c, setR t s = .ok c ∧ IsT t s) ∨
    (∃ p, setR t s = .error p ∧ p ≤ s.length ∧ BegB t (s.take p) = true ∧ (p < s.length → BegB t (s.take (p + 1)) = false) ∧ ¬ IsT t s) := by
  by_cases h0 : s.head? = some 123
  · obtain ⟨x, rfl⟩ : ∃ x, s = 123 :: x := by
      cases s with
      | nil => cases h0
      | cons a x => exact ⟨x, by rw [Option.some.inj h0]⟩
    have hp : 0 < 2 ^ (t + 2) := Nat.pow_pos (by omega)
    have hs : setR t (123 :: x) = endR (elemsR t 64 (2 ^ (t + 2) - 1) 0 1 x) := by unfold setR; rw [if_pos h0]; rfl
    rcases elemsR_out ht 64 (2 ^ (t + 2) - 1) 0 1 x none (by omega) (full_aft t) ⟨0, by omega, fun l q => by cases q⟩ (fun i h => by have := h.1; omega) with ⟨c, h1, h2⟩ | ⟨n, h1, h2⟩
    · exact Or.inl ⟨c, hs.trans h1, x, rfl, re_none.1 h2⟩
    · obtain ⟨q1, ⟨y, q2⟩, q3, q4⟩ := h2
      refine Or.inr ⟨1 + n, hs.trans h1, by simp; omega, ?_, ?_, ?_⟩
      · exact (BegB_iff ht _).2 ⟨_, y, re_none.1 q2, by rw [Nat.add_comm 1 n, List.take_succ_cons]; rfl⟩
      · intro hlt
        rw [Bool.eq_false_iff]
        intro hb
        obtain ⟨x2, y2, hr, e⟩ := (BegB_iff ht _).1 hb
        rw [Nat.add_comm 1 n, List.take_succ_cons, List.cons_append] at e
        refine q3 (by simp at hlt; omega) y2 (re_none.2 ?_)
        rw [(List.cons.inj e).2]
        exact hr
      · rintro ⟨x2, e, hr⟩
        rw [← (List.cons.inj e).2] at hr
        exact q4 (re_none.2 hr)
  · refine Or.inr ⟨0, by unfold setR; rw [if_neg h0], by omega, rfl, ?_, ?_⟩
    · intro hlt
      rw [Bool.eq_false_iff]
      intro hb
      obtain ⟨x2, y2, hr, e⟩ := (BegB_iff ht _).1 hb
      cases s with
      | nil => simp at hlt
      | cons a s =>
        rw [List.take_succ_cons, List.cons_append] at e
        exact h0 (by rw [(List.cons.inj e).1]; rfl)
    · rintro ⟨x, rfl, _⟩
      exact h0 rfl
theorem Rst.last {t : Nat} {last : Option Nat} {x : List UInt8} (h : Rst t last x) : x.getLast? = some 125 := by
  induction h with
  | fin l => rfl
  | first i y _ _ ih => rw [List.getLast?_append, ih]; rfl
  | next l i y _ _ _ ih => rw [← List.cons_append, List.getLast?_append, ih]; rfl
/-- What begins a text and ends with the brace is one. -/
theorem isT_of {t : Nat} (ht : t ≤ 62) {s : List UInt8} (h : BegB t s = true) (hl : s.getLast? = some 125) : IsT t s := by
  obtain ⟨x, y, hr, e⟩ := (BegB_iff ht _).1 h
  cases s with
  | nil => cases hl
  | cons a r =>
    rw [List.cons_append] at e
    obtain ⟨rfl, e2⟩ := List.cons.inj e
    cases r with
    | nil => exact absurd (Option.some.inj hl) (by decide)
    | cons b r =>
      have hl2 : (b :: r).getLast? = some 125 := by rw [List.getLast?_cons_cons] at hl; exact hl
      have hr2 : Rst t none ((b :: r) ++ y) := by rw [e2]; exact hr
      have hy := hr2.whole ht hl2
      rw [hy, List.append_nil] at hr2
      exact ⟨b :: r, rfl, hr2⟩
/-- The document's Read answers what readP says, where the sets of texts agree. -/
theorem rdP_is {t : Nat} (ht : t ≤ 62) {s : List UInt8} {e : Ending} (h : rdP t s e) (hc : ∀ c, setR t s = .ok c → (rdC t s (s.length - 1)).1 = c) :
    e = .returned (.tuple #[.int .u64 ((readP (t : Int) s).1 : Nat), .int .i64 (readP (t : Int) s).2.1, .int .i64 (readP (t : Int) s).2.2]) := by
  obtain ⟨n, hn, hall, hnot, hend⟩ := h
  rcases setR_out ht s with ⟨c, h1, x, rfl, hr⟩ | ⟨p, h1, h2, h3, h4, h5⟩
  · have hw : BegB t (123 :: x) = true := (BegB_iff ht _).2 ⟨x, [], hr, by simp⟩
    have hall2 : ∀ m, BegB t ((123 :: x).take m) = true := by
      intro m
      by_cases hm : m ≤ (123 :: x).length
      · exact BegB_take ht hm (by rw [List.take_length]; exact hw)
      · rw [List.take_of_length_le (by omega)]; exact hw
    have hnl : n = (123 :: x).length := by
      by_cases hlt : n < (123 :: x).length
      · have := hnot hlt
        rw [hall2] at this
        cases this
      · omega
    have hla : ((123 : UInt8) :: x).getLast? = some 125 := by
      have h7 := hr.last
      cases x with
      | nil => cases h7
      | cons b x => rw [List.getLast?_cons_cons]; exact h7
    rcases hend with ⟨_, _, he⟩ | ⟨hno, _⟩
    · rw [he, readP_ok ht h1, hc c h1]
    · exact absurd ⟨hnl, hla⟩ hno
  · have hnp : n = p := by
      rcases Nat.lt_trichotomy n p with hlt | heq | hgt
      · have a := hnot (by omega)
        rw [BegB_take ht (show n + 1 ≤ p by omega) h3] at a
        cases a
      · exact heq
      · have a := h4 (by omega)
        rw [hall (p + 1) (by omega)] at a
        cases a
    rcases hend with ⟨q1, q2, _⟩ | ⟨_, he⟩
    · have hb := hall n (Nat.le_refl _)
      rw [q1, List.take_length] at hb
      exact absurd (isT_of ht hb q2) h5
    · rw [he, readP_err ht h1, hnp]; rfl
end Go.Proofs.YteadddocmmkbgaaDoor.Co
