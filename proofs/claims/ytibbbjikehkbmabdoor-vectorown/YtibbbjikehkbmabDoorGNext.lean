/-
  What stands next in two rising rows; rows cut at a place.
-/
import Derived.Test.YtibbbjikehkbmabDoorGOwn
import Derived.Test.YtibbbjikehkbmabDoorGRange
namespace Go.Proofs.YtibbbjikehkbmabDoor.Ve
open Go.RowKit

/-- How many of either row stand ahead of all others. -/
def nxt : List St → List St → Nat × Nat
  | [], _ => (0, 1)
  | _ :: _, [] => (1, 0)
  | s :: _, t :: _ => (if s.1 ≤ t.1 then 1 else 0, if t.1 ≤ s.1 then 1 else 0)
/-- Two rows gone through at once. -/
def stepsN : Nat → List St → List St → List (Option St × Option St)
  | 0, _, _ => []
  | n + 1, a, b => if a = [] ∧ b = [] then [] else ((a.take (nxt a b).1).head?, (b.take (nxt a b).2).head?) :: stepsN n (a.drop (nxt a b).1) (b.drop (nxt a b).2)
theorem nxt_le {a b : List St} (h : ¬ (a = [] ∧ b = [])) : (nxt a b).1 ≤ a.length ∧ (nxt a b).2 ≤ b.length ∧ 1 ≤ (nxt a b).1 + (nxt a b).2 ∧ (nxt a b).1 ≤ 1 ∧ (nxt a b).2 ≤ 1 := by
  cases a with
  | nil =>
    cases b with
    | nil => exact absurd ⟨rfl, rfl⟩ h
    | cons t b => simp [nxt]
  | cons s a =>
    cases b with
    | nil => simp [nxt]
    | cons t b =>
      simp only [nxt, List.length_cons]
      by_cases h1 : s.1 ≤ t.1 <;> by_cases h2 : t.1 ≤ s.1 <;> simp [h1, h2] <;> omega
theorem head_list {l : List St} {f : Nat} (hf : f ≤ 1) : (l.take f).head?.toList = l.take f := by
  have : (l.take f).length ≤ 1 := by rw [List.length_take]; omega
  cases h : l.take f with
  | nil => rfl
  | cons x r =>
    rw [h] at this
    have : r = [] := by cases r with | nil => rfl | cons y r => simp at this
    subst this
    rfl
/-- How many rounds there are at most, and what goes on. -/
def stepsV (a b : List St) : List (Option St × Option St) := stepsN (a.length + b.length) a b
theorem stepsV_nil : stepsV [] [] = [] := rfl
theorem stepsV_next {a b : List St} (h : ¬ (a = [] ∧ b = [])) : stepsV a b = ((a.take (nxt a b).1).head?, (b.take (nxt a b).2).head?) :: stepsV (a.drop (nxt a b).1) (b.drop (nxt a b).2) := by
  have gen : ∀ (n m : Nat) (a b : List St), a.length + b.length ≤ n → a.length + b.length ≤ m → stepsN n a b = stepsN m a b := by
    intro n
    induction n with
    | zero =>
      intro m a b h1 h2
      have ha : a = [] := List.eq_nil_of_length_eq_zero (by omega)
      have hb : b = [] := List.eq_nil_of_length_eq_zero (by omega)
      subst ha hb
      cases m <;> simp [stepsN]
    | succ n ih =>
      intro m a b h1 h2
      by_cases hab : a = [] ∧ b = []
      · obtain ⟨rfl, rfl⟩ := hab
        cases m <;> simp [stepsN]
      · obtain ⟨q1, q2, q3, q4, q5⟩ := nxt_le hab
        cases m with
        | zero =>
          have ha : a = [] := List.eq_nil_of_length_eq_zero (by omega)
          have hb : b = [] := List.eq_nil_of_length_eq_zero (by omega)
          exact absurd ⟨ha, hb⟩ hab
        | succ m =>
          rw [stepsN, stepsN, if_neg hab, if_neg hab]
          rw [ih m _ _ (by simp; omega) (by simp; omega)]
  obtain ⟨q1, q2, q3, q4, q5⟩ := nxt_le h
  obtain ⟨n, hn⟩ : ∃ n, a.length + b.length = n + 1 := ⟨a.length + b.length - 1, by omega⟩
  unfold stepsV
  rw [hn, stepsN, if_neg h]
  rw [gen n _ _ _ (by simp; omega) (Nat.le_refl _)]
theorem stepsV_len {a b : List St} : (stepsV a b).length ≤ a.length + b.length := by
  have gen : ∀ (n : Nat) (a b : List St), (stepsN n a b).length ≤ n := by
    intro n
    induction n with
    | zero => intro a b; exact Nat.le_refl _
    | succ n ih =>
      intro a b
      rw [stepsN]
      split
      · simp
      · simp only [List.length_cons]
        have := ih (a.drop (nxt a b).1) (b.drop (nxt a b).2)
        omega
  exact gen _ _ _

theorem sizeStamp (w : World) : (sizeOf (Tryd.prog.elem 22)).run Tryd.prog w = .ok 2 w := by
  have e : Tryd.prog.elem 22 = 33 := by kernel_rfl
  rw [e]
  simp [go_sem]
theorem undS : Tryd.prog.underlying 22 = some (.slice (Tryd.prog.elem 22)) := by kernel_rfl
theorem cut_take {w : World} {ao : Option Addr} {n c f : Nat} {l : List St} (h : VecV w (.slice ao n c) l) (hf : f ≤ l.length) : ∃ a c', (∀ W, (Instr.slice 22 (.slice ao n c) none (some (.int .i64 (f : Int))) none).run Tryd.prog W = .ok (.slice a f c') W) ∧ VecV w (.slice a f c') (l.take f) := by
  obtain ⟨ao', c1, e, hc, hn, hr⟩ := h
  injection e with e1 e2 e3
  subst e1 e2 e3
  refine ⟨ao, c, fun W => ?_, ao, c, by rw [List.length_take, Nat.min_eq_left hf], by rw [List.length_take]; omega, hn, hr.take f⟩
  rw [run_slice_h W 22 ao l.length c undS .i64 (f : Int) (by omega) (by omega), sizeStamp]
  simp [Result.andThen, sliced]
  intro _
  cases ao <;> simp [Addr.add]
theorem cut_drop {w : World} {ao : Option Addr} {n c f : Nat} {l : List St} (h : VecV w (.slice ao n c) l) (hf : f ≤ l.length) : ∃ a c', (∀ W, (Instr.slice 22 (.slice ao n c) (some (.int .i64 (f : Int))) none none).run Tryd.prog W = .ok (.slice a (l.length - f) c') W) ∧ VecV w (.slice a (l.length - f) c') (l.drop f) := by
  obtain ⟨ao', c1, e, hc, hn, hr⟩ := h
  injection e with e1 e2 e3
  subst e1 e2 e3
  refine ⟨if c = f then ao else ao.map (·.add (f * 2)), c - f, fun W => ?_, if c = f then ao else ao.map (·.add (f * 2)), c - f, by rw [List.length_drop], by rw [List.length_drop]; omega, fun q => ?_, ?_⟩
  · rw [run_slice_l W 22 ao l.length c undS .i64 (f : Int) (by omega) (by omega), sizeStamp]
    simp [Result.andThen, sliced]
  · split at q
    · rename_i hcf; omega
    · cases ao with
      | none => rw [hn rfl]; omega
      | some p => cases q
  · split
    · rename_i hcf
      left
      exact List.drop_eq_nil_of_le (by omega)
    · cases ao with
      | none =>
        rcases hr with rfl | ⟨g, o, e, _⟩
        · left; simp
        · cases e
      | some p =>
        rcases hr with rfl | ⟨g, o, e, hg, hcell⟩
        · left; simp
        · injection e with e
          subst e
          have := RowIn.drop (Or.inr ⟨g, o, rfl, hg, hcell⟩) f
          rw [Option.map_some, addr_addS]
          exact this
end Go.Proofs.YtibbbjikehkbmabDoor.Ve
