/-
  Counts: the document's Read where t may not be.
-/
import Derived.Test.YteadddocmmkbgaaDoorKRefG
namespace Go.Proofs.YteadddocmmkbgaaDoor.Co
open Go.RowKit Go.Shelf

set_option maxRecDepth 100000 in
set_option maxHeartbeats 1000000 in
theorem RRead_out {t : Int} (h : ¬ (0 ≤ t ∧ t ≤ 62)) (s : List UInt8) (w : World) :
    Calls Tryd.prog 28 #[.int .i64 t, .string (tx s)] w fun e w' => e = .returned (.tuple #[.int .u64 0, .int .i64 0, .int .i64 1]) ∧ Below w.heap.size w w' := by
  have HBo := hid (RBound_any t w)
  rw [decide_eq_false h] at HBo
  clear h
  go_enter Tryd.func28, Tryd.ntmps28
  go_wp2_with fail
  refine HBo.out.mono ?_
  rintro e w1 ⟨rfl, e'⟩
  have ew := e'.symm
  clear e'
  subst ew
  go_wp2_with fail
  go_ret3
  exact ⟨rfl, Below.refl _ _⟩
/-- The fuel does not matter. -/
theorem begB_fuel (t : Nat) : ∀ (k k' : Nat) (last : Option Nat) (s : List UInt8), s.length < k → s.length < k' → t ≤ 62 → begB t k last s = begB t k' last s := by
  intro k
  induction k with
  | zero => intro k' last s h; omega
  | succ k ih =>
    intro k' last s hk hk' ht
    obtain ⟨k', rfl⟩ : ∃ n, k' = n + 1 := ⟨k' - 1, by omega⟩
    have key : ∀ (q : List UInt8) (i : Nat), q.length < k + 1 → q.length < k' + 1 → i < t + 2 → goB t (fun i r => begB t k (some i) r) q i = goB t (fun i r => begB t k' (some i) r) q i := by
      intro q i h1 h2 hi
      unfold goB
      by_cases hw : (wordT t i).length < q.length
      · have hp := word_pos ht (show i ≤ t + 1 by omega)
        have e := ih k' (some i) (q.drop (wordT t i).length) (by rw [List.length_drop]; omega) (by rw [List.length_drop]; omega) ht
        simp only [e]
      · simp [hw]
    unfold begB
    by_cases h0 : s = []
    · rw [if_pos h0, if_pos h0]
    · rw [if_neg h0, if_neg h0]
      have any : ∀ (f g : Nat → Bool), (∀ i, i < t + 2 → f i = g i) → (List.range (t + 2)).any f = (List.range (t + 2)).any g := by
        intro f g h
        rw [Bool.eq_iff_iff, List.any_eq_true, List.any_eq_true]
        constructor
        · rintro ⟨x, hx, hf⟩; exact ⟨x, hx, by rw [← h x (List.mem_range.1 hx)]; exact hf⟩
        · rintro ⟨x, hx, hf⟩; exact ⟨x, hx, by rw [h x (List.mem_range.1 hx)]; exact hf⟩
      cases last with
      | none => exact any _ _ (fun i hi => key s i hk hk' hi)
      | some l =>
        simp only
        rw [any _ _ (fun i hi => by rw [key s.tail i (by rw [List.length_tail]; omega) (by rw [List.length_tail]; omega) hi])]
end Go.Proofs.YteadddocmmkbgaaDoor.Co
