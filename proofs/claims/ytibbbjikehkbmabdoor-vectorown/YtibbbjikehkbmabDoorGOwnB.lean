/-
  Rows of one's own beside a store elsewhere; what Merge and Join of one vector come to.
-/
import Derived.Test.YtibbbjikehkbmabDoorGWith
import Derived.Test.YtibbbjikehkbmabDoorGMrg
import Derived.Deep.Heap
namespace Go.Proofs.YtibbbjikehkbmabDoor.Ve
open Go.RowKit

theorem own_elsewhere {w : World} {B : Nat} {v : Value} {l : List St} {p : Addr} (h : OwnS w B v l) (hp : p.block < B) (u : Value) : OwnS (w.setCell p u) B v l := by
  obtain ⟨h1, h2⟩ := h
  refine ⟨h1, ?_⟩
  rcases h2 with h2 | ⟨g, cap, cur, e, hB, hh, r⟩
  · exact Or.inl h2
  · exact Or.inr ⟨g, cap, cur, e, hB, by rw [Go.Deep.blk_setCell_other _ _ _ _ (by omega)]; exact hh, r⟩
/-- A row of one's own: where it lies. -/
theorem own_lies {w : World} {B n c : Nat} {b : Option Addr} {l : List St} (h : OwnS w B (.slice b n c) l) (hn : n = l.length) : n = 0 ∨ ∃ g, b = some ⟨g, 0, none⟩ ∧ B ≤ g ∧ g < w.heap.size ∧ ∃ cur, w.heap[g]? = some (.cells cur 33 (0, 0)) ∧ n * 2 ≤ cur.size := by
  rcases h.2 with ⟨e, h0⟩ | ⟨g, cap, cur, e, hB, hh, hc, hm, hs, ht⟩
  · left; omega
  · right
    injection e with e1 e2 e3
    subst e1 e3
    exact ⟨g, rfl, hB, lt_of_block hh, cur, hh, by omega⟩
theorem mrg_one (a : List St) : ((mrgP [a]).2.2 = 0 ∨ ((mrgP [a]).2.2 = 160 ∧ (mrgP [a]).1 = [])) ∧ (joinP [a]).1 = (mrgP [a]).1 := by
  unfold mrgP joinP
  rw [chk_one, show [a].flatten = a by simp]
  by_cases h : Right a
  · have hg : agrS a := fun s hs t ht e => by rw [right_one h hs ht e]
    simp [if_pos h, if_pos hg]
  · simp [if_neg h]
theorem mrg_one_len (a : List St) : (mrgP [a]).1.length ≤ maxLen := by
  unfold mrgP
  rw [chk_one, show [a].flatten = a by simp]
  by_cases h : Right a
  · have hg : agrS a := fun s hs t ht e => by rw [right_one h hs ht e]
    have hj := right_len (mem_joinS h.1).1
    rw [if_pos h, if_pos rfl, if_pos hg]
    unfold maxLen; simp only; omega
  · rw [if_neg h, if_neg (by decide)]; simp
theorem with_len (a l : List St) : (withP a l).1.length ≤ maxLen := by
  unfold withP
  by_cases h : Right a
  · rw [if_pos h]
    by_cases hd : devs l
    · rw [if_pos hd]
      have := right_len (putL_right h hd)
      unfold maxLen; simp only; omega
    · rw [if_neg hd]; simp
  · rw [if_neg h]; simp
end Go.Proofs.YtibbbjikehkbmabDoor.Ve
