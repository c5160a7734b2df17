/-
  Merge and Join: the document's.
-/
import Derived.Test.YtibbbjikehkbmabDoorGFind
import Derived.Test.YtibbbjikehkbmabDoorGRChk
import Derived.Test.YtibbbjikehkbmabDoorGMrg
namespace Go.Proofs.YtibbbjikehkbmabDoor.Ve
open Go.RowKit

theorem joinS_snoc (ss : List St) (s : St) : joinS (ss ++ [s]) = putM (joinS ss) s := by
  unfold joinS
  rw [List.foldl_append]
  rfl
theorem putV_same {v : List St} {s : St} (h : Right v) (hs : s ∈ v) : putV v s = v := by
  refine right_ext (putV_right h (h.1 s hs)) h fun t => ?_
  rw [mem_putV]
  constructor
  · rintro (rfl | ⟨ht, _⟩)
    · exact hs
    · exact ht
  · intro ht
    by_cases e : t.1 = s.1
    · exact Or.inl (right_one h ht hs e)
    · exact Or.inr ⟨ht, e⟩
/-- What find tells of a row that is right. -/
theorem fndP_none {v : List St} {d : Int} (h : (fndP v d).2 = false) : getV v d = none := by
  unfold fndP at h
  cases e : getV v d with
  | none => rfl
  | some n => rw [e] at h; cases h
theorem fndP_some {v : List St} {d : Int} (h : (fndP v d).2 = true) : getV v d = some (fndP v d).1 := by
  unfold fndP at h ⊢
  cases e : getV v d with
  | none => rw [e] at h; cases h
  | some n => rfl
theorem join_put {ss : List St} {s : St} (hd : ∀ t ∈ ss, 0 ≤ t.1 ∧ t.1 < 256) (h : (fndP (joinS ss) s.1).2 = false ∨ (fndP (joinS ss) s.1).1 ≤ s.2) : putV (joinS ss) s = joinS (ss ++ [s]) := by
  rw [joinS_snoc]
  unfold putM
  cases hb : (fndP (joinS ss) s.1).2 with
  | false => rw [fndP_none hb]
  | true =>
    rw [fndP_some hb]
    have hle := h.resolve_left (by rw [hb]; decide)
    by_cases q : (fndP (joinS ss) s.1).1 < s.2
    · simp [q]
    · have e : (fndP (joinS ss) s.1).1 = s.2 := by omega
      simp only [q, if_false]
      refine putV_same (mem_joinS hd).1 ?_
      have := get_mem (fndP_some hb)
      rw [e] at this
      exact this
theorem join_keep {ss : List St} {s : St} (h1 : (fndP (joinS ss) s.1).2 = true) (h2 : ¬ (fndP (joinS ss) s.1).1 < s.2) : joinS ss = joinS (ss ++ [s]) := by
  rw [joinS_snoc]
  unfold putM
  rw [fndP_some h1]
  simp [h2]
theorem agr_snoc {ss : List St} {s : St} (hd : ∀ t ∈ ss, 0 ≤ t.1 ∧ t.1 < 256) (ha : agrS ss) : agrS (ss ++ [s]) ↔ ((fndP (joinS ss) s.1).2 = true → (fndP (joinS ss) s.1).1 = s.2) := by
  constructor
  · intro h hb
    have hm := get_mem (fndP_some hb)
    have hm := ((mem_joinS_of_agr hd ha _).1 hm)
    exact h (s.1, (fndP (joinS ss) s.1).1) (List.mem_append.2 (Or.inl hm)) s (by simp) rfl
  · intro h
    have key : ∀ t ∈ ss, t.1 = s.1 → t.2 = s.2 := fun t ht e => by
      have hj := (mem_joinS_of_agr hd ha t).2 ht
      have hg := (mem_get (mem_joinS hd).1 (d := t.1) (n := t.2)).2 hj
      have hb : (fndP (joinS ss) s.1).2 = true := by unfold fndP; rw [← e, hg]
      have he : (fndP (joinS ss) s.1).1 = t.2 := by unfold fndP; rw [← e, hg]
      rw [← he]
      exact h hb
    intro t ht u hu e
    rcases List.mem_append.1 ht with ht | ht <;> rcases List.mem_append.1 hu with hu | hu
    · exact ha t ht u hu e
    · rw [List.mem_singleton.1 hu] at e ⊢; exact key t ht e
    · rw [List.mem_singleton.1 ht] at e ⊢; exact (key u hu e.symm).symm
    · rw [List.mem_singleton.1 ht, List.mem_singleton.1 hu]
/-- The stamps up to a place. -/
def preS (ls : List (List St)) (i k : Nat) : List St := (ls.take i).flatten ++ (ls.getD i []).take k
theorem preS_next {ls : List (List St)} {i k : Nat} {l : List St} {s : St} (hl : ls[i]? = some l) (hs : l[k]? = some s) : preS ls i (k + 1) = preS ls i k ++ [s] := by
  unfold preS
  have e : ls.getD i [] = l := by rw [List.getD_eq_getElem?_getD, hl]; rfl
  rw [e, List.take_add_one, hs, List.append_assoc]
  rfl
theorem preS_row {ls : List (List St)} {i k : Nat} {l : List St} (hl : ls[i]? = some l) (hk : k = l.length) : preS ls i k = preS ls (i + 1) 0 := by
  unfold preS
  have e : ls.getD i [] = l := by rw [List.getD_eq_getElem?_getD, hl]; rfl
  rw [e, hk, List.take_length, List.take_add_one, hl]
  simp
theorem preS_end {ls : List (List St)} {i : Nat} (hi : i = ls.length) : preS ls i 0 = ls.flatten := by
  unfold preS
  rw [hi, List.take_length]
  simp
theorem preS_sub {ls : List (List St)} {i k : Nat} {s : St} (h : s ∈ preS ls i k) : s ∈ ls.flatten := by
  unfold preS at h
  rcases List.mem_append.1 h with h | h
  · obtain ⟨l, hl, hs⟩ := List.mem_flatten.1 h
    exact List.mem_flatten.2 ⟨l, List.mem_of_mem_take hl, hs⟩
  · have h := List.mem_of_mem_take h
    rw [List.getD_eq_getElem?_getD] at h
    cases e : ls[i]? with
    | none => rw [e] at h; cases h
    | some l => rw [e] at h; exact List.mem_flatten.2 ⟨l, List.mem_of_getElem? e, h⟩
theorem preS_right {ls : List (List St)} (h : ∀ l ∈ ls, Right l) (i k : Nat) : ∀ s ∈ preS ls i k, 0 ≤ s.1 ∧ s.1 < 256 := fun s hs => right_flat h s (preS_sub hs)
theorem preS_no {ls : List (List St)} {i k : Nat} (h : ¬ agrS (preS ls i k)) : ¬ agrS ls.flatten := fun q => h fun s hs t ht e => q s (preS_sub hs) t (preS_sub ht) e
end Go.Proofs.YtibbbjikehkbmabDoor.Ve
