/-
  A row of structs that was sorted: what the library's contract of slices.SortFunc leaves, as a row of one's own.
-/
import Derived.Shelf.SlSortCmp.NoneTotal
import Derived.Below
namespace Go.Proofs.YtebaopiedlioiaaGreatDoor
open Go.Sort

/-- A call that lays blocks of its own and draws: the world in the library's form. -/
theorem grow_of_below {w w' : World} (h : Go.RowKit.Below w.heap.size w w') (hd : w.drawn ≤ w'.drawn) : ∃ q os, w' = grow (w.drewN q) os := by
  refine ⟨w'.drawn - w.drawn, w'.heap.extract w.heap.size w'.heap.size, ?_⟩
  have hs := h.size
  have hh : w'.heap = w.heap ++ w'.heap.extract w.heap.size w'.heap.size := by
    apply Array.ext_getElem?
    intro i
    by_cases hi : i < w.heap.size
    · rw [h.block i hi, Array.getElem?_append_left hi]
    · rw [Array.getElem?_append_right (by omega), Array.getElem?_extract]
      by_cases h2 : i < w'.heap.size
      · rw [if_pos (by omega), show w.heap.size + (i - w.heap.size) = i by omega]
      · rw [if_neg (by omega), Array.getElem?_eq_none (by omega)]
  have h1 := h.os
  have h2 := h.tape
  have h3 := h.output
  obtain ⟨heap, tape, drawn, os, output⟩ := w'
  obtain ⟨heap0, tape0, drawn0, os0, output0⟩ := w
  simp only at *
  subst h1 h2 h3
  unfold grow World.drewN
  simp only [World.mk.injEq, and_true, true_and]
  exact ⟨hh, by omega⟩

theorem flat_at {α : Type} {enc : α → List Value} {k : Nat} (hk : ∀ x, (enc x).length = k) : ∀ (l : List α) (i c : Nat), c < k → (l.flatMap enc)[i * k + c]? = (l[i]?).bind fun x => (enc x)[c]?
  | [], i, c, hc => by simp
  | a :: t, 0, c, hc => by
    rw [List.flatMap_cons, Nat.zero_mul, Nat.zero_add, List.getElem?_append_left (by rw [hk]; exact hc)]
    rfl
  | a :: t, i + 1, c, hc => by
    rw [List.flatMap_cons, List.getElem?_append_right (by rw [hk, Nat.add_mul]; omega), hk, show (i + 1) * k + c - k = i * k + c by rw [Nat.add_mul]; omega, flat_at hk t i c hc]
    rfl
theorem flat_len {α : Type} {enc : α → List Value} {k : Nat} (hk : ∀ x, (enc x).length = k) (l : List α) : (l.flatMap enc).length = l.length * k := by
  induction l with
  | nil => simp
  | cons a t ih => rw [List.flatMap_cons, List.length_append, ih, hk, List.length_cons, Nat.add_mul]; omega
theorem flatK_eq {α : Type} [Inhabited α] {enc : α → List Value} {k : Nat} (hk : ∀ x, (enc x).length = k) (h0 : 0 < k) (l : List α) : (flatK enc k l.toArray).toList = l.flatMap enc := by
  apply List.ext_getElem?
  intro t
  by_cases ht : t < l.length * k
  · have hi : t / k < l.length := (Nat.div_lt_iff_lt_mul h0).2 ht
    have hc : t % k < k := Nat.mod_lt _ h0
    have e : (l.flatMap enc)[t]? = (l[t / k]?).bind fun x => (enc x)[t % k]? := by
      have := flat_at hk l (t / k) (t % k) hc
      rwa [Nat.mul_comm, Nat.div_add_mod] at this
    rw [e, List.getElem?_eq_getElem hi, Option.bind_some, List.getElem?_eq_getElem (l := enc l[t / k]) (by rw [hk]; exact hc)]
    have hs : t < (flatK enc k l.toArray).size := by simpa using ht
    rw [Array.getElem?_toList, Array.getElem?_eq_getElem hs, ← getElem!_pos _ t hs, get_flatK _ _ _ _ (by simpa using ht)]
    have h1 : (l.toArray[t / k]! : α) = l[t / k] := by simp [hi]
    rw [h1, getElem!_pos _ _ (by rw [hk]; exact hc)]
  · rw [List.getElem?_eq_none (by simpa using ht), List.getElem?_eq_none (by rw [flat_len hk]; omega)]
/-- A row of one's own holds its elements, in the library's form. -/
theorem own_holdsK {α : Type} [Inhabited α] {w : World} {B : Nat} {e : TypeId} {k n g cap : Nat} {enc : α → List Value} (hk : ∀ x, (enc x).length = k) (h0 : 0 < k) {l : List α} (h : w.ownsRow B e k (.slice (some ⟨g, 0, none⟩) n cap) n (l.flatMap enc)) : HoldsK enc k w g 0 l.toArray := by
  obtain ⟨h1, ⟨h2, -⟩ | ⟨g', cap', cur, h2, h3, h4, h5, h6, h7, h8⟩⟩ := h
  · simp at h2
  · injection h2 with h2 _ h9
    injection h2 with h2
    injection h2 with h2
    subst h2
    intro j hj
    have hj' : j < n * k := by rw [← h1, ← flatK_eq hk h0]; simpa using hj
    refine ⟨?_, by simp [World.frozen?, h4]⟩
    have e1 : cur[j]? = (flatK enc k l.toArray)[j]? := by
      rw [← Array.getElem?_toList (xs := flatK enc k l.toArray), flatK_eq hk h0, ← h8, List.getElem?_take_of_lt hj', Array.getElem?_toList]
    simp only [World.cell?, h4, Nat.zero_add, id]
    rw [if_neg (by simp), e1, Array.getElem?_eq_getElem hj, getElem!_pos _ j hj]
/-- A row of one's own that was sorted. -/
theorem sortK_own {α : Type} [Inhabited α] {w : World} {B : Nat} {e : TypeId} {k n g cap : Nat} {xs : List Value} {enc : α → List Value} (hk : ∀ x, (enc x).length = k) (h0 : 0 < k) (h : w.ownsRow B e k (.slice (some ⟨g, 0, none⟩) n cap) n xs) (l : List α) (hl : l.length = n) (m : Nat) (os : Array Obj) :
    (sortWorldK enc k w g 0 m l.toArray os).ownsRow B e k (.slice (some ⟨g, 0, none⟩) n cap) n (l.flatMap enc) ∧ w.grownBy (sortWorldK enc k w g 0 m l.toArray os) (some g) := by
  have hW : ∀ i, i < w.heap.size → (sortWorldK enc k w g 0 m l.toArray os).heap[i]? = (putRow id (Sort.ahead w m) g 0 (flatK enc k l.toArray)).heap[i]? := fun i hi => by
    show ((putRow id (Sort.ahead w m) g 0 (flatK enc k l.toArray)).heap ++ os)[i]? = _
    rw [Array.getElem?_append_left (by rw [size_putRow]; exact hi)]
  constructor
  · obtain ⟨h1, ⟨h2, -⟩ | ⟨g', cap', cur, h2, h3, h4, h5, h6, h7, h8⟩⟩ := h
    · simp at h2
    · injection h2 with h2 _ h9
      injection h2 with h2
      injection h2 with h2
      subst h2 h9
      have hg : g < w.heap.size := (Array.getElem?_eq_some_iff.1 h4).1
      refine ⟨by rw [flat_len hk, hl], Or.inr ⟨g, cap, putCells id 0 (flatK enc k l.toArray) cur, rfl, h3, ?_, h5, h6, by unfold putCells; simpa using h7, ?_⟩⟩
      · rw [hW g hg]
        show (mapBlock (Sort.ahead w m) g (putCells id 0 (flatK enc k l.toArray))).heap[g]? = _
        have h4' : (Sort.ahead w m).heap[g]? = some (.cells cur e (0, 0)) := h4
        unfold mapBlock
        simp only [Array.getElem?_modify, h4', if_true, Option.map_some]
        rfl
      · apply List.ext_getElem?
        intro t
        have hnk : n * k ≤ cap * k := Nat.mul_le_mul_right k h5
        by_cases ht : t < n * k
        · rw [List.getElem?_take_of_lt ht, Array.getElem?_toList, ← flatK_eq hk h0, Array.getElem?_toList]
          unfold putCells
          have hs : t < (flatK enc k l.toArray).size := by simpa [hl] using ht
          rw [Array.getElem?_mapIdx, Array.getElem?_eq_getElem (show t < cur.size by omega)]
          simp only [Option.map_some, Nat.zero_le, Nat.zero_add, hs, and_self, if_true, Nat.sub_zero, id]
          rw [Array.getElem?_eq_getElem hs, getElem!_pos _ t hs]
        · rw [List.getElem?_eq_none (by rw [List.length_take]; omega), List.getElem?_eq_none (by rw [flat_len hk, hl]; omega)]
  · refine ⟨rfl, rfl, rfl, by simp [sortWorldK, grow, putRowK, putRow, mapBlock, Sort.ahead], fun i hi hne => ?_⟩
    rw [hW i hi]
    show (mapBlock (Sort.ahead w m) g _).heap[i]? = _
    unfold mapBlock
    simp only [Array.getElem?_modify]
    rw [if_neg (fun e => hne (by rw [e]))]
    rfl
end Go.Proofs.YtebaopiedlioiaaGreatDoor
