/-
  What shrink leaves: the nodes that one needs, each with its meaning.
-/
import Derived.Test.YtffngpdngjfcfaaBNames
namespace Go.Proofs.Ytffngpdngjfcfaa
open Bd (Nd)

/-- Each node's children lie ahead of it, or are left out. -/
def Closed (L : List Nd) (least : Nat) (acc : List Nat) : Prop := ∀ (j m : Nat), acc[j]? = some m → ∀ c, (c = (L.getD (m - 2) (0, 0, 0)).2.1 ∨ c = (L.getD (m - 2) (0, 0, 0)).2.2) → c < least ∨ ∃ i, i < j ∧ acc[i]? = some c

theorem vis_keeps (L : List Nd) (least : Nat) : ∀ k n acc m, m ∈ acc → m ∈ vis L least k n acc := by
  intro k
  induction k with
  | zero => intro n acc m hm; exact hm
  | succ k ih =>
    intro n acc m hm
    unfold vis
    split
    · exact hm
    · split
      · exact hm
      · exact List.mem_append_left _ (ih _ _ _ (ih _ _ _ hm))

theorem vis_has (L : List Nd) (least : Nat) : ∀ k n acc, n < k → n < least ∨ n ∈ vis L least k n acc := by
  intro k
  cases k with
  | zero => intro n acc h; omega
  | succ k =>
    intro n acc _
    unfold vis
    split
    · rename_i h; exact Or.inl h
    · split
      · rename_i h; exact Or.inr h
      · exact Or.inr (List.mem_append_right _ (by simp))

theorem vis_closed (L : List Nd) (least : Nat) (hL : Falls L) (h2 : 2 ≤ least) : ∀ k n acc, n < k → n < L.length + 2 → Closed L least acc → Closed L least (vis L least k n acc) := by
  intro k
  induction k with
  | zero => intro n acc h; omega
  | succ k ih =>
    intro n acc hk hn hC
    unfold vis
    split
    · exact hC
    · split
      · exact hC
      · rename_i hl hm
        have hF := hL.at (n := n) (by omega) hn
        have c1 := ih (L.getD (n - 2) (0, 0, 0)).2.1 acc (by omega) (by omega) hC
        have c2 := ih (L.getD (n - 2) (0, 0, 0)).2.2 _ (by omega) (by omega) c1
        generalize ha : vis L least k (L.getD (n - 2) (0, 0, 0)).2.2 (vis L least k (L.getD (n - 2) (0, 0, 0)).2.1 acc) = a2 at c2
        intro j m hj c hc
        rcases Nat.lt_or_ge j a2.length with h | h
        · rw [List.getElem?_append_left h] at hj
          rcases c2 j m hj c hc with h3 | ⟨i, hi, h3⟩
          · exact Or.inl h3
          · exact Or.inr ⟨i, hi, by rw [List.getElem?_append_left (by omega)]; exact h3⟩
        · rw [List.getElem?_append_right h] at hj
          have hj0 : j - a2.length = 0 := by
            have := Bd.getElem?_lt hj
            simp at this
            exact this
          rw [hj0] at hj
          simp at hj
          subst hj
          have hin : c < least ∨ c ∈ a2 := by
            rcases hc with e | e
            · rcases vis_has L least k c acc (by omega) with h3 | h3
              · exact Or.inl h3
              · right; rw [← ha]; exact vis_keeps _ _ _ _ _ _ (by rw [e] at h3 ⊢; exact h3)
            · rcases vis_has L least k c (vis L least k (L.getD (n - 2) (0, 0, 0)).2.1 acc) (by omega) with h3 | h3
              · exact Or.inl h3
              · right; rw [← ha]; rw [e] at h3 ⊢; exact h3
          rcases hin with h3 | h3
          · exact Or.inl h3
          · obtain ⟨i, hi, e⟩ := List.mem_iff_getElem.1 h3
            exact Or.inr ⟨i, by omega, by rw [List.getElem?_append_left hi, List.getElem?_eq_getElem hi, e]⟩

/-- What a node is called in the shrunken list has its meaning. -/
structure Shrunk (bits : Nat) (L : List Nd) (mark : Nat) (acc : List Nat) (j : Nat) : Prop where
  okay : Bd.Okay bits (L.take mark ++ (acc.map (rn L acc (mark + 2))).take j)
  den : ∀ i m, i < j → acc[i]? = some m → Bd.den (L.take mark ++ (acc.map (rn L acc (mark + 2))).take j) (mark + 2 + i) = Bd.den L m

theorem okay_take {bits : Nat} {L : List Nd} (h : Bd.Okay bits L) (k : Nat) : Bd.Okay bits (L.take k) := by
  refine { few := h.few, nd := h.nd.sublist (List.take_sublist _ _), fit := fun i x hx => ?_ }
  have hi := Bd.getElem?_lt hx
  rw [List.length_take] at hi
  rw [List.getElem?_take_of_lt (by omega)] at hx
  obtain ⟨a, b, c, d, e, f⟩ := h.fit i x hx
  have hb : ∀ n, n < i + 2 → Bd.bitOf (L.take k) n = Bd.bitOf L n := by
    intro n hn
    have := Bd.bitOf_old (L.take k) (L.drop k) (n := n) (by rw [List.length_take]; omega)
    rw [List.take_append_drop] at this
    exact this.symm
  exact ⟨a, b, c, d, by rw [hb _ a]; exact e, by rw [hb _ b]; exact f⟩
theorem den_take (L : List Nd) (k : Nat) {n : Nat} (hn : n < (L.take k).length + 2) : Bd.den (L.take k) n = Bd.den L n := by
  have := Bd.den_append_old (L.take k) (L.drop k) hn
  rw [List.take_append_drop] at this
  exact this.symm

theorem shrunk_all {bits : Nat} {L : List Nd} (hL : Bd.Okay bits L) {mark : Nat} (hm : mark ≤ L.length) {acc : List Nat} (hnd : acc.Nodup) (hacc : ∀ m, m ∈ acc → mark + 2 ≤ m ∧ m < L.length + 2) (hC : Closed L (mark + 2) acc) : ∀ j, j ≤ acc.length → Shrunk bits L mark acc j := by
  have hlen : (L.take mark).length = mark := by rw [List.length_take]; omega
  intro j
  induction j with
  | zero =>
    intro _
    refine ⟨by rw [List.take_zero, List.append_nil]; exact okay_take hL mark, fun i m hi => by omega⟩
  | succ j ih =>
    intro hj
    have S := ih (by omega)
    obtain ⟨m, hmj⟩ : ∃ m, acc[j]? = some m := ⟨acc[j]'(by omega), List.getElem?_eq_getElem _⟩
    have hmem : m ∈ acc := List.mem_of_getElem? hmj
    obtain ⟨b1, b2⟩ := hacc m hmem
    have hxL : L[m - 2]? = some (L.getD (m - 2) (0, 0, 0)) := (hL.falls.at (n := m) (by omega) b2).2.2
    have hml : m - 2 < L.length := by omega
    obtain ⟨f1, f2, f3, f4, f5, f6⟩ := hL.fit _ _ hxL
    have hdm : Bd.den L m = Bd.mux (L.getD (m - 2) (0, 0, 0)).1 (Bd.den L (L.getD (m - 2) (0, 0, 0)).2.1) (Bd.den L (L.getD (m - 2) (0, 0, 0)).2.2) := by
      have := Bd.den_at hL hxL
      rw [show m - 2 + 2 = m by omega] at this
      exact this
    have hMj : (acc.map (rn L acc (mark + 2)))[j]? = some (rn L acc (mark + 2) m) := by rw [List.getElem?_map, hmj]; rfl
    have eT : (acc.map (rn L acc (mark + 2))).take (j + 1) = (acc.map (rn L acc (mark + 2))).take j ++ [rn L acc (mark + 2) m] := by
      rw [List.take_add_one, hMj]; rfl
    have hTl : ((acc.map (rn L acc (mark + 2))).take j).length = j := by rw [List.length_take, List.length_map]; omega
    generalize hP : L.take mark ++ (acc.map (rn L acc (mark + 2))).take j = Q
    have hQl : Q.length = mark + j := by rw [← hP, List.length_append, hlen, hTl]
    have hold : ∀ n, n < mark + 2 → Bd.den Q n = Bd.den L n := by
      intro n hn
      rw [← hP, Bd.den_append_old _ _ (by omega)]
      exact den_take L mark (by omega)
    -- a child: its new number, and its meaning
    have child : ∀ c, (c = (L.getD (m - 2) (0, 0, 0)).2.1 ∨ c = (L.getD (m - 2) (0, 0, 0)).2.2) → nm acc (mark + 2) c < Q.length + 2 ∧ Bd.den Q (nm acc (mark + 2) c) = Bd.den L c := by
      intro c hc
      unfold nm
      by_cases hin : c ∈ acc
      · rw [if_pos hin]
        have hcl := (hacc c hin).1
        rcases hC j m hmj c hc with h3 | ⟨i, hi, h3⟩
        · omega
        · have e := idx_of hnd h3
          rw [e]
          refine ⟨by omega, ?_⟩
          rw [← hP]
          exact S.den i c hi h3
      · rw [if_neg hin]
        rcases hC j m hmj c hc with h3 | ⟨i, hi, h3⟩
        · exact ⟨by omega, hold c h3⟩
        · exact absurd (List.mem_of_getElem? h3) hin
    obtain ⟨l1, l2⟩ := child _ (Or.inl rfl)
    obtain ⟨r1, r2⟩ := child _ (Or.inr rfl)
    have hQ : Bd.Okay bits Q := by rw [← hP]; exact S.okay
    have hnew : Bd.mux (rn L acc (mark + 2) m).1 (Bd.den Q (rn L acc (mark + 2) m).2.1) (Bd.den Q (rn L acc (mark + 2) m).2.2) = Bd.den L m := by
      rw [hdm, ← l2, ← r2]; rfl
    have hO : Bd.Okay bits (Q ++ [rn L acc (mark + 2) m]) := by
      refine hQ.snoc ?_ l1 r1 ?_ f4 ?_ ?_
      · intro hin
        obtain ⟨i, hi, e⟩ := List.mem_iff_getElem.1 hin
        have hi' : Q[i]? = some (rn L acc (mark + 2) m) := by rw [List.getElem?_eq_getElem hi, e]
        have d1 := Bd.den_at hQ hi'
        rw [hnew] at d1
        rcases Nat.lt_or_ge i mark with h | h
        · rw [hold _ (by omega)] at d1
          have := Bd.canon hL (by omega) b2 d1
          omega
        · obtain ⟨q, hq⟩ : ∃ q, acc[i - mark]? = some q := ⟨acc[i - mark]'(by omega), List.getElem?_eq_getElem _⟩
          have d2 := S.den (i - mark) q (by omega) hq
          rw [hP, show mark + 2 + (i - mark) = i + 2 by omega, d1] at d2
          have hq2 := hacc q (List.mem_of_getElem? hq)
          have := Bd.canon hL b2 hq2.2 d2
          subst this
          have e1 := idx_of hnd hq
          have e2 := idx_of hnd hmj
          omega
      · intro e
        have : Bd.den L (L.getD (m - 2) (0, 0, 0)).2.1 = Bd.den L (L.getD (m - 2) (0, 0, 0)).2.2 := by
          rw [← l2, ← r2]
          exact congrArg (Bd.den Q) e
        exact f3 (Bd.canon hL (by omega) (by omega) this)
      · have := Bd.bit_ge hQ l1 (k := (L.getD (m - 2) (0, 0, 0)).1 + 1) (by rw [l2]; exact (Bd.from_den hL _ (by omega)).mono f5) (by have := hL.few; omega)
        exact this
      · have := Bd.bit_ge hQ r1 (k := (L.getD (m - 2) (0, 0, 0)).1 + 1) (by rw [r2]; exact (Bd.from_den hL _ (by omega)).mono f6) (by have := hL.few; omega)
        exact this
    have eQ : L.take mark ++ (acc.map (rn L acc (mark + 2))).take (j + 1) = Q ++ [rn L acc (mark + 2) m] := by rw [eT, ← List.append_assoc, hP]
    refine ⟨by rw [eQ]; exact hO, fun i q hi hq => ?_⟩
    rw [eQ]
    rcases Nat.lt_or_ge i j with h | h
    · rw [Bd.den_snoc_old _ _ (by omega)]
      have := S.den i q h hq
      rw [hP] at this
      exact this
    · have : i = j := by omega
      subst this
      rw [hmj] at hq
      cases hq
      rw [show mark + 2 + i = Q.length + 2 by omega, Bd.den_snoc_new]
      exact hnew
end Go.Proofs.Ytffngpdngjfcfaa
