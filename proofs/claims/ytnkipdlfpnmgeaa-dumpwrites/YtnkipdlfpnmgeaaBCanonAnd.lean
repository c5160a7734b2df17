/-
  The document's ite: what was reckoned.
  The document's Cube.
  The document's Letters.
  fits: a node that may stand at its place; inOrder: a right list.
  A function has one list.
-/
import Derived.Test.YtnkipdlfpnmgeaaBFoldAnd
import Derived.Test.YtnkipdlfpnmgeaaBFoldAAnd
import Derived.Deep.QuietTactic
import Derived.Test.YtnkipdlfpnmgeaaQReadAnd
import Derived.Test.YtnkipdlfpnmgeaaBIteAnd
import Derived.Test.YtnkipdlfpnmgeaaWordsAnd
namespace Go.Proofs.Ytnkipdlfpnmgeaa
open Bd (Nd)

theorem vis_fuel {L : List Nd} (hL : Falls L) (least : Nat) (h2 : 2 ≤ least) : ∀ n k acc, n < k → n < L.length + 2 → vis L least k n acc = vis L least (n + 1) n acc := by
  intro n
  induction n using Nat.strongRecOn with
  | ind n ih =>
    intro k acc hk hn
    cases k with
    | zero => omega
    | succ k =>
      show vis L least (k + 1) n acc = vis L least (n + 1) n acc
      unfold vis
      by_cases h1 : n < least
      · rw [if_pos h1, if_pos h1]
      · rw [if_neg h1, if_neg h1]
        by_cases h3 : n ∈ acc
        · rw [if_pos h3, if_pos h3]
        · rw [if_neg h3, if_neg h3]
          obtain ⟨a, b, _⟩ := hL.at (n := n) (by omega) hn
          rw [ih _ a k acc (by omega) (by omega), ih _ a n acc (by omega) (by omega), ih _ b k _ (by omega) (by omega), ih _ b n _ (by omega) (by omega)]

/-- Two numbers of two lists that mean the same. -/
def Rel (L L' : List Nd) (m m' : Nat) : Prop := m < L.length + 2 ∧ m' < L'.length + 2 ∧ Bd.den L m = Bd.den L' m'

section
variable {bits bits' : Nat} {L L' : List Nd}
theorem Rel.symm {m m' : Nat} (h : Rel L L' m m') : Rel L' L m' m := ⟨h.2.1, h.1, h.2.2.symm⟩
theorem rel_fn (hL' : Bd.Okay bits' L') {m a b : Nat} (h1 : Rel L L' m a) (h2 : Rel L L' m b) : a = b := Bd.canon hL' h1.2.1 h2.2.1 (h1.2.2.symm.trans h2.2.2)
theorem rel_end (hL' : Bd.Okay bits' L') {m m' : Nat} (h : Rel L L' m m') (hm : m < 2) : m' = m := by
  refine Bd.canon hL' h.2.1 (by omega) ?_
  rw [← h.2.2]
  rcases Nat.lt_or_ge m 1 with h0 | h0
  · have : m = 0 := by omega
    subst this
    rw [Bd.den_zero, Bd.den_zero]
  · have : m = 1 := by omega
    subst this
    rw [Bd.den_one, Bd.den_one]
theorem rel_two (hL : Bd.Okay bits L) (hL' : Bd.Okay bits' L') {m m' : Nat} (h : Rel L L' m m') : m < 2 ↔ m' < 2 := by
  constructor
  · intro hm; rw [rel_end hL' h hm]; exact hm
  · intro hm; rw [rel_end hL h.symm hm]; exact hm
theorem rel_bit (hL : Bd.Okay bits L) (hL' : Bd.Okay bits' L') {m m' : Nat} (h : Rel L L' m m') : Bd.bitOf L m = Bd.bitOf L' m' := by
  have h1 := Bd.bit_ge hL' h.2.1 (k := Bd.bitOf L m) (by rw [← h.2.2]; exact Bd.from_den hL m h.1) (Bd.bitOf_le hL h.1)
  have h2 := Bd.bit_ge hL h.1 (k := Bd.bitOf L' m') (by rw [h.2.2]; exact Bd.from_den hL' m' h.2.1) (Bd.bitOf_le hL' h.2.1)
  omega
theorem half_of (hL : Bd.Okay bits L) {m : Nat} (h2 : 2 ≤ m) (hm : m < L.length + 2) : L[m - 2]? = some (L.getD (m - 2) (0, 0, 0)) ∧ (L.getD (m - 2) (0, 0, 0)).1 = Bd.bitOf L m ∧ (L.getD (m - 2) (0, 0, 0)).2.1 < m ∧ (L.getD (m - 2) (0, 0, 0)).2.2 < m ∧
    Bd.den L (L.getD (m - 2) (0, 0, 0)).2.1 = Bd.cof (Bd.den L m) (Bd.bitOf L m) false ∧ Bd.den L (L.getD (m - 2) (0, 0, 0)).2.2 = Bd.cof (Bd.den L m) (Bd.bitOf L m) true := by
  obtain ⟨a, b, hx⟩ := hL.falls.at h2 hm
  obtain ⟨f1, f2, f3, f4, f5, f6⟩ := hL.fit _ _ hx
  have hb : (L.getD (m - 2) (0, 0, 0)).1 = Bd.bitOf L m := by
    have := Bd.bitOf_at hx
    rw [show m - 2 + 2 = m by omega] at this
    exact this.symm
  have hd : Bd.den L m = Bd.mux (L.getD (m - 2) (0, 0, 0)).1 (Bd.den L (L.getD (m - 2) (0, 0, 0)).2.1) (Bd.den L (L.getD (m - 2) (0, 0, 0)).2.2) := by
    have := Bd.den_at hL hx
    rw [show m - 2 + 2 = m by omega] at this
    exact this
  have fl := (Bd.from_den hL (L.getD (m - 2) (0, 0, 0)).2.1 (by omega)).mono f5
  have fh := (Bd.from_den hL (L.getD (m - 2) (0, 0, 0)).2.2 (by omega)).mono f6
  have c0 := Bd.cof_mux fl fh false
  have c1 := Bd.cof_mux fl fh true
  rw [← hd] at c0 c1
  rw [hb] at c0 c1
  exact ⟨hx, hb, a, b, c0.symm, c1.symm⟩
theorem rel_half (hL : Bd.Okay bits L) (hL' : Bd.Okay bits' L') {m m' : Nat} (h : Rel L L' m m') (h2 : 2 ≤ m) : Rel L L' (L.getD (m - 2) (0, 0, 0)).2.1 (L'.getD (m' - 2) (0, 0, 0)).2.1 ∧ Rel L L' (L.getD (m - 2) (0, 0, 0)).2.2 (L'.getD (m' - 2) (0, 0, 0)).2.2 ∧ (L.getD (m - 2) (0, 0, 0)).1 = (L'.getD (m' - 2) (0, 0, 0)).1 := by
  have h2' : 2 ≤ m' := by have := rel_two hL hL' h; omega
  obtain ⟨_, b1, l1, h1, c1, d1⟩ := half_of hL h2 h.1
  obtain ⟨_, b2, l2, h2, c2, d2⟩ := half_of hL' h2' h.2.1
  have hb := rel_bit hL hL' h
  have k1 := h.1
  have k2 := h.2.1
  exact ⟨⟨by omega, by omega, by rw [c1, c2, h.2.2, hb]⟩, ⟨by omega, by omega, by rw [d1, d2, h.2.2, hb]⟩, by rw [b1, b2, hb]⟩

/-- Two rows of numbers that mean the same. -/
def Alike (L L' : List Nd) (acc acc' : List Nat) : Prop := acc.length = acc'.length ∧ ∀ (i a a' : Nat), acc[i]? = some a → acc'[i]? = some a' → Rel L L' a a'
theorem Alike.symm {acc acc' : List Nat} (h : Alike L L' acc acc') : Alike L' L acc' acc := ⟨h.1.symm, fun i a a' h1 h2 => (h.2 i a' a h2 h1).symm⟩
theorem Alike.at {acc acc' : List Nat} (hL' : Bd.Okay bits' L') (h : Alike L L' acc acc') {i a b : Nat} (ha : acc[i]? = some a) (hr : Rel L L' a b) : acc'[i]? = some b := by
  have hi := Bd.getElem?_lt ha
  have hx : acc'[i]? = some (acc'[i]'(by rw [← h.1]; exact hi)) := List.getElem?_eq_getElem _
  have := rel_fn hL' (h.2 i a _ ha hx) hr
  rw [hx, this]
theorem Alike.mem {acc acc' : List Nat} (hL' : Bd.Okay bits' L') (h : Alike L L' acc acc') {a b : Nat} (ha : a ∈ acc) (hr : Rel L L' a b) : b ∈ acc' := by
  obtain ⟨i, hi, e⟩ := List.mem_iff_getElem.1 ha
  exact List.mem_of_getElem? (h.at hL' (by rw [List.getElem?_eq_getElem hi, e]) hr)
theorem Alike.snoc {acc acc' : List Nat} (h : Alike L L' acc acc') {a b : Nat} (hr : Rel L L' a b) : Alike L L' (acc ++ [a]) (acc' ++ [b]) := by
  refine ⟨by simp [h.1], fun i x x' hx hx' => ?_⟩
  have e := h.1
  rcases Nat.lt_or_ge i acc.length with h1 | h1
  · rw [List.getElem?_append_left h1] at hx
    rw [List.getElem?_append_left (by omega)] at hx'
    exact h.2 i x x' hx hx'
  · rw [List.getElem?_append_right h1] at hx
    rw [List.getElem?_append_right (by omega), ← e] at hx'
    have h0 : i - acc.length = 0 := by have := Bd.getElem?_lt hx; simp at this; exact this
    rw [h0] at hx hx'
    simp at hx hx'
    subst hx hx'
    exact hr

theorem vis_alike (hL : Bd.Okay bits L) (hL' : Bd.Okay bits' L') : ∀ k m m' acc acc', Rel L L' m m' → Alike L L' acc acc' → Alike L L' (vis L 2 k m acc) (vis L' 2 k m' acc') := by
  intro k
  induction k with
  | zero => intro m m' acc acc' _ h; exact h
  | succ k ih =>
    intro m m' acc acc' hr h
    unfold vis
    have h2 := rel_two hL hL' hr
    by_cases hm : m < 2
    · rw [if_pos hm, if_pos (h2.1 hm)]; exact h
    · rw [if_neg hm, if_neg (fun e => hm (h2.2 e))]
      by_cases hin : m ∈ acc
      · rw [if_pos hin, if_pos (h.mem hL' hin hr)]; exact h
      · rw [if_neg hin, if_neg (fun e => hin (h.symm.mem hL e hr.symm))]
        obtain ⟨r1, r2, _⟩ := rel_half hL hL' hr (by omega)
        exact (ih _ _ _ _ r2 (ih _ _ _ _ r1 h)).snoc hr

theorem alike_nil : Alike L L' [] [] := ⟨rfl, fun i a a' h _ => by simp at h⟩
/-- The numbers that a node needs, in the order of a list. -/
def ords (L : List Nd) (n : Nat) : List Nat := vis L 2 (n + 1) n []
theorem ords_alike (hL : Bd.Okay bits L) (hL' : Bd.Okay bits' L') {n n' : Nat} (h : Rel L L' n n') : Alike L L' (ords L n) (ords L' n') := by
  have := vis_alike hL hL' (n + n' + 1) n n' [] [] h alike_nil
  rw [vis_fuel hL.falls 2 (by omega) n _ [] (by omega) h.1, vis_fuel hL'.falls 2 (by omega) n' _ [] (by omega) h.2.1] at this
  exact this
theorem ords_nodup (hL : Bd.Okay bits L) {n : Nat} (hn : n < L.length + 2) : (ords L n).Nodup := vis_nodup L 2 hL.falls (by omega) (n + 1) n [] hn (by simp)
theorem ords_lt (hL : Bd.Okay bits L) {n : Nat} (hn : n < L.length + 2) : ∀ m, m ∈ ords L n → 2 ≤ m ∧ m < L.length + 2 := vis_lt L 2 hL.falls (by omega) (n + 1) n [] hn (by simp)
theorem ords_closed (hL : Bd.Okay bits L) {n : Nat} (hn : n < L.length + 2) : Closed L 2 (ords L n) := vis_closed L 2 hL.falls (by omega) (n + 1) n [] (by omega) hn (fun j m h => by simp at h)
theorem ords_last {n : Nat} (h2 : 2 ≤ n) : ∃ l, ords L n = l ++ [n] := by
  unfold ords vis
  rw [if_neg (by omega), if_neg (by simp)]
  exact ⟨_, rfl⟩

theorem list_length (n : Nat) : (listOf L n).length = (ords L n).length := by unfold listOf; rw [List.length_map]; rfl
theorem list_at {n i : Nat} {m : Nat} (h : (ords L n)[i]? = some m) : (listOf L n)[i]? = some (rn L (ords L n) 2 m) := by
  show ((ords L n).map (rn L (ords L n) 2))[i]? = _
  rw [List.getElem?_map, h]; rfl

theorem name_alike (hL : Bd.Okay bits L) (hL' : Bd.Okay bits' L') {acc acc' : List Nat} (h : Alike L L' acc acc') (hn' : acc'.Nodup) {c c' : Nat} (hr : Rel L L' c c') (hc : c < 2 ∨ c ∈ acc) : nm acc 2 c = nm acc' 2 c' := by
  unfold nm
  by_cases hin : c ∈ acc
  · have hin' := h.mem hL' hin hr
    rw [if_pos hin, if_pos hin']
    have := h.at hL' (idx_at hin) hr
    rw [idx_of hn' this]
  · have hin' : c' ∉ acc' := fun e => hin (h.symm.mem hL e hr.symm)
    rw [if_neg hin, if_neg hin']
    rcases hc with hc | hc
    · exact (rel_end hL' hr hc).symm
    · exact absurd hc hin

/-- A function has one list, whatever the table. -/
theorem list_alike (hL : Bd.Okay bits L) (hL' : Bd.Okay bits' L') {n n' : Nat} (h : Rel L L' n n') : listOf L n = listOf L' n' := by
  have hA := ords_alike hL hL' h
  apply List.ext_getElem?
  intro i
  rcases Nat.lt_or_ge i (ords L n).length with hi | hi
  · have e1 : (ords L n)[i]? = some (ords L n)[i] := List.getElem?_eq_getElem hi
    have e2 : (ords L' n')[i]? = some ((ords L' n')[i]'(by rw [← hA.1]; exact hi)) := List.getElem?_eq_getElem _
    rw [list_at e1, list_at e2]
    have hr := hA.2 i _ _ e1 e2
    have hm := ords_lt hL h.1 _ (List.mem_of_getElem? e1)
    obtain ⟨r1, r2, r3⟩ := rel_half hL hL' hr hm.1
    have cl := ords_closed hL h.1 i _ e1
    have inn : ∀ c, (c < 2 ∨ ∃ j, j < i ∧ (ords L n)[j]? = some c) → c < 2 ∨ c ∈ ords L n := fun c hc => hc.imp_right fun ⟨j, _, hj⟩ => List.mem_of_getElem? hj
    have q1 := name_alike hL hL' hA (ords_nodup hL' h.2.1) r1 (inn _ (cl _ (Or.inl rfl)))
    have q2 := name_alike hL hL' hA (ords_nodup hL' h.2.1) r2 (inn _ (cl _ (Or.inr rfl)))
    unfold rn
    rw [r3, q1, q2]
  · rw [List.getElem?_eq_none (by rw [list_length]; exact hi), List.getElem?_eq_none (by rw [list_length, ← hA.1]; exact hi)]

/-- A list is a table, and each of its nodes means what it meant. -/
theorem list_okay (hL : Bd.Okay bits L) {n : Nat} (hn : n < L.length + 2) : Bd.Okay bits (listOf L n) ∧ ∀ i m, (ords L n)[i]? = some m → Bd.den (listOf L n) (i + 2) = Bd.den L m := by
  have S := shrunk_all (mark := 0) hL (Nat.zero_le _) (ords_nodup hL hn) (fun m hm => ords_lt hL hn m hm) (ords_closed hL hn) (ords L n).length (Nat.le_refl _)
  have e : L.take 0 ++ ((ords L n).map (rn L (ords L n) (0 + 2))).take (ords L n).length = listOf L n := by
    rw [List.take_zero, List.nil_append, List.take_of_length_le (by rw [List.length_map]; omega)]
    rfl
  have h1 := S.okay
  rw [e] at h1
  refine ⟨h1, fun i m hi => ?_⟩
  have h2 := S.den i m (Bd.getElem?_lt hi) hi
  rw [e, show 0 + 2 + i = i + 2 by omega] at h2
  exact h2
theorem list_last (hL : Bd.Okay bits L) {n : Nat} (h2 : 2 ≤ n) (hn : n < L.length + 2) : 1 ≤ (listOf L n).length ∧ Bd.den (listOf L n) ((listOf L n).length + 1) = Bd.den L n := by
  obtain ⟨l, e⟩ := ords_last (L := L) h2
  have hlen : (listOf L n).length = l.length + 1 := by rw [list_length, e]; simp
  have hx : (ords L n)[l.length]? = some n := by rw [e, List.getElem?_append_right (Nat.le_refl _)]; simp
  have := (list_okay hL hn).2 _ _ hx
  rw [hlen]
  exact ⟨by omega, this⟩
theorem list_rel (hL : Bd.Okay bits L) {n : Nat} (h2 : 2 ≤ n) (hn : n < L.length + 2) : Rel L (listOf L n) n ((listOf L n).length + 1) := by
  obtain ⟨h1, h3⟩ := list_last hL h2 hn
  exact ⟨hn, by omega, h3.symm⟩
theorem list_few (hL : Bd.Okay bits L) {n : Nat} (hn : n < L.length + 2) : (listOf L n).length ≤ L.length := by
  rw [list_length]
  have hnd := ords_nodup hL hn
  have hlt := ords_lt hL hn
  refine Bd.pigeon L.length (ords L n).length (fun i => (ords L n).getD i 0 - 2) (fun i hi => ?_) (fun i j hi hj he => ?_)
  · have e : (ords L n).getD i 0 = (ords L n)[i] := by rw [List.getD_eq_getElem?_getD, List.getElem?_eq_getElem hi]; rfl
    have := hlt _ (List.getElem_mem hi)
    show (ords L n).getD i 0 - 2 < L.length
    rw [e]
    omega
  · have e1 : (ords L n).getD i 0 = (ords L n)[i] := by rw [List.getD_eq_getElem?_getD, List.getElem?_eq_getElem hi]; rfl
    have e2 : (ords L n).getD j 0 = (ords L n)[j] := by rw [List.getD_eq_getElem?_getD, List.getElem?_eq_getElem hj]; rfl
    have a1 := hlt _ (List.getElem_mem hi)
    have a2 := hlt _ (List.getElem_mem hj)
    have he' : (ords L n).getD i 0 - 2 = (ords L n).getD j 0 - 2 := he
    rw [e1, e2] at he'
    exact (List.getElem_inj (h₀ := hi) (h₁ := hj) hnd).1 (by omega)
end

/-- A right list: a table that is the list of its last node. -/
structure Right (bits : Nat) (Q : List Nd) : Prop where
  okay : Bd.Okay bits Q
  order : ∀ i m, (ords Q (Q.length + 1))[i]? = some m → m = i + 2
  all : (ords Q (Q.length + 1)).length = Q.length

theorem list_right {bits : Nat} {L : List Nd} (hL : Bd.Okay bits L) {n : Nat} (h2 : 2 ≤ n) (hn : n < L.length + 2) : Right bits (listOf L n) := by
  obtain ⟨hQ, hd⟩ := list_okay hL hn
  have hA := ords_alike hL hQ (list_rel hL h2 hn)
  refine ⟨hQ, fun i m hi => ?_, by rw [← hA.1, list_length]⟩
  have hil : i < (ords L n).length := by rw [hA.1]; exact Bd.getElem?_lt hi
  have e1 : (ords L n)[i]? = some (ords L n)[i] := List.getElem?_eq_getElem hil
  have hr := hA.2 i _ _ e1 hi
  refine Bd.canon hQ hr.2.1 (by rw [list_length]; omega) ?_
  rw [hd i _ e1]
  exact hr.2.2.symm
theorem Right.nil {bits : Nat} (h : bits ≤ 128) : Right bits [] := ⟨Bd.Okay.nil h, fun i m h => by simp [ords, vis] at h, by simp [ords, vis]⟩

/-- Functions of a family that are those of a list. -/
def denFam {bits M : Nat} (A : Bd.Fam bits M) (Q : List Nd) (hQ : Bd.Okay bits Q) : Bd.Fam bits M where
  F k f := A.F k f ∧ ∃ i, i < Q.length + 2 ∧ f = Bd.den Q i
  dep k f h := A.dep k f h.1
  go k f b hk h := by
    refine ⟨A.go k f b hk h.1, ?_⟩
    obtain ⟨h1, i, hi, rfl⟩ := h
    have hf := A.dep k _ h1
    have hb := Bd.bit_ge hQ hi hf (by have := hQ.few; omega)
    rcases Nat.lt_or_ge k (Bd.bitOf Q i) with h3 | h3
    · exact ⟨i, hi, Bd.cof_from ((Bd.from_den hQ i hi).mono h3) b⟩
    · have hbk : Bd.bitOf Q i = k := by omega
      have h2 : 2 ≤ i := by
        rcases Nat.lt_or_ge i 2 with h4 | h4
        · rw [Bd.bitOf_end Q h4] at hbk
          have := hQ.few
          omega
        · exact h4
      obtain ⟨_, _, l, h, c0, c1⟩ := half_of hQ h2 hi
      cases b
      · exact ⟨(Q.getD (i - 2) (0, 0, 0)).2.1, by omega, by rw [c0, hbk]⟩
      · exact ⟨(Q.getD (i - 2) (0, 0, 0)).2.2, by omega, by rw [c1, hbk]⟩
  en := A.en
  all k f hk h := A.all k f hk h.1

theorem den_few {bits M : Nat} {A : Bd.Fam bits M} {Q N : List Nd} {hQ : Bd.Okay bits Q} (hN : Bd.Okay bits N) (hW : Bd.Within (denFam A Q hQ) N) : N.length ≤ Q.length := by
  have ex : ∀ i, i < N.length → ∃ j, j < Q.length ∧ Bd.den N (i + 2) = Bd.den Q (j + 2) := by
    intro i hi
    obtain ⟨_, j, hj, e⟩ := hW i _ (List.getElem?_eq_getElem hi)
    rcases Nat.lt_or_ge j 2 with h | h
    · exfalso
      have : i + 2 = j := rel_end (L := Q) hN ⟨by omega, by omega, e.symm⟩ h
      omega
    · exact ⟨j - 2, by omega, by rw [e, show j - 2 + 2 = j by omega]⟩
  refine Bd.pigeon Q.length N.length (fun i => if h : i < N.length then (ex i h).choose else 0) (fun i hi => ?_) (fun i j hi hj he => ?_)
  · show (if h : i < N.length then (ex i h).choose else 0) < _
    rw [dif_pos hi]
    exact (ex i hi).choose_spec.1
  · have he' : (if h : i < N.length then (ex i h).choose else 0) = (if h : j < N.length then (ex j h).choose else 0) := he
    rw [dif_pos hi, dif_pos hj] at he'
    have e1 := (ex i hi).choose_spec.2
    have e2 := (ex j hj).choose_spec.2
    rw [he', ← e2] at e1
    have := Bd.canon hN (by omega) (by omega) e1
    omega
end Go.Proofs.Ytnkipdlfpnmgeaa
namespace Go.Proofs.Ytnkipdlfpnmgeaa
open Go.RowKit Go.Maps
open Bd (Nd)

theorem below_drewN {B : Nat} {a w : World} (h : Below B a w) (m : Nat) : Below B a (w.drewN m) := ⟨h.os, h.tape, h.output, h.size, h.block⟩

/-- A child of a node, as fits looks at it. -/
def Kid (w : World) (g n b to : Nat) : Prop := to < 2 ∨ ∃ c d : Nat, to = c + 2 ∧ c < n ∧ w.cell? ⟨g, c * 3, none⟩ = some (.int .i64 d) ∧ b < d
theorem Kid.any {w : World} {g n b to : Nat} (h : Kid w g n b to) (hg : g < w.heap.size) : to < 2 ∨ ∃ c d : Nat, to = c + 2 ∧ c < n ∧ (∀ o, (w.alloc o).cell? ⟨g, c * 3, none⟩ = some (.int .i64 d)) ∧ b < d := by
  rcases h with h | ⟨c, d, h1, h2, h3, h4⟩
  · exact Or.inl h
  · exact Or.inr ⟨c, d, h1, h2, fun o => by rw [World.cell?_of_block (heap_alloc_old w o hg)]; exact h3, h4⟩

set_option maxRecDepth 4000 in
set_option maxHeartbeats 2000000 in
theorem fits_ok (w : World) (g cap n i bits : Nat) (x : Nd) (hg : g < w.heap.size) (hi : i < n) (hn : n ≤ 1073741826) (hx0 : w.cell? ⟨g, i * 3, none⟩ = some (.int .i64 x.1)) (hx1 : w.cell? ⟨g, i * 3 + 1, none⟩ = some (.int .i64 x.2.1)) (hx2 : w.cell? ⟨g, i * 3 + 2, none⟩ = some (.int .i64 x.2.2))
    (hb : x.1 < bits) (hne : x.2.1 ≠ x.2.2) (hl : x.2.1 < i + 2) (hh : x.2.2 < i + 2) (kl : Kid w g n x.1 x.2.1) (kh : Kid w g n x.1 x.2.2) :
    Calls Try.prog 90 #[.slice (some ⟨g, 0, none⟩) n cap, .int .i64 i, .int .i64 bits] w fun e w' => e = .returned (.bool true) ∧ Below w.heap.size w w' := by
  have kl' := kl.any hg
  have kh' := kh.any hg
  obtain ⟨b, lo, hi'⟩ := x
  simp only at hx0 hx1 hx2 hb hne hl hh kl' kh'
  have HB : Hid (∀ o, Below w.heap.size w (w.alloc o)) := fun o => (Below.refl _ _).alloc (Nat.le_refl _) o
  have hiI : (i : Int) < (n : Int) := by omega
  have hi0 : (0 : Int) ≤ (i : Int) := by omega
  have hbI : (b : Int) < (bits : Int) := by omega
  have hb0 : ¬ (b : Int) < 0 := by omega
  have hbge : ¬ (bits : Int) ≤ (b : Int) := by omega
  have hneI : ((lo : Int) == (hi' : Int)) = false := by rw [beq_eq_false_iff_ne]; intro h; exact hne (Int.ofNat_inj.1 h)
  have hlI : (lo : Int) < (i : Int) + 2 := by omega
  have hhI : (hi' : Int) < (i : Int) + 2 := by omega
  have hnI : (n : Int) ≤ 1073741826 := by omega
  have ix0 : ∀ (a b : Value) (w : World), (Instr.index 161 (.agg #[a, b]) (.int .i64 0)).run Try.prog w = .ok a w := fun _ _ _ => by kernel_rfl
  have ix1 : ∀ (a b : Value) (w : World), (Instr.index 161 (.agg #[a, b]) (.int .i64 1)).run Try.prog w = .ok b w := fun _ _ _ => by kernel_rfl
  have wl : (((2 : Int) ≤ (lo : Int)) = False ∧ ((lo : Int) < 0) = False ∧ ((i : Int) + 2 ≤ (lo : Int)) = False) ∨ ∃ c d : Nat, (lo : Int) = (c : Int) + 2 ∧ (c : Int) < (n : Int) ∧ c < n ∧ (2 : Int) ≤ (c : Int) + 2 ∧ ¬ (c : Int) + 2 < 0 ∧ (∀ o, (w.alloc o).cell? ⟨g, c * 3, none⟩ = some (.int .i64 d)) ∧ ¬ (d : Int) ≤ (b : Int) := by
    rcases kl' with k | ⟨c, d, h1, h2, h3, h4⟩
    · exact Or.inl ⟨eq_false (by omega), eq_false (by omega), eq_false (by omega)⟩
    · exact Or.inr ⟨c, d, by omega, by omega, h2, by omega, by omega, h3, by omega⟩
  have wh : (((2 : Int) ≤ (hi' : Int)) = False ∧ ((hi' : Int) < 0) = False ∧ ((i : Int) + 2 ≤ (hi' : Int)) = False) ∨ ∃ c d : Nat, (hi' : Int) = (c : Int) + 2 ∧ (c : Int) < (n : Int) ∧ c < n ∧ (2 : Int) ≤ (c : Int) + 2 ∧ ¬ (c : Int) + 2 < 0 ∧ (∀ o, (w.alloc o).cell? ⟨g, c * 3, none⟩ = some (.int .i64 d)) ∧ ¬ (d : Int) ≤ (b : Int) := by
    rcases kh' with k | ⟨c, d, h1, h2, h3, h4⟩
    · exact Or.inl ⟨eq_false (by omega), eq_false (by omega), eq_false (by omega)⟩
    · exact Or.inr ⟨c, d, by omega, by omega, h2, by omega, by omega, h3, by omega⟩
  generalize (lo : Int) = lo at *
  generalize (hi' : Int) = hi' at *
  clear hg hi hn hb hne hl hh kl kh kl' kh'
  rcases wl with ⟨l1, l2, l3⟩ | ⟨c, d, rfl, l1, l2, l5, l6, l3, l4⟩ <;> rcases wh with ⟨r1, r2, r3⟩ | ⟨c', d', rfl, r1, r2, r5, r6, r3, r4⟩
  all_goals (
    go_enter Try.func90, Try.ntmps90
    go_wp2
    refine wp_loop_rounds 3 ?_
    rw [rounds_succ]
    go_wp2
    go_quiet (fail)
    go_wp2
    rw [rounds_succ]
    go_wp2
    go_quiet (fail)
    go_wp2
    rw [rounds_succ]
    go_wp2
    go_ret
    exact ⟨rfl, below_drewN (HB.out _) _⟩)
end Go.Proofs.Ytnkipdlfpnmgeaa
namespace Go.Proofs.Ytnkipdlfpnmgeaa
open Go.RowKit Go.Maps
open Bd (Nd)

def letB (t : ByteArray) (bits : Nat) : Bool := decide (t.size = bits) && t.data.toList.all Cu.sym
theorem all_take_succ {l : List UInt8} {j : Nat} {c : UInt8} (h : l[j]? = some c) : (l.take (j + 1)).all Cu.sym = ((l.take j).all Cu.sym && Cu.sym c) := by
  rw [List.take_add_one, h]
  simp
theorem all_false {l : List UInt8} {j : Nat} {c : UInt8} (h : l[j]? = some c) (hc : Cu.sym c = false) : l.all Cu.sym = false := by
  rw [Bool.eq_false_iff]
  intro ha
  have := List.all_eq_true.1 ha c (List.mem_of_getElem? h)
  rw [hc] at this
  cases this
theorem u8_ne {c : UInt8} {n : Nat} (hn : n < 256) (h : c ≠ UInt8.ofNat n) : ((c.toNat : Int) == (n : Int)) = false := by
  rw [beq_eq_false_iff_ne]
  intro e
  apply h
  apply UInt8.toNat.inj
  rw [UInt8.toNat_ofNat']
  omega

set_option maxRecDepth 2000 in
set_option maxHeartbeats 2000000 in
theorem qletters_any (t : ByteArray) (bits : Nat) (w : World) (ht : t.size ≤ maxLen) : Calls Try.prog 49 #[.string t, .int .i64 bits, .string ⟨#[48, 49, 120]⟩] w fun e w' => e = .returned (.bool (letB t bits)) ∧ Below w.heap.size w w' := by
  unfold maxLen at ht
  by_cases hs : t.size = bits
  · have hne : ((t.size : Int) != (bits : Int)) = false := by rw [hs]; simp
    have HS := keep hs
    clear hs
    have z0 : ((⟨#[48, 49, 120]⟩ : ByteArray)[0]'(by decide)).toNat = 48 := rfl
    have z1 : ((⟨#[48, 49, 120]⟩ : ByteArray)[1]'(by decide)).toNat = 49 := rfl
    have z2 : ((⟨#[48, 49, 120]⟩ : ByteArray)[2]'(by decide)).toNat = 120 := rfl
    go_enter Try.func49, Try.ntmps49
    go_wp2
    go_loopw [7] (fun i wr => ∃ j : Nat, j ≤ t.size ∧ i = .int .i64 j ∧ Hid ((t.data.toList.take j).all Cu.sym = true) ∧ Hid (Below w.heap.size w wr)) (fun i _ => t.size - (intOf i).toNat)
    case atStart => exact ⟨0, Nat.zero_le _, rfl, rfl, Below.refl _ _⟩
    case round =>
      obtain ⟨j, hj, rfl, HA, HB⟩ := hrel
      by_cases hlt : j < t.size
      · have hg : t.data.toList[j]? = some (t[j]'hlt) := by
          rw [List.getElem?_eq_getElem (by simpa using hlt)]
          rfl
        have HG := keep hg
        clear hg
        have hjI : (j : Int) < (t.size : Int) := by omega
        have hj0 : (0 : Int) ≤ (j : Int) := by omega
        obtain ⟨c, hc⟩ : ∃ c, c = t[j]'hlt := ⟨_, rfl⟩
        have hct : (t[j]'hlt).toNat = c.toNat := by rw [hc]
        rw [← hc] at HG
        clear hc
        by_cases h48 : c = 48
        · have hcn : (c.toNat : Int) = 48 := by rw [h48]; rfl
          have HS2 : Hid ((t.data.toList.take (j + 1)).all Cu.sym = true) := by
            show _ = _
            rw [all_take_succ HG.out, HA.out, h48]; rfl
          clear h48
          go_wp2
          refine wp_loop_rounds 4 ?_
          rw [rounds_succ]
          go_wp2
          go_quiet (fail)
          go_wp2
          rw [rounds_succ]
          go_wp2
          go_quiet (fail)
          go_wp2
          rw [rounds_succ]
          go_wp2
          go_quiet (fail)
          go_wp2
          rw [rounds_succ]
          go_wp2
          go_roundw
          case rel => exact ⟨j + 1, by omega, by go_num, HS2, below_drewN HB.out _⟩
          case measure => simp [intOf]; omega
        · by_cases h49 : c = 49
          · have n0 : ((c.toNat : Int) == 48) = false := u8_ne (c := c) (n := 48) (by omega) h48
            have hcn : (c.toNat : Int) = 49 := by rw [h49]; rfl
            clear h48
            have HS2 : Hid ((t.data.toList.take (j + 1)).all Cu.sym = true) := by
              show _ = _
              rw [all_take_succ HG.out, HA.out, h49]; rfl
            clear h49
            go_wp2
            refine wp_loop_rounds 4 ?_
            rw [rounds_succ]
            go_wp2
            go_quiet (fail)
            go_wp2
            rw [rounds_succ]
            go_wp2
            go_quiet (fail)
            go_wp2
            rw [rounds_succ]
            go_wp2
            go_quiet (fail)
            go_wp2
            rw [rounds_succ]
            go_wp2
            go_roundw
            case rel => exact ⟨j + 1, by omega, by go_num, HS2, below_drewN HB.out _⟩
            case measure => simp [intOf]; omega
          · by_cases h120 : c = 120
            · have n0 : ((c.toNat : Int) == 48) = false := u8_ne (c := c) (n := 48) (by omega) h48
              have n1 : ((c.toNat : Int) == 49) = false := u8_ne (c := c) (n := 49) (by omega) h49
              have hcn : (c.toNat : Int) = 120 := by rw [h120]; rfl
              clear h48 h49
              have HS2 : Hid ((t.data.toList.take (j + 1)).all Cu.sym = true) := by
                show _ = _
                rw [all_take_succ HG.out, HA.out, h120]; rfl
              clear h120
              go_wp2
              refine wp_loop_rounds 4 ?_
              rw [rounds_succ]
              go_wp2
              go_quiet (fail)
              go_wp2
              rw [rounds_succ]
              go_wp2
              go_quiet (fail)
              go_wp2
              rw [rounds_succ]
              go_wp2
              go_quiet (fail)
              go_wp2
              rw [rounds_succ]
              go_wp2
              go_roundw
              case rel => exact ⟨j + 1, by omega, by go_num, HS2, below_drewN HB.out _⟩
              case measure => simp [intOf]; omega
            · have n0 : ((c.toNat : Int) == 48) = false := u8_ne (c := c) (n := 48) (by omega) h48
              have n1 : ((c.toNat : Int) == 49) = false := u8_ne (c := c) (n := 49) (by omega) h49
              have n2 : ((c.toNat : Int) == 120) = false := u8_ne (c := c) (n := 120) (by omega) h120
              have HF : Hid (letB t bits = false) := by
                show letB t bits = false
                unfold letB
                rw [all_false HG.out (by unfold Cu.sym; simp [h48, h49, h120])]
                simp
              clear h48 h49 h120
              go_wp2
              refine wp_loop_rounds 4 ?_
              rw [rounds_succ]
              go_wp2
              go_quiet (fail)
              go_wp2
              rw [rounds_succ]
              go_wp2
              go_quiet (fail)
              go_wp2
              rw [rounds_succ]
              go_wp2
              go_quiet (fail)
              go_wp2
              rw [rounds_succ]
              go_wp2

              go_ret
              exact ⟨by rw [HF.out]; rfl, below_drewN HB.out _⟩
      · have hjn : j = t.size := by omega
        subst hjn
        have HF : Hid (letB t bits = true) := by
          show letB t bits = true
          unfold letB
          have h := HA.out
          rw [List.take_of_length_le (by simp)] at h
          rw [h, decide_eq_true HS.out]; rfl
        go_wp2
        go_ret
        exact ⟨by rw [HF.out]; rfl, HB.out⟩
  · have hne : ((t.size : Int) != (bits : Int)) = true := by rw [bne_iff_ne]; omega
    have HL : Hid (letB t bits = false) := by show letB t bits = false; unfold letB; rw [decide_eq_false hs]; rfl
    clear hs
    go_enter Try.func49, Try.ntmps49
    go_wp2
    go_ret
    exact ⟨by rw [HL.out]; rfl, Below.refl _ _⟩
end Go.Proofs.Ytnkipdlfpnmgeaa
namespace Go.Proofs.Ytnkipdlfpnmgeaa
open Go.RowKit Go.Maps
open Bd (Nd)

theorem QGrew.chain {M : Nat} {s : QSt} {A : Bd.Fam s.bits M} {w w1 w2 : World} {y y1 : QLay} {N1 : List Nd} {r : Nat} {f : Bd.Fn} (hm : Touch y.own y1.own w w1) (htb : y1.tb = y.tb) (h : QGrew (s := s.grow N1) A w1 y1 w2 r f) : QGrew A w y s w2 r f := by
  obtain ⟨N2, y2, h1, h2, h3, h4, h5, h6⟩ := h.ex
  have e : (s.grow N1).L ++ N2 = s.L ++ (N1 ++ N2) := List.append_assoc _ _ _
  rw [e] at h2 h3 h4
  rw [QSt.grow_grow] at h1
  exact ⟨N1 ++ N2, y2, h1, h2, h3, h4, hm.trans h5, h6.trans htb⟩

/-- What a call that tells a function leaves: it is told, or too great. -/
structure QTells {bits M : Nat} (A : Bd.Fam bits M) (w : World) (y : QLay) (s : QSt) (f : Bd.Fn) (e : Ending) (w' : World) : Prop where
  ex : ∃ N y' r, Bd.Within A (s.L ++ N) ∧ r < (s.L ++ N).length + 2 ∧ Bd.den (s.L ++ N) r = f ∧ Touch y.own y'.own w w' ∧ y'.tb = y.tb ∧
    ((s.limit < cntB ((s.grow N).tell r).U ∧ e = .returned (.tuple #[.int .i64 0, .int .i64 20]) ∧ QTab w' y' (s.grow N)) ∨ (cntB ((s.grow N).tell r).U ≤ s.limit ∧ e = .returned (.tuple #[i6 r, .int .i64 0]) ∧ QTab w' y' ((s.grow N).tell r)))

theorem QGrew.tells {M : Nat} {s : QSt} {A : Bd.Fam s.bits M} {w w1 : World} {y : QLay} {r : Nat} {f : Bd.Fn} (h : QGrew A w y s w1 r f) : Calls Try.prog 51 #[.pointer (some ⟨y.tb, 0, none⟩), i6 r] w1 fun e w' => QTells A w y s f e w' := by
  obtain ⟨N, y1, h1, h2, h3, h4, h5, h6⟩ := h.ex
  have h := qtell_any h1 r h3
  rw [h6] at h
  refine h.mono ?_
  rintro e w' (⟨q1, rfl, q2⟩ | ⟨q1, rfl, y2, q2, q3, q4⟩)
  · exact ⟨N, y1, r, h2, h3, h4, h5.trans (touch_below _ q2), h6, Or.inl ⟨q1, rfl, h1.below q2⟩⟩
  · exact ⟨N, y2, r, h2, h3, h4, h5.trans q3, q4, Or.inr ⟨q1, rfl, q2⟩⟩

/-- A call's answer is that of its last one. -/
theorem QTells.form {bits M : Nat} {A : Bd.Fam bits M} {w w' : World} {y : QLay} {s : QSt} {f : Bd.Fn} {e : Ending} (h : QTells A w y s f e w') : ∃ a b : Int, e = .returned (.tuple #[.int .i64 a, .int .i64 b]) ∧ QTells A w y s f (.returned (.tuple #[.int .i64 a, .int .i64 b])) w' := by
  obtain ⟨N, y', r, h1, h2, h3, h4, h5, (⟨q1, rfl, q2⟩ | ⟨q1, rfl, q2⟩)⟩ := h.ex
  · exact ⟨0, 20, rfl, h⟩
  · exact ⟨r, 0, rfl, h⟩

set_option maxHeartbeats 1000000 in
theorem qcube_bad {w : World} {y : QLay} {s : QSt} (hT : QTab w y s) (t : ByteArray) (ht : t.size ≤ maxLen) (hl : letB t s.bits = false) :
    Calls Try.prog 23 #[.pointer (some ⟨y.tb, 0, none⟩), .string t] w fun e w' => e = .returned (.tuple #[.int .i64 0, .int .i64 21]) ∧ Below w.heap.size w w' := by
  have c0 := hT.cell0
  have q := qletters_any t s.bits w ht
  rw [hl] at q
  have Q := keep q
  clear hT q hl
  go_enter Try.func23, Try.ntmps23
  go_wp2_with fail
  refine Q.out.mono ?_
  rintro e w1 ⟨rfl, hb⟩
  have HB := keep hb
  clear hb
  go_wp2
  go_ret2
  exact ⟨rfl, HB.out⟩

set_option maxHeartbeats 2000000 in
theorem qcube_ok {M : Nat} {w : World} {y : QLay} {s : QSt} (A : Bd.Fam s.bits M) (hT : QTab w y s) (hW : Bd.Within A s.L) (hbM : s.bits * M ≤ 1048576) (t : ByteArray) (hl : letB t s.bits = true) (hF : A.F 0 (suf t 0)) :
    Calls Try.prog 23 #[.pointer (some ⟨y.tb, 0, none⟩), .string t] w fun e w' => QTells A w y s (suf t 0) e w' := by
  have hf128 := hT.okay.few
  have ht : t.size = s.bits := by unfold letB at hl; simp at hl; exact hl.1
  have hsuf := suf_fam (A := A) (by omega) hF
  have H : Hid (∀ (k r : Nat) (wr : World), k < t.size → QGrew A w y s wr r (suf t (k + 1)) → (t.data.toList.getD k 0 = 48 → Calls Try.prog 50 #[.pointer (some ⟨y.tb, 0, none⟩), i6 k, i6 r, i6 0] wr fun e w' => ∃ r', e = .returned (i6 r') ∧ Hid (QGrew A w y s w' r' (suf t k))) ∧
      (t.data.toList.getD k 0 = 49 → Calls Try.prog 50 #[.pointer (some ⟨y.tb, 0, none⟩), i6 k, i6 0, i6 r] wr fun e w' => ∃ r', e = .returned (i6 r') ∧ Hid (QGrew A w y s w' r' (suf t k))) ∧
      (t.data.toList.getD k 0 ≠ 48 → t.data.toList.getD k 0 ≠ 49 → QGrew A w y s wr r (suf t k))) := by
    intro k r wr hk hG
    obtain ⟨N, y1, t1, wi1, hr1, d1, m1, tb1⟩ := hG.ex
    have hlen : (0 : Nat) < (s.L ++ N).length + 2 := by omega
    have hkb : k < s.bits := by omega
    have hb1 : k < Bd.bitOf (s.L ++ N) r := by
      have := Bd.bit_ge t1.okay (r := r) (k := k + 1) hr1 (by show Bd.From (k + 1) (Bd.den (s.L ++ N) r); rw [d1]; exact suf_from _ _) (by omega)
      exact this
    have hb0 : k < Bd.bitOf (s.L ++ N) 0 := by rw [Bd.bitOf_end _ (by omega)]; omega
    refine ⟨fun h0 => ?_, fun h0 => ?_, fun h0 h1 => ?_⟩
    · have h := qnode_any (s := s.grow N) A t1 wi1 hbM k r 0 hkb hr1 hlen hb1 hb0 (by
        show A.F k (Bd.mux k (Bd.den (s.L ++ N) r) (Bd.den (s.L ++ N) 0))
        rw [d1, Bd.den_zero, ← suf_zero hk h0]; exact hsuf k (by omega))
      rw [tb1] at h
      refine h.mono ?_
      rintro e w' ⟨r', rfl, hg⟩
      refine ⟨r', rfl, QGrew.chain (N1 := N) m1 tb1 ?_⟩
      have e : Bd.mux k (Bd.den (s.L ++ N) r) (Bd.den (s.L ++ N) 0) = suf t k := by rw [d1, Bd.den_zero, ← suf_zero hk h0]
      rw [← e]; exact hg
    · have h := qnode_any (s := s.grow N) A t1 wi1 hbM k 0 r hkb hlen hr1 hb0 hb1 (by
        show A.F k (Bd.mux k (Bd.den (s.L ++ N) 0) (Bd.den (s.L ++ N) r))
        rw [d1, Bd.den_zero, ← suf_one hk h0]; exact hsuf k (by omega))
      rw [tb1] at h
      refine h.mono ?_
      rintro e w' ⟨r', rfl, hg⟩
      refine ⟨r', rfl, QGrew.chain (N1 := N) m1 tb1 ?_⟩
      have e : Bd.mux k (Bd.den (s.L ++ N) 0) (Bd.den (s.L ++ N) r) = suf t k := by rw [d1, Bd.den_zero, ← suf_one hk h0]
      rw [← e]; exact hg
    · rw [suf_free h0 h1]; exact hG
  have c0 := hT.cell0
  have q := qletters_any t s.bits w (by unfold maxLen; omega)
  rw [hl] at q
  have Q := keep q
  have H0 : Hid (∀ w1, Below w.heap.size w w1 → QGrew A w y s w1 1 (suf t t.size)) := fun w1 hb => QGrew.same hT hW (by omega) (by rw [Bd.den_one, suf_end]) hb
  have hsz : t.size ≤ 128 := by omega
  have hszI : (t.size : Int) ≤ 128 := by omega
  clear hT hW ht hF hsuf hf128 q hl
  go_enter Try.func23, Try.ntmps23
  go_wp2_with fail
  refine Q.out.mono ?_
  rintro e w1 ⟨rfl, hb1⟩
  have HB1 := keep hb1
  clear hb1
  go_wp2_with fail
  go_loopw [6, 7] (fun u i wr => ∃ k r : Nat, k ≤ t.size ∧ u = .int .i64 r ∧ i = .int .i64 ((k : Int) - 1) ∧ Hid (QGrew A w y s wr r (suf t k))) (fun _ i _ => ((intOf i) + 1).toNat)
  case atStart => exact ⟨t.size, 1, Nat.le_refl _, rfl, rfl, H0.out w1 HB1.out⟩
  case round =>
    obtain ⟨k, r, hk, rfl, rfl, hG⟩ := hrel
    cases k with
    | zero =>
      have HC := keep (QGrew.tells hG.out)
      go_wp2_with fail
      refine HC.out.mono ?_
      intro e w' hq
      obtain ⟨x, z, rfl, hq'⟩ := hq.form
      have HQ := keep hq'
      clear hq hq'
      go_wp2
      go_ret2
      exact HQ.out
    | succ k =>
      have e1 : ((k + 1 : Nat) : Int) - 1 = (k : Int) := by omega
      rw [e1]
      have hkI : (k : Int) < (t.size : Int) := by omega
      have hk0 : (0 : Int) ≤ (k : Int) := by omega
      have HK := keep (H.out k r wr (by omega) hG)
      clear hG e1
      have hl : k < t.size := by omega
      have hg : t.data.toList.getD k 0 = t[k]'hl := by
        rw [List.getD_eq_getElem?_getD, List.getElem?_eq_getElem (by simpa using hl)]
        rfl
      by_cases h48 : t.data.toList.getD k 0 = 48
      · have hcn : ((t[k]'hl).toNat : Int) = 48 := by rw [← hg, h48]; rfl
        clear hg
        go_wp2_with (first | (go_at_call 50; refine (HK.out.1 h48).mono ?_; rintro e w' ⟨r', rfl, hG'⟩))
        go_roundw
        case rel => exact ⟨k, r', by omega, rfl, rfl, hG'⟩
        case measure => simp [intOf]
      · by_cases h49 : t.data.toList.getD k 0 = 49
        · have hcn : ((t[k]'hl).toNat : Int) = 49 := by rw [← hg, h49]; rfl
          clear hg
          go_wp2_with (first | (go_at_call 50; refine (HK.out.2.1 h49).mono ?_; rintro e w' ⟨r', rfl, hG'⟩))
          go_roundw
          case rel => exact ⟨k, r', by omega, rfl, rfl, hG'⟩
          case measure => simp [intOf]
        · have n1 : (((t[k]'hl).toNat : Int) == 48) = false := by
            rw [beq_eq_false_iff_ne]; intro h; exact h48 (by rw [hg]; exact UInt8.toNat.inj (by simp; omega))
          have n2 : (((t[k]'hl).toNat : Int) == 49) = false := by
            rw [beq_eq_false_iff_ne]; intro h; exact h49 (by rw [hg]; exact UInt8.toNat.inj (by simp; omega))
          have HG := keep (HK.out.2.2 h48 h49)
          clear hg
          go_wp2_with fail
          go_roundw
          case rel => exact ⟨k, r, by omega, rfl, rfl, HG.out⟩
          case measure => simp [intOf]
end Go.Proofs.Ytnkipdlfpnmgeaa
namespace Go.Proofs.Ytnkipdlfpnmgeaa
open Go.RowKit Go.Maps
open Bd (Nd)

/-- Three numbers, and what came of them. -/
abbrev Dn := Nat × Nat × Nat × Nat
def dones (D : List Dn) : List Value := D.flatMap fun d => [i6 d.1, i6 d.2.1, i6 d.2.2.1, i6 d.2.2.2]
theorem dones_snoc (D : List Dn) (d : Dn) : dones (D ++ [d]) = dones D ++ [i6 d.1, i6 d.2.1, i6 d.2.2.1, i6 d.2.2.2] := by simp [dones]
theorem dones_length (D : List Dn) : (dones D).length = D.length * 4 := by
  induction D with
  | nil => rfl
  | cons x l ih => simp [dones] at ih ⊢; omega
theorem dones_at {D : List Dn} {i : Nat} {d : Dn} (h : D[i]? = some d) : (dones D)[i * 4]? = some (i6 d.1) ∧ (dones D)[i * 4 + 1]? = some (i6 d.2.1) ∧ (dones D)[i * 4 + 2]? = some (i6 d.2.2.1) ∧ (dones D)[i * 4 + 3]? = some (i6 d.2.2.2) := by
  induction D generalizing i with
  | nil => simp at h
  | cons y l ih =>
    cases i with
    | zero => simp at h; subst h; simp [dones]
    | succ i =>
      have := ih (i := i) (by simpa using h)
      have e : ∀ j, (dones (y :: l))[(i + 1) * 4 + j]? = (dones l)[i * 4 + j]? := by
        intro j
        have : (i + 1) * 4 + j = (i * 4 + j) + 4 := by omega
        rw [this]
        simp [dones]
      exact ⟨by rw [← Nat.add_zero ((i + 1) * 4), e]; exact this.1, by rw [e]; exact this.2.1, by rw [e]; exact this.2.2.1, by rw [e]; exact this.2.2.2⟩

structure MemoAt (w : World) (mb : Nat) (mv : Value) (D : List Dn) : Prop where
  cell : w.heap[mb]? = some (.cells #[mv] 105 (0, 0))
  row : w.ownsRow 0 138 4 mv D.length (dones D)
def keyD (d : Dn) : Nat × Nat × Nat := (d.1, d.2.1, d.2.2.1)
structure MemoOk (L : List Nd) (D : List Dn) : Prop where
  nd : (D.map keyD).Nodup
  fit : ∀ d, d ∈ D → d.1 < L.length + 2 ∧ d.2.1 < L.length + 2 ∧ d.2.2.1 < L.length + 2 ∧ d.2.2.2 < L.length + 2 ∧ (d.2.1 < 2 ∨ d.2.2.1 < 2) ∧ Bd.den L d.2.2.2 = Bd.iteF (Bd.den L d.1) (Bd.den L d.2.1) (Bd.den L d.2.2.1)
/-- Entries that hang on no bit ahead of kk. -/
def Late (L : List Nd) (kk : Nat) (E : List Dn) : Prop := ∀ d, d ∈ E → kk ≤ Bd.bitOf L d.1 ∧ kk ≤ Bd.bitOf L d.2.1 ∧ kk ≤ Bd.bitOf L d.2.2.1

section
variable {w w' : World} {mb : Nat} {mv : Value} {D E : List Dn} {L N : List Nd}
theorem MemoOk.nil (L : List Nd) : MemoOk L [] := ⟨List.nodup_nil, fun d h => by simp at h⟩
theorem MemoOk.grow (h : MemoOk L D) (N : List Nd) : MemoOk (L ++ N) D := by
  refine ⟨h.nd, fun d hd => ?_⟩
  obtain ⟨h1, h2, h3, h4, h5, h6⟩ := h.fit d hd
  have e : (L ++ N).length = L.length + N.length := List.length_append
  refine ⟨by omega, by omega, by omega, by omega, h5, ?_⟩
  rw [Bd.den_append_old _ _ h4, Bd.den_append_old _ _ h1, Bd.den_append_old _ _ h2, Bd.den_append_old _ _ h3]
  exact h6
theorem Late.grow {kk : Nat} (h : Late L kk E) (hk : ∀ d, d ∈ E → d.1 < L.length + 2 ∧ d.2.1 < L.length + 2 ∧ d.2.2.1 < L.length + 2) (N : List Nd) : Late (L ++ N) kk E := fun d hd => by
  obtain ⟨h1, h2, h3⟩ := hk d hd
  rw [Bd.bitOf_old _ _ h1, Bd.bitOf_old _ _ h2, Bd.bitOf_old _ _ h3]
  exact h d hd
theorem Late.mono {kk k : Nat} (h : Late L k E) (hk : kk ≤ k) : Late L kk E := fun d hd => ⟨Nat.le_trans hk (h d hd).1, Nat.le_trans hk (h d hd).2.1, Nat.le_trans hk (h d hd).2.2⟩
theorem MemoAt.lt (h : MemoAt w mb mv D) : mb < w.heap.size ∧ ∀ g, mv.ownBlock = some g → g < w.heap.size := ⟨block_lt h.cell, fun g hg => (h.row.lt g hg).2⟩
theorem MemoAt.same (h : MemoAt w mb mv D) (h1 : w'.heap[mb]? = w.heap[mb]?) (h2 : ∀ g, mv.ownBlock = some g → w'.heap[g]? = w.heap[g]?) : MemoAt w' mb mv D := ⟨h1.trans h.cell, row_same h.row h2⟩
theorem MemoAt.below (h : MemoAt w mb mv D) (hb : Below w.heap.size w w') : MemoAt w' mb mv D := h.same (hb.block _ h.lt.1) (fun g hg => hb.block _ (h.lt.2 g hg))
theorem MemoAt.apart (h : MemoAt w mb mv D) : mv.ownBlock ≠ some mb := fun e => by obtain ⟨cur, hc⟩ := owned_cells h.row e; rw [h.cell] at hc; simp at hc
/-- A memo is no part of a table. -/
theorem MemoAt.far (h : MemoAt w mb mv D) {y : QLay} {s : QSt} (hT : QTab w y s) : ¬ y.own mb ∧ ∀ g, mv.ownBlock = some g → ¬ y.own g := by
  refine ⟨fun ho => ?_, fun g hg ho => ?_⟩
  · obtain ⟨cur, t, hc, ht⟩ := hT.kind ho
    rw [h.cell] at hc
    rcases ht with rfl | rfl | rfl <;> simp at hc
  · obtain ⟨cur, t, hc, ht⟩ := hT.kind ho
    obtain ⟨cur', hc'⟩ := owned_cells h.row hg
    rw [hc] at hc'
    rcases ht with rfl | rfl | rfl <;> simp at hc'
theorem MemoAt.done (h : MemoAt w mb mv D) {i : Nat} {d : Dn} (hx : D[i]? = some d) :
    ∃ g cap, mv = .slice (some ⟨g, 0, none⟩) D.length cap ∧ w.cell? ⟨g, i * 4, none⟩ = some (.int .i64 d.1) ∧ w.cell? ⟨g, i * 4 + 1, none⟩ = some (.int .i64 d.2.1) ∧ w.cell? ⟨g, i * 4 + 2, none⟩ = some (.int .i64 d.2.2.1) ∧ w.cell? ⟨g, i * 4 + 3, none⟩ = some (.int .i64 d.2.2.2) := by
  have hi := Bd.getElem?_lt hx
  obtain ⟨g, cap, hv, _, _⟩ := h.row.form (by omega)
  have hl := h.row
  rw [hv] at hl
  have hadd : ∀ j, (⟨g, 0, none⟩ : Addr).add j = ⟨g, j, none⟩ := by intro j; unfold Addr.add; split <;> simp_all
  obtain ⟨f0, f1, f2, f3⟩ := dones_at hx
  have d0 := hl.cells rfl _ _ f0
  have d1 := hl.cells rfl _ _ f1
  have d2 := hl.cells rfl _ _ f2
  have d3 := hl.cells rfl _ _ f3
  rw [hadd] at d0 d1 d2 d3
  exact ⟨g, cap, hv, d0, d1, d2, d3⟩
/-- A number for three. -/
def numD (P : Nat) (d : Nat × Nat × Nat) : Nat := if d.2.1 < 2 then (d.2.1 * P + d.1) * P + d.2.2 else ((2 + d.2.2) * P + d.1) * P + d.2.1
theorem numD_lt {P : Nat} {d : Nat × Nat × Nat} (h1 : d.1 < P) (h2 : d.2.1 < P) (h3 : d.2.2 < P) (h : d.2.1 < 2 ∨ d.2.2 < 2) : numD P d < 4 * P * P := by
  have key : ∀ q x z, q < 4 → x < P → z < P → (q * P + x) * P + z < 4 * P * P := by
    intro q x z hq hx hz
    have e1 : q * P ≤ 3 * P := Nat.mul_le_mul_right _ (by omega)
    have e2 : (q * P + x + 1) * P ≤ (4 * P) * P := Nat.mul_le_mul_right _ (by omega)
    rw [Nat.add_mul] at e2
    omega
  unfold numD
  split
  · exact key _ _ _ (by omega) h1 h3
  · exact key _ _ _ (by omega) h1 h2
theorem numD_inj {P : Nat} {d e : Nat × Nat × Nat} (h1 : d.1 < P) (h2 : d.2.1 < P) (h3 : d.2.2 < P) (h1' : e.1 < P) (h2' : e.2.1 < P) (h3' : e.2.2 < P) (h : numD P d = numD P e) : d = e := by
  obtain ⟨a, b, c⟩ := d
  obtain ⟨a', b', c'⟩ := e
  simp only at h1 h2 h3 h1' h2' h3'
  unfold numD at h
  simp only at h
  split at h <;> split at h
  · obtain ⟨e1, e2⟩ := Bd.mul_add_inj h3 h3' h
    obtain ⟨e3, e4⟩ := Bd.mul_add_inj h1 h1' e1
    rw [e2, e3, e4]
  · obtain ⟨e1, e2⟩ := Bd.mul_add_inj h3 h2' h
    obtain ⟨e3, e4⟩ := Bd.mul_add_inj h1 h1' e1
    omega
  · obtain ⟨e1, e2⟩ := Bd.mul_add_inj h2 h3' h
    obtain ⟨e3, e4⟩ := Bd.mul_add_inj h1 h1' e1
    omega
  · obtain ⟨e1, e2⟩ := Bd.mul_add_inj h2 h2' h
    obtain ⟨e3, e4⟩ := Bd.mul_add_inj h1 h1' e1
    have : c = c' := by omega
    rw [e2, this, e4]
theorem MemoOk.few (h : MemoOk L D) (hL : L.length ≤ 524288) : D.length ≤ 1099520016400 := by
  have := Bd.pigeon (4 * (L.length + 2) * (L.length + 2)) D.length (fun i => numD (L.length + 2) (keyD (D.getD i (0, 0, 0, 0)))) ?_ ?_
  · have e : 4 * (L.length + 2) * (L.length + 2) ≤ 4 * 524290 * 524290 := Nat.mul_le_mul (by omega) (by omega)
    omega
  · intro i hi
    have hd : D.getD i (0, 0, 0, 0) ∈ D := by rw [List.getD_eq_getElem?_getD, List.getElem?_eq_getElem hi]; exact List.getElem_mem hi
    obtain ⟨h1, h2, h3, h4, h5, h6⟩ := h.fit _ hd
    exact numD_lt h1 h2 h3 h5
  · intro i j hi hj e
    have hd : D.getD i (0, 0, 0, 0) = D[i] := by rw [List.getD_eq_getElem?_getD, List.getElem?_eq_getElem hi]; rfl
    have hd' : D.getD j (0, 0, 0, 0) = D[j] := by rw [List.getD_eq_getElem?_getD, List.getElem?_eq_getElem hj]; rfl
    have e' : numD (L.length + 2) (keyD (D.getD i (0, 0, 0, 0))) = numD (L.length + 2) (keyD (D.getD j (0, 0, 0, 0))) := e
    rw [hd, hd'] at e'
    obtain ⟨h1, h2, h3, h4, h5, h6⟩ := h.fit _ (List.getElem_mem hi)
    obtain ⟨h1', h2', h3', h4', h5', h6'⟩ := h.fit _ (List.getElem_mem hj)
    have ek := numD_inj h1 h2 h3 h1' h2' h3' e'
    have hn := h.nd
    have a1 : (D.map keyD)[i]? = (D.map keyD)[j]? := by rw [List.getElem?_map, List.getElem?_map, List.getElem?_eq_getElem hi, List.getElem?_eq_getElem hj]; simp [ek]
    exact (List.getElem?_inj (by simpa using hi) hn).1 a1
theorem MemoOk.put (h : MemoOk L D) {a b c r : Nat} (ha : a < L.length + 2) (hb : b < L.length + 2) (hc : c < L.length + 2) (hr : r < L.length + 2) (h2 : b < 2 ∨ c < 2) (hd : Bd.den L r = Bd.iteF (Bd.den L a) (Bd.den L b) (Bd.den L c)) (hn : ∀ d, d ∈ D → keyD d ≠ (a, b, c)) : MemoOk L (D ++ [(a, b, c, r)]) := by
  refine ⟨?_, fun d hd' => ?_⟩
  · rw [List.map_append, List.nodup_append]
    refine ⟨h.nd, by simp, fun x hx z hz => ?_⟩
    simp at hz
    subst hz
    obtain ⟨d, hd1, rfl⟩ := List.mem_map.1 hx
    exact hn d hd1
  · rcases List.mem_append.1 hd' with e | e
    · exact h.fit d e
    · simp at e
      subst e
      exact ⟨ha, hb, hc, hr, h2, hd⟩
end

def iown (y : QLay) (mb : Nat) (mv : Value) (k : Nat) : Prop := y.own k ∨ (k = mb ∨ mv.ownBlock = some k)
/-- What ite leaves. -/
structure QIteGot {bits M : Nat} (A : Bd.Fam bits M) (w : World) (y : QLay) (s : QSt) (mb : Nat) (mv : Value) (D : List Dn) (kk : Nat) (w' : World) (r : Nat) (f : Bd.Fn) : Prop where
  ex : ∃ N y' mv' E, QTab w' y' (s.grow N) ∧ Bd.Within A (s.L ++ N) ∧ r < (s.L ++ N).length + 2 ∧ Bd.den (s.L ++ N) r = f ∧ MemoAt w' mb mv' (D ++ E) ∧ MemoOk (s.L ++ N) (D ++ E) ∧ Late (s.L ++ N) kk E ∧ Touch (iown y mb mv) (iown y' mb mv') w w' ∧ y'.tb = y.tb
theorem QIteGot.same {bits M : Nat} {A : Bd.Fam bits M} {w w' : World} {y : QLay} {s : QSt} {mb : Nat} {mv : Value} {D : List Dn} {kk r : Nat} {f : Bd.Fn} (hT : QTab w y s) (hW : Bd.Within A s.L) (hM : MemoAt w mb mv D) (hK : MemoOk s.L D) (hr : r < s.L.length + 2) (hf : Bd.den s.L r = f) (hb : Below w.heap.size w w') : QIteGot A w y s mb mv D kk w' r f := by
  refine ⟨[], y, mv, [], ?_, ?_, ?_, ?_, ?_, ?_, fun d h => by simp at h, touch_below _ hb, rfl⟩
  · rw [QSt.grow_nil]; exact hT.below hb
  · rw [List.append_nil]; exact hW
  · rw [List.append_nil]; exact hr
  · rw [List.append_nil]; exact hf
  · rw [List.append_nil]; exact hM.below hb
  · rw [List.append_nil, List.append_nil]; exact hK
end Go.Proofs.Ytnkipdlfpnmgeaa
