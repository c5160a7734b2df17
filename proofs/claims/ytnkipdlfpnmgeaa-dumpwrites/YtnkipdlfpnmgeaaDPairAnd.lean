/-
  dump: Bits, made, size, put: a number behind bytes.
  made: both tables, at any limit.
  made: a table, and the document's, with the headers that some cubes have together.
  made's loop at any limit.
  A call on the program's table, and the same one on the document's: both tell a function, or neither has room.
  The program's table beside the document's: what made's loop leaves.
-/
import Derived.Test.YtnkipdlfpnmgeaaQIteTAnd
import Derived.Test.YtnkipdlfpnmgeaaBCubesAAnd
import Derived.Test.YtnkipdlfpnmgeaaBBadAnd
import Derived.Test.YtnkipdlfpnmgeaaQReadAnd
import Derived.Test.YtnkipdlfpnmgeaaBDropAAnd
import Derived.Test.YtnkipdlfpnmgeaaBFoldAAnd
import Derived.Test.YtnkipdlfpnmgeaaBBuildAnd
namespace Go.Proofs.Ytnkipdlfpnmgeaa
open Go.RowKit Go.Maps
open Bd (Nd ff tt iteF)

/-- The function of the first k texts: those that are cubes of so many bits. -/
def madeF (nb : Nat) (ss : List ByteArray) : Nat → Bd.Fn
  | 0 => ff
  | k + 1 => if letB (ss.getD k ByteArray.empty) nb = true then iteF (madeF nb ss k) tt (suf (ss.getD k ByteArray.empty) 0) else madeF nb ss k
theorem madeF_succ (nb : Nat) (ss : List ByteArray) (k : Nat) : madeF nb ss (k + 1) = if letB (ss.getD k ByteArray.empty) nb = true then iteF (madeF nb ss k) tt (suf (ss.getD k ByteArray.empty) 0) else madeF nb ss k := rfl

/-- A family in which made's functions lie. -/
structure OrIn {nb M : Nat} (A : Bd.Fam nb M) (ss : List ByteArray) (n : Nat) : Prop where
  none : A.F 0 ff
  cube : ∀ i, i < n → letB (ss.getD i ByteArray.empty) nb = true → A.F 0 (suf (ss.getD i ByteArray.empty) 0)
  join : ∀ f g, A.F 0 f → A.F 0 g → A.F 0 (iteF f tt g)
theorem OrIn.made {nb M : Nat} {A : Bd.Fam nb M} {ss : List ByteArray} {n : Nat} (h : OrIn A ss n) : ∀ k, k ≤ n → A.F 0 (madeF nb ss k) := by
  intro k
  induction k with
  | zero => intro _; exact h.none
  | succ k ih =>
    intro hk
    rw [madeF_succ]
    split
    · rename_i hl
      exact h.join _ _ (ih (by omega)) (h.cube k (by omega) hl)
    · exact ih (by omega)
theorem ite_or (f g : Bd.Fn) : iteF g tt f = iteF f tt g := by
  funext h
  unfold iteF tt
  cases f h <;> cases g h <;> rfl
theorem ite_or_ff (f : Bd.Fn) : iteF f tt ff = f := by
  funext h
  unfold iteF tt ff
  cases f h <;> rfl
theorem ite_ff_or (f : Bd.Fn) : iteF ff tt f = f := by
  funext h
  rfl

theorem letB_right {t : ByteArray} {nb : Nat} (h1 : 1 ≤ nb) (h2 : nb ≤ 128) (h : letB t nb = true) : t.size = nb ∧ Cu.right t.data.toList = true := by
  unfold letB at h
  simp only [Bool.and_eq_true, decide_eq_true_eq] at h
  refine ⟨h.1, ?_⟩
  unfold Cu.right
  have e : t.data.toList.length = t.size := rfl
  rw [h.2, e, h.1, decide_eq_true h1, decide_eq_true h2]; rfl
theorem letB_wrong {t : ByteArray} {nb : Nat} (h : letB t nb = false) : t.size ≠ nb ∨ (t.size = nb ∧ Cu.right t.data.toList = false) := by
  unfold letB at h
  by_cases e : t.size = nb
  · right
    refine ⟨e, ?_⟩
    rw [decide_eq_true e] at h
    unfold Cu.right
    have h' : t.data.toList.all Cu.sym = false := by simpa using h
    rw [h']; rfl
  · exact Or.inl e

/-- Behind k texts. -/
structure MadeAt {nb M : Nat} (A : Bd.Fam nb M) (lim : Nat) (W w : World) (tb qb K a b : Nat) (f : Bd.Fn) : Prop where
  ex : ∃ y L roots m yq LQ U T, y.tb = tb ∧ yq.tb = qb ∧ Tab w y ⟨L, roots, 2, nb, lim⟩ ∧ Bd.Within A L ∧ roots.length ≤ K ∧ QTab w yq ⟨LQ, U, T, nb, lim⟩ ∧ Bd.Within A LQ ∧ Below W.heap.size W w ∧ (∀ j, y.own j → W.heap.size ≤ j) ∧ (∀ j, yq.own j → W.heap.size ≤ j) ∧ (∀ j, y.own j → ¬ yq.own j) ∧
    (St.node? ⟨L, roots, 2, nb, lim⟩ a = some m ∧ m < L.length + 2 ∧ Bd.den L m = f) ∧ (QSt.has ⟨LQ, U, T, nb, lim⟩ b ∧ b < LQ.length + 2 ∧ Bd.den LQ b = f)

section
variable {nb M : Nat} {A : Bd.Fam nb M} {lim : Nat} {W w w' : World} {tb qb K a b : Nat} {f : Bd.Fn}
theorem MadeAt.below (h : MadeAt A lim W w tb qb K a b f) (hb : Below w.heap.size w w') : MadeAt A lim W w' tb qb K a b f := by
  obtain ⟨y, L, roots, m, yq, LQ, U, T, e1, e2, hT, hW, hK, hQ, hWQ, hB, hy, hyq, hd, hf, hq⟩ := h.ex
  exact ⟨y, L, roots, m, yq, LQ, U, T, e1, e2, hT.below hb, hW, hK, hQ.below hb, hWQ, hB.trans (hb.mono hB.size), hy, hyq, hd, hf, hq⟩
theorem MadeAt.out (h : MadeAt A lim W w tb qb K a b f) : Below W.heap.size W w := by
  obtain ⟨y, L, roots, m, yq, LQ, U, T, e1, e2, hT, hW, hK, hQ, hWQ, hB, hy, hyq, hd, hf, hq⟩ := h.ex
  exact hB
theorem has_grow {s : QSt} {r : Nat} (h : s.has r) (N : List Nd) : (s.grow N).has r := by
  rcases h with h | h
  · exact Or.inl h
  · right
    show (s.T ++ List.replicate N.length false)[r - 2]? = some true
    rw [List.getElem?_append_left (Bd.getElem?_lt h)]
    exact h
theorem has_tell {s : QSt} {r : Nat} (h : s.has r) (x : Nat) : (s.tell x).has r := by
  rcases h with h | h
  · exact Or.inl h
  · right
    show (if x < 2 then s.T else s.T.set (x - 2) true)[r - 2]? = some true
    split
    · exact h
    · rw [List.getElem?_set]
      split
      · rw [if_pos (by have := Bd.getElem?_lt h; omega)]
      · exact h
theorem has_told {s : QSt} {r : Nat} (h : r < s.L.length + 2) (hl : s.T.length = s.L.length) : (s.tell r).has r := by
  by_cases h2 : r < 2
  · exact Or.inl h2
  · right
    show (if r < 2 then s.T else s.T.set (r - 2) true)[r - 2]? = some true
    rw [if_neg h2, List.getElem?_set, if_pos rfl, if_pos (by omega)]

theorem tell_lenT {y : QLay} {s : QSt} {r : Nat} (h : QTab w y (s.tell r)) : s.T.length = s.L.length := by
  have h1 := h.lenT
  have h2 : (s.tell r).T.length = s.T.length := by
    show (if r < 2 then s.T else s.T.set (r - 2) true).length = _
    split
    · rfl
    · rw [List.length_set]
  rw [← h2]
  exact h1
/-- A call on the program's table that tells a function, beside the document's table. -/
theorem beside_prog {y : Lay} {L : List Nd} {roots : List Nat} {yq : QLay} {sq : QSt} (hB : Below W.heap.size W w) (hy : ∀ j, y.own j → W.heap.size ≤ j) (hd : ∀ j, y.own j → ¬ yq.own j) (hQ : QTab w yq sq) {r : Nat} {g : Bd.Fn} (ht : Told A w y ⟨L, roots, 2, nb, lim⟩ w' r g) :
    ∃ N t y' m, y'.tb = y.tb ∧ Tab w' y' ⟨L ++ N, roots ++ t, 2, nb, lim⟩ ∧ Bd.Within A (L ++ N) ∧ t.length ≤ 1 ∧ St.node? ⟨L ++ N, roots ++ t, 2, nb, lim⟩ r = some m ∧ m < (L ++ N).length + 2 ∧ Bd.den (L ++ N) m = g ∧ QTab w' yq sq ∧ Below W.heap.size W w' ∧ (∀ j, y'.own j → W.heap.size ≤ j) ∧ (∀ j, y'.own j → ¬ yq.own j) := by
  obtain ⟨N, t, y', m, hT', hW', hn, hm, hd', hmv, ha⟩ := ht.ex
  obtain ⟨hb', hy'⟩ := moves_out hB hB.size hy hmv
  refine ⟨N, t, y', m, hmv.tb, hT', hW', ha.few, hn, hm, hd', hQ.same fun k hk => hmv.block k (hQ.lt hk) (fun ho => hd k ho hk) (fun h => h), hb', hy', fun j hj hjq => ?_⟩
  rcases hmv.own j hj with h | h
  · exact hd j h hjq
  · have := hQ.lt hjq; omega
/-- A call on the document's table that tells a function, beside the program's. -/
theorem beside_doc {y : Lay} {s : St} {yq : QLay} {sq : QSt} {AQ : Bd.Fam sq.bits M} (hbM : sq.bits * M ≤ sq.limit) (hB : Below W.heap.size W w) (hyq : ∀ j, yq.own j → W.heap.size ≤ j) (hd : ∀ j, y.own j → ¬ yq.own j) (hT : Tab w y s) {e : Ending} {g : Bd.Fn} (ht : QTells AQ w yq sq g e w') :
    ∃ r N y', e = .returned (.tuple #[i6 r, .int .i64 0]) ∧ y'.tb = yq.tb ∧ QTab w' y' ((sq.grow N).tell r) ∧ Bd.Within AQ (sq.L ++ N) ∧ r < (sq.L ++ N).length + 2 ∧ Bd.den (sq.L ++ N) r = g ∧ (∀ x, sq.has x → ((sq.grow N).tell r).has x) ∧ ((sq.grow N).tell r).has r ∧ Tab w' y s ∧ Below W.heap.size W w' ∧ (∀ j, y'.own j → W.heap.size ≤ j) ∧ (∀ j, y.own j → ¬ y'.own j) := by
  obtain ⟨N, y', r, h1, h2, h3, h4, h5, h6⟩ := ht.ex
  have hout : Tab w' y s ∧ Below W.heap.size W w' ∧ (∀ j, y'.own j → W.heap.size ≤ j) ∧ (∀ j, y.own j → ¬ y'.own j) := by
    refine ⟨hT.same fun k hk => h4.block k (hT.lt hk) (hd k hk), ⟨h4.os.trans hB.os, h4.tape.trans hB.tape, h4.output.trans hB.output, Nat.le_trans hB.size h4.size, fun k hk => ?_⟩, fun j hj => ?_, fun j hj hj' => ?_⟩
    · rw [h4.block k (Nat.lt_of_lt_of_le hk hB.size) (fun h => by have := hyq k h; omega)]
      exact hB.block k hk
    · rcases h4.own j hj with h | h
      · exact hyq j h
      · exact Nat.le_trans hB.size h
    · rcases h4.own j hj' with h | h
      · exact hd j hj h
      · have := hT.lt hj; omega
  rcases h6 with ⟨q1, rfl, q2⟩ | ⟨q1, rfl, q2⟩
  · exfalso
    have hU : ((sq.grow N).tell r).U.length = (sq.L ++ N).length := by
      show (markF _ _ _ _).length = _
      rw [markF_length]; exact q2.lenU
    have := cntB_le ((sq.grow N).tell r).U
    have := h1.few q2.okay
    omega
  · exact ⟨r, N, y', rfl, h5, q2, h1, h2, h3, fun x hx => has_tell (has_grow hx N) r, has_told h2 (tell_lenT q2), hout⟩

theorem nodes_two {s : St} {r0 r1 m0 m1 : Nat} (h0 : s.node? r0 = some m0) (h1 : s.node? r1 = some m1) : NodesOf s [r0, r1] [m0, m1] := by
  refine ⟨rfl, fun i r hi => ?_⟩
  match i, hi with
  | 0, hi => simp at hi; subst hi; exact ⟨m0, rfl, h0⟩
  | 1, hi => simp at hi; subst hi; exact ⟨m1, rfl, h1⟩
  | (i + 2), hi => simp at hi

theorem made_step {n k : Nat} {ss : List ByteArray} (hA : OrIn A ss n) (hk : k < n) (h1 : 1 ≤ nb) (h2 : nb ≤ 128) (hlim : nb * M ≤ lim) (hbM : nb * M ≤ 524288) (hK : K ≤ 1000000) (hl : letB (ss.getD k ByteArray.empty) nb = true) (h : MadeAt A lim W w tb qb K a b (madeF nb ss k)) :
    Calls Try.prog 22 #[.pointer (some ⟨tb, 0, none⟩), .string (ss.getD k ByteArray.empty)] w fun e w1 => ∃ c : Nat, e = .returned (.tuple #[.int .i64 c, .int .i64 0]) ∧ Below W.heap.size W w1 ∧
      Hid (Calls Try.prog 23 #[.pointer (some ⟨qb, 0, none⟩), .string (ss.getD k ByteArray.empty)] w1 fun e w2 => ∃ d : Nat, e = .returned (.tuple #[.int .i64 d, .int .i64 0]) ∧ Below W.heap.size W w2 ∧
        Hid (Calls Try.prog 24 #[.pointer (some ⟨tb, 0, none⟩), .slice (some ⟨w2.heap.size, 0, none⟩) 2 2] (w2.alloc (.cells #[.int .i64 a, .int .i64 c] 25)) fun e w3 => ∃ a' : Nat, e = .returned (.tuple #[.int .i64 a', .int .i64 0]) ∧ Below W.heap.size W w3 ∧
          Hid (Calls Try.prog 25 #[.pointer (some ⟨qb, 0, none⟩), .slice (some ⟨w3.heap.size, 0, none⟩) 2 2] (w3.alloc (.cells #[.int .i64 b, .int .i64 d] 25)) fun e w4 => ∃ b' : Nat, e = .returned (.tuple #[.int .i64 b', .int .i64 0]) ∧ Below W.heap.size W w4 ∧
            Hid (MadeAt A lim W w4 tb qb (K + 2) a' b' (madeF nb ss (k + 1)))))) := by
  obtain ⟨y, L, roots, m, yq, LQ, U, T, rfl, rfl, hT, hW, hKr, hQ, hWQ, hB, hy, hyq, hd, ⟨f1, f2, f3⟩, ⟨q1, q2, q3⟩⟩ := h.ex
  have hFn : madeF nb ss (k + 1) = iteF (madeF nb ss k) tt (suf (ss.getD k ByteArray.empty) 0) := by rw [madeF_succ, if_pos hl]
  have hAk := hA.made k (by omega)
  have hAc := hA.cube k hk hl
  have hAn := hA.join _ _ hAk hAc
  rw [← hFn] at hAn
  obtain ⟨ht, hr⟩ := letB_right h1 h2 hl
  generalize ss.getD k ByteArray.empty = t at *
  generalize madeF nb ss k = f0 at *
  refine (Cube_ok (s := ⟨L, roots, 2, nb, lim⟩) A hT hW (Nat.le_refl _) (by show roots.length + 1 ≤ _; omega) hlim t ht hr hAc).mono ?_
  rintro e w1 ⟨c, rfl, ht1⟩
  obtain ⟨N1, t1, y1, m1, tb1, hT1, hW1, hl1, n1, n2, n3, hQ1, hB1, hy1, hd1⟩ := beside_prog hB hy hd hQ ht1
  refine ⟨c, rfl, hB1, ?_⟩
  refine (qcube_ok (s := ⟨LQ, U, T, nb, lim⟩) A hQ1 hWQ (by show nb * M ≤ _; omega) t hl hAc).mono ?_
  intro e w2 ht2
  obtain ⟨d, N2, yq2, rfl, tb2, hQ2, hWQ2, hd2, dd2, has2, hasd, hT2, hB2, hyq2, hd12⟩ := beside_doc (sq := ⟨LQ, U, T, nb, lim⟩) hlim hB1 hyq hd1 hT1 ht2
  refine ⟨d, rfl, hB2, ?_⟩
  have hb2 : Below w2.heap.size w2 (w2.alloc (.cells #[.int .i64 a, .int .i64 c] 25)) := (Below.refl _ _).alloc (Nat.le_refl _) _
  have f1' : St.node? ⟨L ++ N1, roots ++ t1, 2, nb, lim⟩ a = some m := node_old f1 _ t1
  have f3' : Bd.den (L ++ N1) m = f0 := by rw [Bd.den_append_old _ _ f2]; exact f3
  have hl1' : (L ++ N1).length = L.length + N1.length := List.length_append
  have hor := Or_many (s := ⟨L ++ N1, roots ++ t1, 2, nb, lim⟩) A (hT2.below hb2) hW1 (Nat.le_refl _) (by show (roots ++ t1).length + 1 ≤ _; rw [List.length_append]; omega) hlim _ [a, c] [m, m1] (refs_two w2 a c) (by simp) (nodes_two f1' n1) (fun x hx => by
      simp at hx
      rcases hx with rfl | rfl
      · show x < (L ++ N1).length + 2; omega
      · exact n2) (two ff f0 (madeF nb ss (k + 1))) rfl (fun j x hj => by
      match j, hj with
      | 0, hj => simp at hj; subst hj; exact ⟨by show f0 = iteF ff tt (Bd.den (L ++ N1) m); rw [f3', ite_ff_or], hAk⟩
      | 1, hj => simp at hj; subst hj; exact ⟨by show madeF nb ss (k + 1) = iteF f0 tt (Bd.den (L ++ N1) m1); rw [n3]; exact hFn, hAn⟩
      | (j + 2), hj => simp at hj)
  rw [tb1] at hor
  refine hor.mono ?_
  rintro e w3 ⟨a', rfl, ht3⟩
  obtain ⟨N3, t3, y3, m3, tb3, hT3, hW3, hl3, r1, r2, r3, hQ3, hB3, hy3, hd3⟩ := beside_prog (hB2.alloc hB2.size _) hy1 hd12 (hQ2.below hb2) ht3
  refine ⟨a', rfl, hB3, ?_⟩
  have hb3 : Below w3.heap.size w3 (w3.alloc (.cells #[.int .i64 b, .int .i64 d] 25)) := (Below.refl _ _).alloc (Nat.le_refl _) _
  have q3' : Bd.den (LQ ++ N2) b = f0 := by rw [Bd.den_append_old _ _ q2]; exact q3
  have hl2' : (LQ ++ N2).length = LQ.length + N2.length := List.length_append
  have hqo := qor_many (s := (QSt.grow ⟨LQ, U, T, nb, lim⟩ N2).tell d) A (hQ3.below hb3) hWQ2 hbM _ [b, d] (refs_two w3 b d) (fun j hj ho => by
      simp [Value.ownBlock] at hj
      have := hQ3.lt ho
      omega) (by simp) (fun x hx => by
      simp at hx
      rcases hx with rfl | rfl
      · exact ⟨has2 x q1, by show x < (LQ ++ N2).length + 2; omega⟩
      · exact ⟨hasd, hd2⟩) (two ff f0 (madeF nb ss (k + 1))) rfl (fun j x hj => by
      match j, hj with
      | 0, hj => simp at hj; subst hj; exact ⟨by show f0 = iteF (Bd.den (LQ ++ N2) b) tt ff; rw [q3', ite_or_ff], hAk⟩
      | 1, hj => simp at hj; subst hj; exact ⟨by show madeF nb ss (k + 1) = iteF (Bd.den (LQ ++ N2) d) tt f0; rw [show Bd.den (LQ ++ N2) d = suf t 0 from dd2, ite_or]; exact hFn, hAn⟩
      | (j + 2), hj => simp at hj)
  rw [tb2] at hqo
  refine hqo.mono ?_
  intro e w4 ht4
  obtain ⟨b', N4, yq4, rfl, tb4, hQ4, hWQ4, hd4, dd4, has4, hasd4, hT4, hB4, hyq4, hd34⟩ := beside_doc (sq := (QSt.grow ⟨LQ, U, T, nb, lim⟩ N2).tell d) hlim (hB3.alloc hB3.size _) hyq2 hd3 (hT3.below hb3) ht4
  refine ⟨b', rfl, hB4, ?_⟩
  refine ⟨y3, L ++ N1 ++ N3, roots ++ t1 ++ t3, m3, yq4, _, _, _, tb3.trans tb1, tb4.trans tb2, hT4, hW3, ?_, hQ4, hWQ4, hB4, hy3, hyq4, hd34, ⟨r1, r2, r3⟩, ⟨hasd4, hd4, dd4⟩⟩
  rw [List.length_append, List.length_append]
  omega

theorem made_skip {k : Nat} {ss : List ByteArray} (hsz : (ss.getD k ByteArray.empty).size ≤ maxLen) (hl : letB (ss.getD k ByteArray.empty) nb = false) (h : MadeAt A lim W w tb qb K a b (madeF nb ss k)) :
    Calls Try.prog 22 #[.pointer (some ⟨tb, 0, none⟩), .string (ss.getD k ByteArray.empty)] w fun e w1 => e = .returned (.tuple #[.int .i64 0, .int .i64 21]) ∧ Below W.heap.size W w1 ∧
      Hid (Calls Try.prog 23 #[.pointer (some ⟨qb, 0, none⟩), .string (ss.getD k ByteArray.empty)] w1 fun e w2 => e = .returned (.tuple #[.int .i64 0, .int .i64 21]) ∧ Below W.heap.size W w2 ∧
        Hid (MadeAt A lim W w2 tb qb (K + 2) a b (madeF nb ss (k + 1)))) := by
  obtain ⟨y, L, roots, m, yq, LQ, U, T, rfl, rfl, hT, hW, hKr, hQ, hWQ, hB, hy, hyq, hd, hf, hq⟩ := h.ex
  have hFn : madeF nb ss (k + 1) = madeF nb ss k := by rw [madeF_succ, if_neg (by rw [hl]; simp)]
  rw [hFn]
  have hc : Calls Try.prog 22 #[.pointer (some ⟨y.tb, 0, none⟩), .string (ss.getD k ByteArray.empty)] w fun e w' => e = .returned (.tuple #[.int .i64 0, .int .i64 21]) ∧ Below w.heap.size w w' := by
    rcases letB_wrong hl with e | ⟨e, e'⟩
    · exact Cube_size hT _ e
    · exact Cube_text hT _ e e'
  refine hc.mono ?_
  rintro e w1 ⟨rfl, hb1⟩
  have hB1 : Below W.heap.size W w1 := hB.trans (hb1.mono hB.size)
  refine ⟨rfl, hB1, ?_⟩
  refine (qcube_bad (hQ.below hb1) _ hsz hl).mono ?_
  rintro e w2 ⟨rfl, hb2⟩
  refine ⟨rfl, hB1.trans (hb2.mono hB1.size), ?_⟩
  obtain ⟨y, L, roots, m, yq, LQ, U, T, e1, e2, hT, hW, hKr, hQ, hWQ, hB, hy, hyq, hd, hf, hq⟩ := ((h.below hb1).below hb2).ex
  exact ⟨y, L, roots, m, yq, LQ, U, T, e1, e2, hT, hW, by omega, hQ, hWQ, hB, hy, hyq, hd, hf, hq⟩
end
end Go.Proofs.Ytnkipdlfpnmgeaa
namespace Go.Proofs.Ytnkipdlfpnmgeaa
open Go.RowKit Go.Maps
open Bd (Nd ff tt iteF)

/-- Both tables, exactly. -/
structure PairAt {nb M : Nat} (A : Bd.Fam nb M) (lim : Nat) (W w : World) (y : Lay) (L : List Nd) (roots : List Nat) (yq : QLay) (LQ : List Nd) (U T : List Bool) : Prop where
  tab : Tab w y ⟨L, roots, 2, nb, lim⟩
  within : Bd.Within A L
  qtab : QTab w yq ⟨LQ, U, T, nb, lim⟩
  qwithin : Bd.Within A LQ
  below : Below W.heap.size W w
  own : ∀ j, y.own j → W.heap.size ≤ j
  qown : ∀ j, yq.own j → W.heap.size ≤ j
  apart : ∀ j, y.own j → ¬ yq.own j
  exact : Exact L roots LQ U T
  fits : L.length ≤ lim

section
variable {nb M : Nat} {A : Bd.Fam nb M} {lim : Nat} {W w w1 w2 : World} {y : Lay} {L : List Nd} {roots : List Nat} {yq : QLay} {LQ : List Nd} {U T : List Bool} {r : Nat} {g : Bd.Fn}
theorem PairAt.later (h : PairAt A lim W w y L roots yq LQ U T) (hb : Below w.heap.size w w1) : PairAt A lim W w1 y L roots yq LQ U T :=
  ⟨h.tab.below hb, h.within, h.qtab.below hb, h.qwithin, h.below.trans (hb.mono h.below.size), h.own, h.qown, h.apart, h.exact, h.fits⟩

/-- What the document's call leaves beside the program's table. -/
theorem beside_q {s : St} (hB : Below W.heap.size W w) (hyq : ∀ j, yq.own j → W.heap.size ≤ j) (hd : ∀ j, y.own j → ¬ yq.own j) (hT : Tab w y s) {yq' : QLay} (h4 : Touch yq.own yq'.own w w2) :
    Tab w2 y s ∧ Below W.heap.size W w2 ∧ (∀ j, yq'.own j → W.heap.size ≤ j) ∧ (∀ j, y.own j → ¬ yq'.own j) := by
  refine ⟨hT.same fun k hk => h4.block k (hT.lt hk) (hd k hk), ⟨h4.os.trans hB.os, h4.tape.trans hB.tape, h4.output.trans hB.output, Nat.le_trans hB.size h4.size, fun k hk => ?_⟩, fun j hj => ?_, fun j hj hj' => ?_⟩
  · rw [h4.block k (Nat.lt_of_lt_of_le hk hB.size) (fun h => by have := hyq k h; omega)]
    exact hB.block k hk
  · rcases h4.own j hj with h | h
    · exact hyq j h
    · exact Nat.le_trans hB.size h
  · rcases h4.own j hj' with h | h
    · exact hd j hj h
    · have := hT.lt hj; omega

theorem PairAt.told (h : PairAt A lim W w y L roots yq LQ U T) (ht : ToldL (subFam A h.tab.okay g) w y ⟨L, roots, 2, nb, lim⟩ w1 r g) :
    QTab w1 yq ⟨LQ, U, T, nb, lim⟩ ∧ Below W.heap.size W w1 ∧ ∃ N t y' m, y'.tb = y.tb ∧ t.length ≤ 1 ∧ St.node? ⟨L ++ N, roots ++ t, 2, nb, lim⟩ r = some m ∧ m < (L ++ N).length + 2 ∧ Bd.den (L ++ N) m = g ∧
      ∀ w1' e w2, Below w1.heap.size w1 w1' → QTells (bits := nb) A w1' yq ⟨LQ, U, T, nb, lim⟩ g e w2 → ∃ d NQ yq', e = .returned (.tuple #[i6 d, .int .i64 0]) ∧ yq'.tb = yq.tb ∧
        PairAt A lim W w2 y' (L ++ N) (roots ++ t) yq' ((QSt.grow ⟨LQ, U, T, nb, lim⟩ NQ).tell d).L ((QSt.grow ⟨LQ, U, T, nb, lim⟩ NQ).tell d).U ((QSt.grow ⟨LQ, U, T, nb, lim⟩ NQ).tell d).T ∧ d < (LQ ++ NQ).length + 2 ∧ Bd.den (LQ ++ NQ) d = g := by
  obtain ⟨N, t, y', m, hT', hW', hn, hm, hd', hmv, ha, hfit⟩ := ht.ex
  obtain ⟨hb', hy'⟩ := moves_out h.below h.below.size h.own hmv
  have hQ1 := h.qtab.same fun k hk => hmv.block k (h.qtab.lt hk) (fun ho => h.apart k ho hk) (fun h => h)
  have hd1 : ∀ j, y'.own j → ¬ yq.own j := fun j hj hjq => by
    rcases hmv.own j hj with h1 | h1
    · exact h.apart j h1 hjq
    · have := h.qtab.lt hjq; omega
  refine ⟨hQ1, hb', N, t, y', m, hmv.tb, ha.few, hn, hm, hd', fun w1' e w2 hbl hq => ?_⟩
  obtain ⟨NQ, yq', d, g1, g2, g3, g4, g5, g6⟩ := hq.ex
  obtain ⟨t2, b2, o2, a2⟩ := beside_q (hb'.trans (hbl.mono hb'.size)) h.qown hd1 (hT'.below hbl) g4
  have hmr : 2 ≤ m → m ∈ roots ++ t := fun h2 => by
    have hn' : (if r < 2 then some r else if 2 ≤ r then (roots ++ t)[r - 2]? else none) = some m := hn
    by_cases hr2 : r < 2
    · rw [if_pos hr2] at hn'
      cases hn'
      omega
    · rw [if_neg hr2, if_pos (by omega)] at hn'
      exact List.mem_of_getElem? hn'
  have htm : ∀ n, n ∈ t → n = m := fun n hnt => by
    rcases ha with e0 | ⟨e1, e2⟩
    · rw [e0] at hnt; simp at hnt
    · obtain ⟨x, rfl⟩ := List.length_eq_one_iff.1 e1
      have hx : n = x := by simpa using hnt
      have e2' : r = 2 + roots.length := e2
      have hn' : (if r < 2 then some r else if 2 ≤ r then (roots ++ [x])[r - 2]? else none) = some m := hn
      rw [if_neg (by omega), if_pos (by omega), e2', show 2 + roots.length - 2 = roots.length by omega, List.getElem?_append_right (Nat.le_refl _)] at hn'
      simp at hn'
      rw [hx, hn']
  have hQN : Bd.Okay nb (LQ ++ NQ) := by
    rcases g6 with ⟨_, _, q2⟩ | ⟨_, _, q2⟩
    · exact q2.okay
    · exact q2.okay
  obtain ⟨X, hc⟩ := Exact.told (sq := ⟨LQ, U, T, nb, lim⟩) (NQ := NQ) (r := d) (f := g) h.exact h.tab.okay hT'.okay h.qtab.okay hQN h.qtab.lenU h.qtab.lenT (fun n hn => (h.tab.valid.2 n hn).2) (fun n hn => hT'.valid.2 n hn) hm hd' hmr htm g2 g3 (fun i h1 h2 => subFam_new h.tab.okay hT'.okay hW' i h1 h2)
  have hfit' : (L ++ N).length ≤ lim := hfit
  rcases g6 with ⟨q1, rfl, q2⟩ | ⟨q1, rfl, q2⟩
  · exfalso
    have q1' : lim < cntB ((QSt.grow ⟨LQ, U, T, nb, lim⟩ NQ).tell d).U := q1
    omega
  · exact ⟨d, NQ, yq', rfl, g5, ⟨t2, subFam_up h.tab.okay hW', q2, g1, b2, hy', o2, a2, X, hfit'⟩, g2, g3⟩

theorem PairAt.full (h : PairAt A lim W w y L roots yq LQ U T) (ht : FullT (subFam A h.tab.okay g) w y ⟨L, roots, 2, nb, lim⟩ w1) :
    QTab w1 yq ⟨LQ, U, T, nb, lim⟩ ∧ Below W.heap.size W w1 ∧ ∃ y', y'.tb = y.tb ∧
      ∀ w1' e w2, Below w1.heap.size w1 w1' → QTells (bits := nb) A w1' yq ⟨LQ, U, T, nb, lim⟩ g e w2 → ∃ NQ yq', e = .returned (.tuple #[.int .i64 0, .int .i64 20]) ∧ yq'.tb = yq.tb ∧
        PairAt A lim W w2 y' L roots yq' (QSt.grow ⟨LQ, U, T, nb, lim⟩ NQ).L (QSt.grow ⟨LQ, U, T, nb, lim⟩ NQ).U (QSt.grow ⟨LQ, U, T, nb, lim⟩ NQ).T := by
  obtain ⟨y', hT', hmv, N, hok, hW', hfull, k, g', hF, n0, n1, hno⟩ := ht.ex
  obtain ⟨hb', hy'⟩ := moves_out h.below h.below.size h.own hmv
  have hQ1 := h.qtab.same fun k hk => hmv.block k (h.qtab.lt hk) (fun ho => h.apart k ho hk) (fun h => h)
  have hd1 : ∀ j, y'.own j → ¬ yq.own j := fun j hj hjq => by
    rcases hmv.own j hj with h1 | h1
    · exact h.apart j h1 hjq
    · have := h.qtab.lt hjq; omega
  refine ⟨hQ1, hb', y', hmv.tb, fun w1' e w2 hbl hq => ?_⟩
  obtain ⟨NQ, yq', d, g1, g2, g3, g4, g5, g6⟩ := hq.ex
  obtain ⟨t2, b2, o2, a2⟩ := beside_q (hb'.trans (hbl.mono hb'.size)) h.qown hd1 (hT'.below hbl) g4
  have hQN : Bd.Okay nb (LQ ++ NQ) := by
    rcases g6 with ⟨_, _, q2⟩ | ⟨_, _, q2⟩
    · exact q2.okay
    · exact q2.okay
  have hc := Exact.full (sq := ⟨LQ, U, T, nb, lim⟩) (NQ := NQ) (r := d) (f := g) h.exact h.tab.okay hok h.qtab.okay hQN h.qtab.lenU h.qtab.lenT (fun n hn => (h.tab.valid.2 n hn).2) g2 g3 (fun i h1 h2 => subFam_new h.tab.okay hok hW' i h1 h2) (subFam_no h.tab.okay hF n0 n1 hno) n0 n1 hno
  have hfull' : lim ≤ (L ++ N).length := hfull
  rcases g6 with ⟨q1, rfl, q2⟩ | ⟨q1, rfl, q2⟩
  · exact ⟨NQ, yq', rfl, g5, t2, h.within, q2, g1, b2, hy', o2, a2, Exact.grow (sq := ⟨LQ, U, T, nb, lim⟩) h.exact h.qtab.okay h.qtab.lenT, h.fits⟩
  · exfalso
    have q1' : cntB ((QSt.grow ⟨LQ, U, T, nb, lim⟩ NQ).tell d).U ≤ lim := q1
    omega
end
end Go.Proofs.Ytnkipdlfpnmgeaa
namespace Go.Proofs.Ytnkipdlfpnmgeaa
open Go.RowKit Go.Maps
open Bd (Nd ff tt iteF)

/-- Behind some texts: both tables, and one function's two refs. -/
structure MadeX {nb M : Nat} (A : Bd.Fam nb M) (lim : Nat) (W w : World) (tb qb K a b : Nat) : Prop where
  ex : ∃ y L roots m yq LQ U T f, y.tb = tb ∧ yq.tb = qb ∧ PairAt A lim W w y L roots yq LQ U T ∧ roots.length ≤ K ∧ (St.node? ⟨L, roots, 2, nb, lim⟩ a = some m ∧ m < L.length + 2 ∧ Bd.den L m = f) ∧ (QSt.has ⟨LQ, U, T, nb, lim⟩ b ∧ b < LQ.length + 2 ∧ Bd.den LQ b = f) ∧ A.F 0 f

section
variable {nb M : Nat} {A : Bd.Fam nb M} {lim : Nat} {W w w' : World} {tb qb K a b : Nat}
theorem MadeX.out (h : MadeX A lim W w tb qb K a b) : Below W.heap.size W w := by
  obtain ⟨y, L, roots, m, yq, LQ, U, T, f, e1, e2, hP, _⟩ := h.ex
  exact hP.below
theorem MadeX.below (h : MadeX A lim W w tb qb K a b) (hb : Below w.heap.size w w') : MadeX A lim W w' tb qb K a b := by
  obtain ⟨y, L, roots, m, yq, LQ, U, T, f, e1, e2, hP, hr⟩ := h.ex
  exact ⟨y, L, roots, m, yq, LQ, U, T, f, e1, e2, hP.later hb, hr⟩

theorem madex_skip {t : ByteArray} (hsz : t.size ≤ maxLen) (hl : letB t nb = false) (h : MadeX A lim W w tb qb K a b) :
    Calls Try.prog 22 #[.pointer (some ⟨tb, 0, none⟩), .string t] w fun e w1 => e = .returned (.tuple #[.int .i64 0, .int .i64 21]) ∧ Below W.heap.size W w1 ∧
      Hid (Calls Try.prog 23 #[.pointer (some ⟨qb, 0, none⟩), .string t] w1 fun e w2 => e = .returned (.tuple #[.int .i64 0, .int .i64 21]) ∧ Below W.heap.size W w2 ∧
        Hid (MadeX A lim W w2 tb qb (K + 2) a b)) := by
  obtain ⟨y, L, roots, m, yq, LQ, U, T, f, rfl, rfl, hP, hKr, hr⟩ := h.ex
  have hc : Calls Try.prog 22 #[.pointer (some ⟨y.tb, 0, none⟩), .string t] w fun e w' => e = .returned (.tuple #[.int .i64 0, .int .i64 21]) ∧ Below w.heap.size w w' := by
    rcases letB_wrong hl with e | ⟨e, e'⟩
    · exact Cube_size hP.tab _ e
    · exact Cube_text hP.tab _ e e'
  refine hc.mono ?_
  rintro e w1 ⟨rfl, hb1⟩
  have hP1 := hP.later hb1
  refine ⟨rfl, hP1.below, ?_⟩
  refine (qcube_bad hP1.qtab _ hsz hl).mono ?_
  rintro e w2 ⟨rfl, hb2⟩
  have hP2 := hP1.later hb2
  exact ⟨rfl, hP2.below, y, L, roots, m, yq, LQ, U, T, f, rfl, rfl, hP2, by omega, hr⟩

theorem madex_step {t : ByteArray} (hAc : A.F 0 (suf t 0)) (hAj : ∀ f g, A.F 0 f → A.F 0 g → A.F 0 (iteF f tt g)) (h1 : 1 ≤ nb) (h2 : nb ≤ 128) (hbM : nb * M ≤ 524288) (hK : K ≤ 1000000) (hl : letB t nb = true) (h : MadeX A lim W w tb qb K a b) :
    Calls Try.prog 22 #[.pointer (some ⟨tb, 0, none⟩), .string t] w fun e w1 => (∃ c : Nat, e = .returned (.tuple #[.int .i64 c, .int .i64 0]) ∧ Below W.heap.size W w1 ∧
      Hid (Calls Try.prog 23 #[.pointer (some ⟨qb, 0, none⟩), .string t] w1 fun e w2 => ∃ d : Nat, e = .returned (.tuple #[.int .i64 d, .int .i64 0]) ∧ Below W.heap.size W w2 ∧
        Hid (Calls Try.prog 24 #[.pointer (some ⟨tb, 0, none⟩), .slice (some ⟨w2.heap.size, 0, none⟩) 2 2] (w2.alloc (.cells #[.int .i64 a, .int .i64 c] 25)) fun e w3 =>
          (∃ a' : Nat, e = .returned (.tuple #[.int .i64 a', .int .i64 0]) ∧ Below W.heap.size W w3 ∧
            Hid (Calls Try.prog 25 #[.pointer (some ⟨qb, 0, none⟩), .slice (some ⟨w3.heap.size, 0, none⟩) 2 2] (w3.alloc (.cells #[.int .i64 b, .int .i64 d] 25)) fun e w4 => ∃ b' : Nat, e = .returned (.tuple #[.int .i64 b', .int .i64 0]) ∧ Below W.heap.size W w4 ∧ Hid (MadeX A lim W w4 tb qb (K + 2) a' b'))) ∨
          (e = .returned (.tuple #[.int .i64 0, .int .i64 20]) ∧ Below W.heap.size W w3 ∧
            Hid (Calls Try.prog 25 #[.pointer (some ⟨qb, 0, none⟩), .slice (some ⟨w3.heap.size, 0, none⟩) 2 2] (w3.alloc (.cells #[.int .i64 b, .int .i64 d] 25)) fun e w4 => e = .returned (.tuple #[.int .i64 0, .int .i64 20]) ∧ Below W.heap.size W w4 ∧ Hid (MadeX A lim W w4 tb qb (K + 2) a b)))))) ∨
      (e = .returned (.tuple #[.int .i64 0, .int .i64 20]) ∧ Below W.heap.size W w1 ∧
        Hid (Calls Try.prog 23 #[.pointer (some ⟨qb, 0, none⟩), .string t] w1 fun e w2 => e = .returned (.tuple #[.int .i64 0, .int .i64 20]) ∧ Below W.heap.size W w2 ∧ Hid (MadeX A lim W w2 tb qb (K + 2) a b))) := by
  obtain ⟨y, L, roots, m, yq, LQ, U, T, f0, rfl, rfl, hP, hKr, ⟨f1, f2, f3⟩, ⟨q1, q2, q3⟩, hAk⟩ := h.ex
  obtain ⟨ht, hr⟩ := letB_right h1 h2 hl
  have hAn := hAj _ _ hAk hAc
  have hok := hP.tab.okay
  refine (Cube_two (s := ⟨L, roots, 2, nb, lim⟩) (subFam A hok (suf t 0)) hP.tab (subFam_within hok hP.within) (Nat.le_refl _) (by show roots.length + 1 ≤ _; omega) hP.fits t ht hr ⟨hAc, Or.inl .self⟩).mono ?_
  rintro e w1 (⟨c, rfl, ht1⟩ | ⟨rfl, ht1⟩)
  · obtain ⟨hQ1, hB1, N1, t1, y1, m1, tb1, hl1, n1, n2, n3, hnext⟩ := hP.told ht1
    refine Or.inl ⟨c, rfl, hB1, ?_⟩
    refine (qcube_ok (s := ⟨LQ, U, T, nb, lim⟩) A hQ1 hP.qwithin (by show nb * M ≤ _; omega) t hl hAc).mono ?_
    intro e w2 ht2
    obtain ⟨d, N2, yq2, rfl, tb2, hP2, hd2, dd2⟩ := hnext w1 e w2 (Below.refl _ _) ht2
    refine ⟨d, rfl, hP2.below, ?_⟩
    have has2 : ∀ x, QSt.has ⟨LQ, U, T, nb, lim⟩ x → ((QSt.grow ⟨LQ, U, T, nb, lim⟩ N2).tell d).has x := fun x hx => has_tell (has_grow hx N2) d
    have hasd : ((QSt.grow ⟨LQ, U, T, nb, lim⟩ N2).tell d).has d := has_told hd2 (tell_lenT hP2.qtab)
    have hb2 : Below w2.heap.size w2 (w2.alloc (.cells #[.int .i64 a, .int .i64 c] 25)) := (Below.refl _ _).alloc (Nat.le_refl _) _
    have hP2' := hP2.later hb2
    have f1' : St.node? ⟨L ++ N1, roots ++ t1, 2, nb, lim⟩ a = some m := node_old f1 _ t1
    have hl1' : (L ++ N1).length = L.length + N1.length := List.length_append
    have f3' : Bd.den (L ++ N1) m = f0 := by rw [Bd.den_append_old _ _ f2]; exact f3
    have hok2 := hP2'.tab.okay
    have eg : iteF (Bd.den (L ++ N1) m) tt (Bd.den (L ++ N1) m1) = iteF f0 tt (suf t 0) := by rw [f3', n3]
    have hor := Or_two (s := ⟨L ++ N1, roots ++ t1, 2, nb, lim⟩) (subFam A hok2 (iteF f0 tt (suf t 0))) hP2'.tab (subFam_within hok2 hP2'.within) (Nat.le_refl _) (by show (roots ++ t1).length + 1 ≤ _; rw [List.length_append]; omega) hP2'.fits (by show nb * M ≤ _; omega) _ a c m m1 (refs_two w2 a c) f1' n1 (by show m < (L ++ N1).length + 2; omega) n2
      (by show (subFam A hok2 (iteF f0 tt (suf t 0))).F 0 (iteF (Bd.den (L ++ N1) m) tt (Bd.den (L ++ N1) m1)); rw [eg]; exact ⟨hAn, Or.inl .self⟩)
    have eg' : iteF (Bd.den ({ L := L ++ N1, roots := roots ++ t1, first := 2, bits := nb, limit := lim } : St).L m) tt (Bd.den ({ L := L ++ N1, roots := roots ++ t1, first := 2, bits := nb, limit := lim } : St).L m1) = iteF f0 tt (suf t 0) := eg
    rw [tb1, eg'] at hor
    refine hor.mono ?_
    have hqo : ∀ {w3 : World} (_ : QTab w3 yq2 ((QSt.grow ⟨LQ, U, T, nb, lim⟩ N2).tell d)), Calls Try.prog 25 #[.pointer (some ⟨yq.tb, 0, none⟩), .slice (some ⟨w3.heap.size, 0, none⟩) 2 2] (w3.alloc (.cells #[.int .i64 b, .int .i64 d] 25)) fun e w4 => QTells (bits := nb) A (w3.alloc (.cells #[.int .i64 b, .int .i64 d] 25)) yq2 ((QSt.grow ⟨LQ, U, T, nb, lim⟩ N2).tell d) (iteF f0 tt (suf t 0)) e w4 := by
      intro w3 hQ3
      have hb3 : Below w3.heap.size w3 (w3.alloc (.cells #[.int .i64 b, .int .i64 d] 25)) := (Below.refl _ _).alloc (Nat.le_refl _) _
      have q3' : Bd.den (LQ ++ N2) b = f0 := by rw [Bd.den_append_old _ _ q2]; exact q3
      have hl2' : (LQ ++ N2).length = LQ.length + N2.length := List.length_append
      have hqo := qor_many (s := (QSt.grow ⟨LQ, U, T, nb, lim⟩ N2).tell d) A (hQ3.below hb3) hP2.qwithin hbM _ [b, d] (refs_two w3 b d) (fun j hj ho => by
        simp [Value.ownBlock] at hj
        have := hQ3.lt ho
        omega) (by simp) (fun x hx => by
        simp at hx
        rcases hx with rfl | rfl
        · exact ⟨has2 x q1, by show x < (LQ ++ N2).length + 2; omega⟩
        · exact ⟨hasd, hd2⟩) (two ff f0 (iteF f0 tt (suf t 0))) rfl (fun j x hj => by
        match j, hj with
        | 0, hj => simp at hj; subst hj; exact ⟨by show f0 = iteF (Bd.den (LQ ++ N2) b) tt ff; rw [q3', ite_or_ff], hAk⟩
        | 1, hj => simp at hj; subst hj; exact ⟨by show iteF f0 tt (suf t 0) = iteF (Bd.den (LQ ++ N2) d) tt f0; rw [show Bd.den (LQ ++ N2) d = suf t 0 from dd2, ite_or], hAn⟩
        | (j + 2), hj => simp at hj)
      rw [tb2] at hqo
      exact hqo
    rintro e w3 (⟨a', rfl, ht3⟩ | ⟨rfl, ht3⟩)
    · obtain ⟨hQ3, hB3, N3, t3, y3, m3, tb3, hl3, r1, r2, r3, hnext3⟩ := hP2'.told ht3
      refine Or.inl ⟨a', rfl, hB3, ?_⟩
      refine (hqo hQ3).mono ?_
      intro e w4 ht4
      obtain ⟨b', N4, yq4, rfl, tb4, hP4, hd4, dd4⟩ := hnext3 _ e w4 ((Below.refl _ _).alloc (Nat.le_refl _) _) ht4
      refine ⟨b', rfl, hP4.below, y3, L ++ N1 ++ N3, roots ++ t1 ++ t3, m3, yq4, _, _, _, iteF f0 tt (suf t 0), tb3.trans tb1, tb4.trans tb2, hP4, ?_, ⟨r1, r2, r3⟩, ⟨has_told hd4 (tell_lenT hP4.qtab), hd4, dd4⟩, hAn⟩
      rw [List.length_append, List.length_append]
      omega
    · obtain ⟨hQ3, hB3, y3, tb3, hnext3⟩ := hP2'.full ht3
      refine Or.inr ⟨rfl, hB3, ?_⟩
      refine (hqo hQ3).mono ?_
      intro e w4 ht4
      obtain ⟨N4, yq4, rfl, tb4, hP4⟩ := hnext3 _ e w4 ((Below.refl _ _).alloc (Nat.le_refl _) _) ht4
      have hl2' : (LQ ++ N2).length = LQ.length + N2.length := List.length_append
      have hl4' : (LQ ++ N2 ++ N4).length = (LQ ++ N2).length + N4.length := List.length_append
      refine ⟨rfl, hP4.below, y3, L ++ N1, roots ++ t1, m, yq4, _, _, _, f0, tb3.trans tb1, tb4.trans tb2, hP4, ?_, ⟨f1', by omega, f3'⟩, ⟨has_grow (has2 b q1) N4, by show b < (LQ ++ N2 ++ N4).length + 2; omega, ?_⟩, hAk⟩
      · rw [List.length_append]; omega
      · show Bd.den (LQ ++ N2 ++ N4) b = f0
        rw [Bd.den_append_old _ _ (by omega), Bd.den_append_old _ _ q2]
        exact q3
  · obtain ⟨hQ1, hB1, y1, tb1, hnext⟩ := hP.full ht1
    refine Or.inr ⟨rfl, hB1, ?_⟩
    refine (qcube_ok (s := ⟨LQ, U, T, nb, lim⟩) A hQ1 hP.qwithin (by show nb * M ≤ _; omega) t hl hAc).mono ?_
    intro e w2 ht2
    obtain ⟨N2, yq2, rfl, tb2, hP2⟩ := hnext w1 e w2 (Below.refl _ _) ht2
    have hl2' : (LQ ++ N2).length = LQ.length + N2.length := List.length_append
    refine ⟨rfl, hP2.below, y1, L, roots, m, yq2, _, _, _, f0, tb1, tb2, hP2, by omega, ⟨f1, f2, f3⟩, ⟨has_grow q1 N2, by show b < (LQ ++ N2).length + 2; omega, ?_⟩, hAk⟩
    show Bd.den (LQ ++ N2) b = f0
    rw [Bd.den_append_old _ _ q2]
    exact q3
end
end Go.Proofs.Ytnkipdlfpnmgeaa
namespace Go.Proofs.Ytnkipdlfpnmgeaa
open Go.RowKit Go.Maps
open Bd (Nd ff tt iteF)

theorem came_size {w : World} {a0 : Option Addr} {len cap : Nat} {ss : List ByteArray} (h : Came w a0 len cap ss) (i : Nat) : (ss.getD i ByteArray.empty).size ≤ maxLen := by
  rcases h with ⟨_, _, _, rfl⟩ | ⟨a, _, _, _, _, _, h6⟩
  · simp [maxLen]
  · rw [List.getD_eq_getElem?_getD]
    rcases Nat.lt_or_ge i ss.length with hi | hi
    · rw [List.getElem?_eq_getElem hi]
      exact h6 _ (List.getElem_mem hi)
    · rw [List.getElem?_eq_none hi]
      simp [maxLen]

/-- What made answers. -/
structure MadeEnd {nb M : Nat} (A : Bd.Fam nb M) (lim : Nat) (W w : World) (tb K a : Nat) (f : Bd.Fn) : Prop where
  ex : ∃ y L roots m, y.tb = tb ∧ Tab w y ⟨L, roots, 2, nb, lim⟩ ∧ Bd.Within A L ∧ roots.length ≤ K ∧ Below W.heap.size W w ∧ (∀ j, y.own j → W.heap.size ≤ j) ∧ St.node? ⟨L, roots, 2, nb, lim⟩ a = some m ∧ m < L.length + 2 ∧ Bd.den L m = f
theorem MadeAt.fin {nb M : Nat} {A : Bd.Fam nb M} {lim : Nat} {W w : World} {tb qb K a b : Nat} {f : Bd.Fn} (h : MadeAt A lim W w tb qb K a b f) : MadeEnd A lim W w tb K a f := by
  obtain ⟨y, L, roots, m, yq, LQ, U, T, e1, e2, hT, hW, hKr, hQ, hWQ, hB, hy, hyq, hd, ⟨f1, f2, f3⟩, hq⟩ := h.ex
  exact ⟨y, L, roots, m, e1, hT, hW, hKr, hB, hy, f1, f2, f3⟩

set_option maxRecDepth 4000 in
set_option maxHeartbeats 8000000 in
theorem dmade_any {nb M : Nat} (A : Bd.Fam nb M) (lim : Nat) (a0 : Option Addr) (len cap : Nat) (ss : List ByteArray) (w : World) (hv : Came w a0 len cap ss) (hA : OrIn A ss 12) (h1 : 1 ≤ nb) (h2 : nb ≤ 128) (hlim : nb * M ≤ lim) (hl : lim ≤ 1048576) (hbM : nb * M ≤ 524288) :
    Calls Try.prog 6 #[.int .i64 nb, .int .i64 lim, .slice a0 len cap] w fun e w' => ∃ tb qb a b : Nat, e = .returned (.tuple #[.pointer (some ⟨tb, 0, none⟩), .pointer (some ⟨qb, 0, none⟩), .int .i64 a, .int .i64 b, .bool true]) ∧ MadeEnd A lim w w' tb 24 a (madeF nb ss (min len 12)) := by
  have HN := keep (New_ok w nb lim h1 h2 hl)
  have HQN := keep (fun w => qnew_ok nb lim h1 h2 hl w)
  have HV := keep hv
  have HA := keep hA
  have HE := keep (And.intro h1 (And.intro h2 (And.intro hlim hbM)))
  have hlen : len ≤ maxLen := by
    rcases hv with ⟨_, e, _⟩ | ⟨_, _, e1, e2, _⟩
    · rw [e]; simp [maxLen]
    · omega
  unfold maxLen at hlen
  clear hv hA h1 h2 hlim hl hbM
  go_enter Try.func6, Try.ntmps6
  go_wp2_with fail
  refine HN.out.mono ?_
  rintro e w1 ⟨y, rfl, hT, hb, hy⟩
  have HT1 := keep hT
  have HB1 := keep hb
  have HY1 := keep hy
  clear hT hb hy HN
  go_wp2_with fail
  refine (HQN.out w1).mono ?_
  rintro e w2 ⟨rfl, hQ, hb2⟩
  have H0 : Hid (MadeAt A lim w w2 y.tb w1.heap.size 0 0 0 (madeF nb ss 0)) := by
    have hB2 : Below w.heap.size w w2 := HB1.out.trans (hb2.mono HB1.out.size)
    refine ⟨y, [], [], 0, _, [], [], [], rfl, rfl, HT1.out.below hb2, Bd.within_nil _, Nat.le_refl _, hQ, Bd.within_nil _, hB2, HY1.out, fun j hj => ?_, fun j hj hq => ?_, ⟨rfl, by simp, Bd.den_zero _⟩, ⟨Or.inl (by omega), by simp, Bd.den_zero _⟩⟩
    · rcases hj with e | e | e | e
      · have := HB1.out.size; have e' : j = w1.heap.size := e; omega
      · simp [Value.ownBlock] at e
      · simp [Value.ownBlock] at e
      · simp [Value.ownBlock] at e
    · have hjl := HT1.out.lt hj
      rcases hq with e | e | e | e
      · have e' : j = w1.heap.size := e; omega
      · simp [Value.ownBlock] at e
      · simp [Value.ownBlock] at e
      · simp [Value.ownBlock] at e
  clear hQ hb2 HT1 HB1 HY1 HQN
  go_wp2
  go_loopw [15, 16, 17] (fun p q i wr => ∃ k a b : Nat, k ≤ min len 12 ∧ p = .int .i64 a ∧ q = .int .i64 b ∧ i = .int .i64 k ∧ Hid (MadeAt A lim w wr y.tb w1.heap.size (2 * k) a b (madeF nb ss k))) (fun _ _ i _ => 12 - (intOf i).toNat)
  case atStart => exact ⟨0, 0, 0, Nat.zero_le _, rfl, rfl, rfl, H0⟩
  case round =>
    obtain ⟨k, a, b, hk, rfl, rfl, rfl, HM⟩ := hrel
    by_cases hlt : k < min len 12
    · have hk1 : (k : Int) < (len : Int) := by omega
      have hk2 : (k : Int) < 12 := by omega
      have hk0 : (0 : Int) ≤ (k : Int) := by omega
      obtain ⟨g, o, rfl, hg, hc, _⟩ := text_of HV.out (show k < len by omega)
      have HBW := keep HM.out.out
      have cr : wr.cell? ⟨g, o + k, none⟩ = some (.string (ss.getD k ByteArray.empty)) := by rw [HBW.out.cell (by exact hg)]; exact hc
      obtain ⟨e1, e2, e3, e4⟩ := HE.out
      rcases two_bool (letB (ss.getD k ByteArray.empty) nb) with hlb | hlb
      · have HS := keep (made_skip (came_size HV.out k) hlb HM.out)
        generalize ss.getD k ByteArray.empty = t at *
        clear hlb hc e1 e2 e3 e4
        go_wp2_with fail
        refine HS.out.mono ?_
        rintro e w3 ⟨rfl, hb3, HS2⟩
        have cr3 : w3.cell? ⟨g, o + k, none⟩ = some (.string t) := by
          rw [hb3.cell (by exact hg), ← HBW.out.cell (by exact hg)]; exact cr
        clear hb3 HS
        go_wp2_with fail
        refine HS2.out.mono ?_
        rintro e w4 ⟨rfl, hb4, HM4⟩
        clear hb4 HS2
        go_wp2
        go_roundw
        case rel => exact ⟨k + 1, a, b, by omega, rfl, rfl, by go_num, HM4⟩
        case measure => simp [intOf]; omega
      · have HS := keep (made_step HA.out (show k < 12 by omega) e1 e2 e3 e4 (by omega) hlb HM.out)
        generalize ss.getD k ByteArray.empty = t at *
        clear hlb hc e1 e2 e3 e4
        go_wp2_with fail
        refine HS.out.mono ?_
        rintro e w3 ⟨c, rfl, hb3, HS2⟩
        have cr3 : w3.cell? ⟨g, o + k, none⟩ = some (.string t) := by
          rw [hb3.cell (by exact hg), ← HBW.out.cell (by exact hg)]; exact cr
        clear hb3 HS
        go_wp2_with fail
        refine HS2.out.mono ?_
        rintro e w4 ⟨d, rfl, hb4, HS3⟩
        clear hb4 HS2
        go_wp2_with fail
        refine HS3.out.mono ?_
        rintro e w5 ⟨a', rfl, hb5, HS4⟩
        clear hb5 HS3
        go_wp2_with fail
        refine HS4.out.mono ?_
        rintro e w6 ⟨b', rfl, hb6, HM6⟩
        clear hb6 HS4
        go_wp2
        go_roundw
        case rel => exact ⟨k + 1, a', b', by omega, rfl, rfl, by go_num, HM6⟩
        case measure => simp [intOf]; omega
    · have hkn : k = min len 12 := by omega
      have HR : Hid (MadeEnd A lim w wr y.tb 24 a (madeF nb ss (min len 12))) := by
        rw [← hkn]
        obtain ⟨y', L, roots, m, q1, q2, q3, q4, q5⟩ := HM.out.fin.ex
        exact ⟨y', L, roots, m, q1, q2, q3, by omega, q5⟩
      by_cases h12 : k < len
      · have hk1 : (k : Int) < (len : Int) := by omega
        have hk2 : ¬ (k : Int) < 12 := by omega
        clear hkn HM
        go_wp2
        exact bodyPost_ret (v := .tuple #[.pointer (some ⟨y.tb, 0, none⟩), .pointer (some ⟨w1.heap.size, 0, none⟩), .int .i64 a, .int .i64 b, .bool true]) (by simp [results, Try.results6, go_sem]) rfl ⟨y.tb, w1.heap.size, a, ⟨b, rfl⟩, HR.out⟩
      · have hk1 : ¬ (k : Int) < (len : Int) := by omega
        clear hkn HM
        go_wp2
        exact bodyPost_ret (v := .tuple #[.pointer (some ⟨y.tb, 0, none⟩), .pointer (some ⟨w1.heap.size, 0, none⟩), .int .i64 a, .int .i64 b, .bool true]) (by simp [results, Try.results6, go_sem]) rfl ⟨y.tb, w1.heap.size, a, ⟨b, rfl⟩, HR.out⟩

set_option maxHeartbeats 2000000 in
theorem dmade_bad (bits : Int) (hb : bits < 1 ∨ 128 < bits) (v : Value) (w : World) :
    Calls Try.prog 6 #[.int .i64 bits, .int .i64 1048576, v] w fun e w' => e = .returned (.tuple #[.pointer none, .pointer none, .int .i64 0, .int .i64 0, .bool true]) ∧ w' = w := by
  have HN := keep (New_err w bits hb)
  have HQ := keep (qnew_err bits 1048576 (by omega) w)
  clear hb
  go_enter Try.func6, Try.ntmps6
  go_wp2_with fail
  refine HN.out.mono ?_
  rintro e w1 ⟨rfl, rfl⟩
  go_wp2_with fail
  refine HQ.out.mono ?_
  rintro e w2 ⟨rfl, rfl⟩
  go_wp2
  exact bodyPost_ret (v := .tuple #[.pointer none, .pointer none, .int .i64 0, .int .i64 0, .bool true]) (by simp [results, Try.results6, go_sem]) rfl ⟨rfl, rfl⟩
end Go.Proofs.Ytnkipdlfpnmgeaa
namespace Go.Proofs.Ytnkipdlfpnmgeaa
open Go.RowKit Go.Maps
open Bd (Nd ff tt iteF)

theorem exact_nil : Exact [] [] [] [] [] := by
  refine ⟨Cover.nil _, fun i => ⟨fun h => ?_, fun ⟨r, h, _⟩ => ?_⟩, fun n hn => ?_, fun r h => ?_⟩
  · simp [Mk] at h
  · simp [Mk] at h
  · simp at hn
  · simp [Mk] at h

set_option maxRecDepth 4000 in
set_option maxHeartbeats 8000000 in
theorem dmadex_any {nb M : Nat} (A : Bd.Fam nb M) (lim : Nat) (a0 : Option Addr) (len cap : Nat) (ss : List ByteArray) (w : World) (hv : Came w a0 len cap ss) (hA : OrIn A ss 12) (h1 : 1 ≤ nb) (h2 : nb ≤ 128) (hl : lim ≤ 1048576) (hbM : nb * M ≤ 524288) :
    Calls Try.prog 6 #[.int .i64 nb, .int .i64 lim, .slice a0 len cap] w fun e w' => ∃ tb qb a b : Nat, e = .returned (.tuple #[.pointer (some ⟨tb, 0, none⟩), .pointer (some ⟨qb, 0, none⟩), .int .i64 a, .int .i64 b, .bool true]) ∧ MadeX A lim w w' tb qb 24 a b := by
  have HN := keep (New_ok w nb lim h1 h2 hl)
  have HQN := keep (fun w => qnew_ok nb lim h1 h2 hl w)
  have HV := keep hv
  have HA := keep hA
  have HE := keep (And.intro h1 (And.intro h2 hbM))
  have hlen : len ≤ maxLen := by
    rcases hv with ⟨_, e, _⟩ | ⟨_, _, e1, e2, _⟩
    · rw [e]; simp [maxLen]
    · omega
  unfold maxLen at hlen
  clear hv hA h1 h2 hl hbM
  go_enter Try.func6, Try.ntmps6
  go_wp2_with fail
  refine HN.out.mono ?_
  rintro e w1 ⟨y, rfl, hT, hb, hy⟩
  have HT1 := keep hT
  have HB1 := keep hb
  have HY1 := keep hy
  clear hT hb hy HN
  go_wp2_with fail
  refine (HQN.out w1).mono ?_
  rintro e w2 ⟨rfl, hQ, hb2⟩
  have H0 : Hid (MadeX A lim w w2 y.tb w1.heap.size 0 0 0) := by
    have hB2 : Below w.heap.size w w2 := HB1.out.trans (hb2.mono HB1.out.size)
    refine ⟨y, [], [], 0, _, [], [], [], ff, rfl, rfl, ⟨HT1.out.below hb2, Bd.within_nil _, hQ, Bd.within_nil _, hB2, HY1.out, fun j hj => ?_, fun j hj hq => ?_, exact_nil, Nat.zero_le _⟩, Nat.le_refl _, ⟨rfl, by simp, Bd.den_zero _⟩, ⟨Or.inl (by omega), by simp, Bd.den_zero _⟩, HA.out.none⟩
    · rcases hj with e | e | e | e
      · have := HB1.out.size; have e' : j = w1.heap.size := e; omega
      · simp [Value.ownBlock] at e
      · simp [Value.ownBlock] at e
      · simp [Value.ownBlock] at e
    · have hjl := HT1.out.lt hj
      rcases hq with e | e | e | e
      · have e' : j = w1.heap.size := e; omega
      · simp [Value.ownBlock] at e
      · simp [Value.ownBlock] at e
      · simp [Value.ownBlock] at e
  clear hQ hb2 HT1 HB1 HY1 HQN
  go_wp2
  go_loopw [15, 16, 17] (fun p q i wr => ∃ k a b : Nat, k ≤ min len 12 ∧ p = .int .i64 a ∧ q = .int .i64 b ∧ i = .int .i64 k ∧ Hid (MadeX A lim w wr y.tb w1.heap.size (2 * k) a b)) (fun _ _ i _ => 12 - (intOf i).toNat)
  case atStart => exact ⟨0, 0, 0, Nat.zero_le _, rfl, rfl, rfl, H0⟩
  case round =>
    obtain ⟨k, a, b, hk, rfl, rfl, rfl, HM⟩ := hrel
    by_cases hlt : k < min len 12
    · have hk1 : (k : Int) < (len : Int) := by omega
      have hk2 : (k : Int) < 12 := by omega
      have hk0 : (0 : Int) ≤ (k : Int) := by omega
      obtain ⟨g, o, rfl, hg, hc, _⟩ := text_of HV.out (show k < len by omega)
      have HBW := keep HM.out.out
      have cr : wr.cell? ⟨g, o + k, none⟩ = some (.string (ss.getD k ByteArray.empty)) := by rw [HBW.out.cell (by exact hg)]; exact hc
      obtain ⟨e1, e2, e4⟩ := HE.out
      rcases two_bool (letB (ss.getD k ByteArray.empty) nb) with hlb | hlb
      · have HS := keep (madex_skip (came_size HV.out k) hlb HM.out)
        generalize ss.getD k ByteArray.empty = t at *
        clear hlb hc e1 e2 e4
        go_wp2_with fail
        refine HS.out.mono ?_
        rintro e w3 ⟨rfl, hb3, HS2⟩
        have cr3 : w3.cell? ⟨g, o + k, none⟩ = some (.string t) := by
          rw [hb3.cell (by exact hg), ← HBW.out.cell (by exact hg)]; exact cr
        clear hb3 HS
        go_wp2_with fail
        refine HS2.out.mono ?_
        rintro e w4 ⟨rfl, hb4, HM4⟩
        clear hb4 HS2
        go_wp2
        go_roundw
        case rel => exact ⟨k + 1, a, b, by omega, rfl, rfl, by go_num, HM4⟩
        case measure => simp [intOf]; omega
      · have HS := keep (madex_step (HA.out.cube k (by omega) hlb) HA.out.join e1 e2 e4 (by omega) hlb HM.out)
        generalize ss.getD k ByteArray.empty = t at *
        clear hlb hc e1 e2 e4
        go_wp2_with fail
        refine HS.out.mono ?_
        rintro e w3 (⟨c, rfl, hb3, HS2⟩ | ⟨rfl, hb3, HS2⟩)
        · have cr3 : w3.cell? ⟨g, o + k, none⟩ = some (.string t) := by
            rw [hb3.cell (by exact hg), ← HBW.out.cell (by exact hg)]; exact cr
          clear hb3 HS
          go_wp2_with fail
          refine HS2.out.mono ?_
          rintro e w4 ⟨d, rfl, hb4, HS3⟩
          clear hb4 HS2
          go_wp2_with fail
          refine HS3.out.mono ?_
          rintro e w5 (⟨a', rfl, hb5, HS4⟩ | ⟨rfl, hb5, HS4⟩)
          · clear hb5 HS3
            go_wp2_with fail
            refine HS4.out.mono ?_
            rintro e w6 ⟨b', rfl, hb6, HM6⟩
            clear hb6 HS4
            go_wp2
            go_roundw
            case rel => exact ⟨k + 1, a', b', by omega, rfl, rfl, by go_num, HM6⟩
            case measure => simp [intOf]; omega
          · clear hb5 HS3
            go_wp2_with fail
            refine HS4.out.mono ?_
            rintro e w6 ⟨rfl, hb6, HM6⟩
            clear hb6 HS4
            go_wp2
            go_roundw
            case rel => exact ⟨k + 1, a, b, by omega, rfl, rfl, by go_num, HM6⟩
            case measure => simp [intOf]; omega
        · have cr3 : w3.cell? ⟨g, o + k, none⟩ = some (.string t) := by
            rw [hb3.cell (by exact hg), ← HBW.out.cell (by exact hg)]; exact cr
          clear hb3 HS
          go_wp2_with fail
          refine HS2.out.mono ?_
          rintro e w4 ⟨rfl, hb4, HM4⟩
          clear hb4 HS2
          go_wp2
          go_roundw
          case rel => exact ⟨k + 1, a, b, by omega, rfl, rfl, by go_num, HM4⟩
          case measure => simp [intOf]; omega
    · have hkn : k = min len 12 := by omega
      have HR : Hid (MadeX A lim w wr y.tb w1.heap.size 24 a b) := by
        obtain ⟨y', L, roots, m, yq, LQ, U, T, f, q1, q2, q3, q4, q5⟩ := HM.out.ex
        exact ⟨y', L, roots, m, yq, LQ, U, T, f, q1, q2, q3, by omega, q5⟩
      by_cases h12 : k < len
      · have hk1 : (k : Int) < (len : Int) := by omega
        have hk2 : ¬ (k : Int) < 12 := by omega
        clear hkn HM
        go_wp2
        exact bodyPost_ret (v := .tuple #[.pointer (some ⟨y.tb, 0, none⟩), .pointer (some ⟨w1.heap.size, 0, none⟩), .int .i64 a, .int .i64 b, .bool true]) (by simp [results, Try.results6, go_sem]) rfl ⟨y.tb, w1.heap.size, a, b, rfl, HR.out⟩
      · have hk1 : ¬ (k : Int) < (len : Int) := by omega
        clear hkn HM
        go_wp2
        exact bodyPost_ret (v := .tuple #[.pointer (some ⟨y.tb, 0, none⟩), .pointer (some ⟨w1.heap.size, 0, none⟩), .int .i64 a, .int .i64 b, .bool true]) (by simp [results, Try.results6, go_sem]) rfl ⟨y.tb, w1.heap.size, a, b, rfl, HR.out⟩

end Go.Proofs.Ytnkipdlfpnmgeaa
namespace Go.Proofs.Ytnkipdlfpnmgeaa
open Go.RowKit Go.Maps
open Bd (Nd)

set_option maxHeartbeats 400000 in
theorem Bits_ok {w : World} {y : Lay} {s : St} (hT : Tab w y s) : Calls Try.prog 27 #[.pointer (some ⟨y.tb, 0, none⟩)] w fun e w' => e = .returned (.int .i64 s.bits) ∧ w' = w := by
  have c5 : w.cell? ⟨y.tb, 5, none⟩ = some (.int .i64 s.bits) := by rw [cell_at hT.cells]; rfl
  have q1 := made_ok hT
  clear hT
  go_enter Try.func27, Try.ntmps27
  go_wp2_with (go_at_call 34; refine q1.mono ?_; rintro e w' ⟨rfl, rfl⟩)
  go_ret
  exact ⟨rfl, rfl⟩
set_option maxHeartbeats 400000 in
theorem dmade_ok {w : World} {y : Lay} {s : St} (hT : Tab w y s) : Calls Try.prog 30 #[.pointer (some ⟨y.tb, 0, none⟩)] w fun e w' => e = .returned (.bool true) ∧ w' = w := by
  have q1 := keep (Bits_ok hT)
  have h1 : ((0 : Int) < (s.bits : Int)) = True := eq_true (by have := hT.small.2.2.2.2; omega)
  clear hT
  go_enter Try.func30, Try.ntmps30
  go_wp2_with fail
  refine q1.out.mono ?_
  rintro e w' ⟨rfl, rfl⟩
  go_wp2
  go_ret
  exact ⟨by simp at h1; simp [h1], rfl⟩
set_option maxHeartbeats 400000 in
theorem dmade_no {w : World} {p : Value} (h : Nobody w p) : Calls Try.prog 30 #[p] w fun e w' => e = .returned (.bool false) ∧ w' = w := by
  have q1 := keep (Bits_no h)
  clear h
  go_enter Try.func30, Try.ntmps30
  go_wp2_with fail
  refine q1.out.mono ?_
  rintro e w' ⟨rfl, rfl⟩
  go_wp2
  go_ret
  exact ⟨rfl, rfl⟩
set_option maxHeartbeats 400000 in
theorem dsize_any (n : Nat) (hn : n ≤ 1073741826) (w : World) : Calls Try.prog 26 #[.int .i64 n] w fun e w' => e = .returned (.int .i64 ((if n = 0 then 6 else 5 + 9 * n : Nat) : Int)) ∧ w' = w := by
  have hnI : (n : Int) ≤ 1073741826 := by omega
  by_cases h : n = 0
  · subst h
    go_enter Try.func26, Try.ntmps26
    go_wp2
    go_ret
    exact ⟨rfl, rfl⟩
  · have hI : ((n : Int) == 0) = false := by rw [beq_eq_false_iff_ne]; omega
    have e : ((if n = 0 then 6 else 5 + 9 * n : Nat) : Int) = 5 + 9 * (n : Int) := by rw [if_neg h]; omega
    rw [e]
    clear e h
    go_enter Try.func26, Try.ntmps26
    go_wp2
    go_ret
    exact ⟨rfl, rfl⟩

/-- The bytes of a number. -/
def four (n : Nat) : List UInt8 := [UInt8.ofNat (n / 16777216), UInt8.ofNat (n / 65536), UInt8.ofNat (n / 256), UInt8.ofNat n]
def byts (l : List UInt8) : List Value := l.map fun c => Value.int .u8 (c.toNat : Int)
theorem byts_append (a b : List UInt8) : byts (a ++ b) = byts a ++ byts b := by simp [byts]

theorem Try.infoByteD : (Try.prog.info? 5).map (fun i => (i.zero, i.size, i.bytes)) = some (some (.int .u8 0), 1, 1) := by kernel_rfl

theorem four_vals (n : Nat) (hn : n ≤ 1073741826) : byts (four n) = [.int .u8 ((n : Int) / 16777216), .int .u8 ((n : Int) / 65536 % 256), .int .u8 ((n : Int) / 256 % 256), .int .u8 ((n : Int) % 256)] := by
  have e : ∀ m : Nat, ((UInt8.ofNat m).toNat : Int) = (m : Int) % 256 := by intro m; simp [UInt8.toNat_ofNat']
  have e0 : (((n / 16777216 : Nat) : Int)) % 256 = (n : Int) / 16777216 := by omega
  have e1 : (((n / 65536 : Nat) : Int)) % 256 = (n : Int) / 65536 % 256 := by omega
  have e2 : (((n / 256 : Nat) : Int)) % 256 = (n : Int) / 256 % 256 := by omega
  simp only [byts, four, List.map_cons, List.map_nil, e, e0, e1, e2]

/-- Bytes on their way, in a row of one's own that lies behind B and is not block gl. -/
structure Byt (B gl : Nat) (ob : Obj) (w0 w : World) (v : Value) (l : List UInt8) : Prop where
  row : w.ownsRow 0 5 1 v l.length (byts l)
  own : ∀ g, v.ownBlock = some g → B ≤ g ∧ g ≠ gl
  below : Below B w0 w
  size : B ≤ w.heap.size
  lst : w.heap[gl]? = some ob
theorem Byt.grow {B gl : Nat} {ob : Obj} {w0 w w' : World} {v : Value} {l m : List UInt8} {o : Obj} {g cap k : Nat} (h : Byt B gl ob w0 w v l) (hk : k = l.length + m.length) (hown : w'.ownsRow 0 5 1 (.slice (some ⟨g, 0, none⟩) k cap) k (byts l ++ byts m)) (hg : (w.alloc o).grownBy w' v.ownBlock) (hat : v.ownBlock = some g ∨ g = w.heap.size + 1) : Byt B gl ob w0 w' (.slice (some ⟨g, 0, none⟩) k cap) (l ++ m) := by
  have old : ∀ j, j < w.heap.size → some j ≠ v.ownBlock → w'.heap[j]? = w.heap[j]? := fun j hj hne => (hg.block j (by simp; omega) hne).trans (heap_alloc_old w o hj)
  have hsz : w.heap.size + 1 ≤ w'.heap.size := by have := hg.size; simpa using this
  have hB := h.size
  have hgl := block_lt h.lst
  refine ⟨by rw [byts_append, List.length_append, ← hk]; exact hown, fun g' hg' => ?_, ⟨hg.os.trans h.below.os, hg.tape.trans h.below.tape, hg.output.trans h.below.output, by have := h.below.size; omega, fun j hj => (old j (by omega) (fun e => by have := (h.own j e.symm).1; omega)).trans (h.below.block j hj)⟩, by omega, (old gl hgl (fun e => (h.own gl e.symm).2 rfl)).trans h.lst⟩
  have eg : g = g' := Option.some.inj hg'
  subst eg
  rcases hat with e | e
  · exact h.own g e
  · exact ⟨by omega, by omega⟩

set_option maxHeartbeats 1000000 in
theorem put_ok {B gl : Nat} {ob : Obj} {w0 w : World} {v : Value} {l : List UInt8} (h : Byt B gl ob w0 w v l) (n : Nat) (hn : n ≤ 1073741826) (hl : l.length ≤ 100000000000) :
    Calls Try.prog 28 #[v, .int .i64 n] w fun e w' => ∃ g cap, e = .returned (.slice (some ⟨g, 0, none⟩) (l.length + 4) cap) ∧ Byt B gl ob w0 w' (.slice (some ⟨g, 0, none⟩) (l.length + 4) cap) (l ++ four n) ∧ (v.ownBlock = some g ∨ g = w.heap.size + 1) ∧ (∀ j, j < w.heap.size → some j ≠ v.ownBlock → w'.heap[j]? = w.heap[j]?) := by
  obtain ⟨i0, hi, hz0, hz1, hz2⟩ := info_parts Try.infoByteD
  have HI := keep hi
  have HZ0 := keep hz0
  have HZ1 := keep hz1
  have HZ2 := keep hz2
  have H := keep h
  have HROW : Hid (∀ o, (w.alloc o).ownsRow 0 5 1 v l.length (byts l)) := fun o => h.row.alloc o
  have HFV := keep (four_vals n hn)
  have hnI : (n : Int) ≤ 1073741826 := by omega
  have hn0 : (0 : Int) ≤ (n : Int) := by omega
  obtain ⟨k, hk⟩ : ∃ k, k = l.length := ⟨_, rfl⟩
  have HK := keep hk
  rw [← hk] at HROW hl ⊢
  clear h hi hz0 hz1 hz2 hn hk
  go_enter Try.func28, Try.ntmps28
  go_wp2_with (first | (at_builtin; refine wpList_append_lies _ rfl (.tmp 5) (.tmp 17) 29 rfl 0 5 i0 (.int .u8 0) 1 1 Try.underlying29 HI.out HZ0.out HZ1.out HZ2.out rfl (by decide) v k (byts l) rfl (HROW.out _) ⟨w.heap.size, 0, none⟩ 4 4 [.int .u8 ((n : Int) / 16777216), .int .u8 ((n : Int) / 65536 % 256), .int .u8 ((n : Int) / 256 % 256), .int .u8 ((n : Int) % 256)] rfl rfl (World.news_of_block (heap_alloc_new w _)) (by simp [Value.oneCell']) (by decide) (by unfold maxLen; omega) (by omega) (Nat.zero_le _) (w.heap.size + 1) (by simp) ?_; intro g4 cap4 w4 hown4 hgrow4 hat4 hlt4))
  go_ret
  rw [← HFV.out] at hown4
  exact ⟨g4, cap4, rfl, H.out.grow (by rw [HK.out]; rfl) hown4 hgrow4 hat4, hat4, fun j hj hne => (hgrow4.block j (by simp; omega) hne).trans (heap_alloc_old w _ hj)⟩
end Go.Proofs.Ytnkipdlfpnmgeaa
