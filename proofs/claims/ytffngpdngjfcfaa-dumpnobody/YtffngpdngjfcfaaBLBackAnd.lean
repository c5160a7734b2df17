/-
  Write: a function's bytes.
  dump: Bits, made, size, put: a number behind bytes.
  made: a table, and the document's, with the headers that some cubes have together.
  The program's table beside the document's: what made's loop leaves.
  The law BddBack: lists of functions, and functions of lists.
-/
import Derived.Test.YtffngpdngjfcfaaBBuildAnd
import Derived.Test.YtffngpdngjfcfaaBCubesAnd
import Derived.Test.YtffngpdngjfcfaaQIteTAnd
import Derived.Test.YtffngpdngjfcfaaBNoAnsAnd
import Derived.Test.YtffngpdngjfcfaaBListAnd
import Derived.Test.YtffngpdngjfcfaaBShrAAnd
namespace Go.Proofs.Ytffngpdngjfcfaa
open Go.RowKit Go.Maps
open Bd (Nd ff tt iteF)

set_option maxRecDepth 4000 in
set_option maxHeartbeats 1000000 in
/-- List, and where its nodes lie. -/
theorem List_new {w : World} {y : Lay} {s : St} (hT : Tab w y s) (h2 : 2 ≤ s.first) (r n : Nat) (hn : s.node? r = some n) (hnl : n < s.L.length + 2) :
    Calls Try.prog 27 #[.pointer (some ⟨y.tb, 0, none⟩), .int .i64 r] w fun e w' => ∃ g cap, e = .returned (.tuple #[.slice (some ⟨g, 0, none⟩) (listOf s.L n).length cap, .int .i64 0]) ∧ w'.ownsRow 0 82 3 (.slice (some ⟨g, 0, none⟩) (listOf s.L n).length cap) (listOf s.L n).length (flat (listOf s.L n)) ∧ w.heap.size ≤ g ∧ Below w.heap.size w w' := by
  have HT := keep hT
  have q1 := root_ok hT h2 r n hn
  clear hT hn
  go_enter Try.func27, Try.ntmps27
  go_wp2_with fail
  refine q1.mono ?_
  clear q1
  rintro e w1 ⟨rfl, hb1⟩
  have HB1 := keep hb1
  have HT1 := keep (HT.out.below hb1)
  have c3 : w1.cell? ⟨y.tb, 3, none⟩ = some y.ls := by rw [cell_at HT1.out.cells]; rfl
  obtain ⟨ao, cap, hls⟩ := HT1.out.list_slice
  rw [hls] at c3
  clear hb1
  go_wp2_with fail
  refine (orderOf_one (lv := .slice ao s.L.length cap) (L := s.L) (by rw [← hls]; exact HT1.out.list.alloc _) HT.out.okay.falls HT.out.small.1 n w1.heap.size 1 hnl (by simp) (by rw [cell_at (heap_alloc_new w1 _)]; rfl)).mono ?_
  rintro e w2 ⟨ob, pb, rfl, hO, hb2⟩
  have HB2 := keep (((Below.refl _ _).alloc (Nat.le_refl _) _).trans (hb2.mono (by simp)) : Below w1.heap.size w1 w2)
  have HO := keep hO
  clear hb2 hO
  have hnd := vis_nodup s.L 2 HT.out.okay.falls (by omega) (n + 1) n [] hnl (by simp)
  have hvl := vis_lt s.L 2 HT.out.okay.falls (by omega) (n + 1) n [] hnl (by simp)
  have hlen : (vis s.L 2 (n + 1) n []).length ≤ 1073741826 := by
    have h1 : (vis s.L 2 (n + 1) n []).length ≤ s.L.length + 2 := by
      have := List.Nodup.length_le_of_subset (l₂ := List.range (s.L.length + 2)) hnd (fun m hm => List.mem_range.2 (hvl m hm).2)
      simpa using this
    have := HT.out.small.1
    omega
  go_wp2_with fail
  refine (nodes_any HO.out hnd hvl (by omega) HT.out.okay.falls HT.out.small.1 (by omega) hlen).mono ?_
  rintro e w3 ⟨rfl, hown, hb3⟩
  have HOWN := keep hown
  clear hown hnd hvl
  go_wp2
  go_ret2
  have e1 : (listOf s.L n).length = (vis s.L 2 (n + 1) n []).length := by unfold listOf; rw [List.length_map]
  refine ⟨w2.heap.size, (vis s.L 2 (n + 1) n []).length, by rw [e1]; rfl, ?_, Nat.le_trans HB1.out.size HB2.out.size, HB1.out.trans ((HB2.out.trans (hb3.mono HB2.out.size)).mono HB1.out.size)⟩
  rw [e1]
  exact HOWN.out

theorem nodesIn_any {w : World} {g cap : Nat} {L : List Nd} (h : w.ownsRow 0 82 3 (.slice (some ⟨g, 0, none⟩) L.length cap) L.length (flat L)) : NodesIn w (.slice (some ⟨g, 0, none⟩) L.length cap) L := by
  rcases Nat.eq_zero_or_pos L.length with h0 | h0
  · exact ⟨g, cap, rfl, fun i x hx => by have := Bd.getElem?_lt hx; omega⟩
  · exact nodesIn_of h h0

/-- The list of a function. -/
structure Listed {nb M : Nat} (A : Bd.Fam nb M) (Q : List Nd) (f : Bd.Fn) : Prop where
  ex : ∃ L n, Bd.Okay nb L ∧ n < L.length + 2 ∧ Bd.den L n = f ∧ Q = listOf L n
  within : Bd.Within A Q
  few : Q.length ≤ 1073741824

theorem listed_one {nb M M' : Nat} {A : Bd.Fam nb M} {A' : Bd.Fam nb M'} {Q Q' : List Nd} {f : Bd.Fn} (h : Listed A Q f) (h' : Listed A' Q' f) : Q = Q' := by
  obtain ⟨L, n, a1, a2, a3, rfl⟩ := h.ex
  obtain ⟨L', n', b1, b2, b3, rfl⟩ := h'.ex
  exact list_alike a1 b1 ⟨a2, b2, a3.trans b3.symm⟩
theorem list_end {L : List Nd} {n : Nat} (h : n < 2) : listOf L n = [] := by
  unfold listOf vis
  rw [if_pos h]; rfl
theorem listed_right {nb M : Nat} {A : Bd.Fam nb M} {Q : List Nd} {f : Bd.Fn} (h : Listed A Q f) : (Q = [] ∧ (f = ff ∨ f = tt)) ∨ (Right nb Q ∧ 1 ≤ Q.length ∧ Bd.den Q (Q.length + 1) = f) := by
  obtain ⟨L, n, a1, a2, rfl, rfl⟩ := h.ex
  rcases Nat.lt_or_ge n 2 with h2 | h2
  · refine Or.inl ⟨list_end h2, ?_⟩
    rcases Nat.lt_or_ge n 1 with h1 | h1
    · have : n = 0 := by omega
      subst this
      exact Or.inl (Bd.den_zero _)
    · have : n = 1 := by omega
      subst this
      exact Or.inr (Bd.den_one _)
  · obtain ⟨b1, b2⟩ := list_last a1 h2 a2
    exact Or.inr ⟨list_right a1 h2 a2, b1, b2⟩
theorem listed_ok {nb M : Nat} (hnb : nb ≤ 128) {A : Bd.Fam nb M} {Q : List Nd} {f : Bd.Fn} (h : Listed A Q f) : Right nb Q := by
  rcases listed_right h with ⟨rfl, _⟩ | ⟨h, _⟩
  · exact Right.nil hnb
  · exact h
theorem listed_last {nb M : Nat} {A : Bd.Fam nb M} {Q : List Nd} {f : Bd.Fn} (h : Listed A Q f) (hf : f ≠ tt) : lastF Q = f := by
  unfold lastF
  rcases listed_right h with ⟨rfl, h | h⟩ | ⟨_, h1, h2⟩
  · rw [if_pos (show ([] : List Nd).length = 0 from rfl)]; exact h.symm
  · exact absurd h hf
  · rw [if_neg (by omega)]; exact h2
theorem listed_of {nb M : Nat} {A : Bd.Fam nb M} {L : List Nd} {n : Nat} (hL : Bd.Okay nb L) (hn : n < L.length + 2) (hW : Bd.Within A L) (hs : L.length ≤ 1073741824) : Listed A (listOf L n) (Bd.den L n) := by
  refine ⟨⟨L, n, hL, hn, rfl, rfl⟩, fun i x hx => ?_, Nat.le_trans (list_few hL hn) hs⟩
  obtain ⟨hQ, hd⟩ := list_okay hL hn
  have hi : i < (ords L n).length := by rw [← list_length]; exact Bd.getElem?_lt hx
  have e1 : (ords L n)[i]? = some (ords L n)[i] := List.getElem?_eq_getElem hi
  rw [hd i _ e1]
  rw [list_at e1] at hx
  obtain ⟨m1, m2⟩ := ords_lt hL hn _ (List.getElem_mem hi)
  generalize (ords L n)[i] = m at *
  have hx1 : x.1 = (L.getD (m - 2) (0, 0, 0)).1 := by rw [← Option.some.inj hx]; rfl
  rw [hx1]
  have hm := (half_of hL m1 m2).1
  have := hW (m - 2) _ hm
  rw [show m - 2 + 2 = m by omega] at this
  exact this
theorem listed_den {nb M : Nat} {A : Bd.Fam nb M} {Q : List Nd} {f : Bd.Fn} (h : Listed A Q f) (hQ : Bd.Okay nb Q) : Bd.Within (denFam A Q hQ) Q := fun i x hx => ⟨h.within i x hx, i + 2, by have := Bd.getElem?_lt hx; omega, rfl⟩

section
variable {nb M : Nat} {A : Bd.Fam nb M} {B : Nat} {w0 w w' : World} {tb K : Nat} {fs : List (Nat × Bd.Fn)} {hs : List (Nat × Obj)}

theorem Live.tt (h : Live A B w0 w tb K fs hs) {f : Bd.Fn} (hr : (1, f) ∈ fs) : f = tt := by
  obtain ⟨y, L, roots, e, hT, hW, hK, hb0, hy, hB, hf, hh⟩ := h.ex
  obtain ⟨m, a1, a2, a3⟩ := hf _ hr
  have : (1 : Nat) = m := Option.some.inj a1
  subst this
  exact a3.symm.trans (Bd.den_one _)

theorem live_list (h : Live A B w0 w tb K fs hs) {r : Nat} {f : Bd.Fn} (hr : (r, f) ∈ fs) :
    Calls Try.prog 27 #[.pointer (some ⟨tb, 0, none⟩), .int .i64 r] w fun e w' => ∃ (Q : List Nd) (g cap : Nat) (o : Obj), e = .returned (.tuple #[.slice (some ⟨g, 0, none⟩) Q.length cap, .int .i64 0]) ∧ Listed A Q f ∧ w'.ownsRow 0 82 3 (.slice (some ⟨g, 0, none⟩) Q.length cap) Q.length (flat Q) ∧ Live A B w0 w' tb K fs ((g, o) :: hs) := by
  have h0 := h
  obtain ⟨y, L, roots, rfl, hT, hW, hK, hb0, hy, hB, hf, hh⟩ := h.ex
  obtain ⟨m, a1, a2, a3⟩ := hf _ hr
  have a3' : Bd.den L m = f := a3
  subst a3'
  refine (List_new (s := ⟨L, roots, 2, nb, 1048576⟩) hT (Nat.le_refl _) r m a1 a2).mono ?_
  rintro e w' ⟨g, cap, rfl, hrow, hg, hb⟩
  obtain ⟨cur, hcur⟩ := owned_cells hrow (g := g) rfl
  refine ⟨listOf L m, g, cap, .cells cur 82 (0, 0), rfl, listed_of hT.okay a2 hW hT.small.1, hrow, y, L, roots, rfl, hT.below hb, hW, hK, hb0.trans (hb.mono hB), hy, Nat.le_trans hB hb.size, hf, fun q hq => ?_⟩
  rcases List.mem_cons.1 hq with e | hq
  · rw [e]; exact ⟨hcur, fun ho => by have := hT.lt ho; omega⟩
  · exact ⟨(hb.block _ (block_lt (hh q hq).1)).trans (hh q hq).1, (hh q hq).2⟩

theorem live_make (h : Live A B w0 w tb K fs hs) (hK : K < 1000000) (hlim : nb * M ≤ 1048576) {Q : List Nd} {g cap : Nat} {o : Obj} (hrow : w.ownsRow 0 82 3 (.slice (some ⟨g, 0, none⟩) Q.length cap) Q.length (flat Q)) (hg : (g, o) ∈ hs) (hR : Right nb Q) (hlen : Q.length ≤ 1073741824) (hF : Bd.Within A Q) :
    Calls Try.prog 28 #[.pointer (some ⟨tb, 0, none⟩), .slice (some ⟨g, 0, none⟩) Q.length cap] w fun e w' => ∃ r : Nat, e = .returned (.tuple #[.int .i64 r, .int .i64 0, .int .i64 0]) ∧ Live A B w0 w' tb (K + 1) ((r, lastF Q) :: fs) hs := by
  obtain ⟨y, L, roots, rfl, hT, hW, hK', hb0, hy, hB, hf, hh⟩ := h.ex
  refine (Make_ok (s := ⟨L, roots, 2, nb, 1048576⟩) A hT hW (Nat.le_refl _) (by show roots.length + 1 ≤ _; omega) hlim Q _ hrow (fun k hk => by cases hk; exact (hh _ hg).2) hR hlen hF).mono ?_
  rintro e w' ⟨r, rfl, ht⟩
  exact ⟨r, rfl, live_told hK' hb0 hy hB hf hh ht⟩
theorem row_held {o : Obj} {g cap n : Nat} {xs : List Value} (hrow : w.ownsRow 0 82 3 (.slice (some ⟨g, 0, none⟩) n cap) n xs) (h1 : w.heap[g]? = some o) (h2 : w'.heap[g]? = some o) : w'.ownsRow 0 82 3 (.slice (some ⟨g, 0, none⟩) n cap) n xs :=
  row_same hrow fun q hq => by cases hq; exact h2.trans h1.symm

theorem live_new (A : Bd.Fam nb M) (hb0 : Below B w0 w) (hB : B ≤ w.heap.size) (h1 : 1 ≤ nb) (h2 : nb ≤ 128) (hh : ∀ q, q ∈ hs → w.heap[q.1]? = some q.2) :
    Calls Try.prog 13 #[.int .i64 (nb : Int), .int .i64 1048576] w fun e w' => ∃ tb, e = .returned (.tuple #[.pointer (some ⟨tb, 0, none⟩), .int .i64 0]) ∧ Live A B w0 w' tb 0 [] hs := by
  refine (New_ok w nb 1048576 h1 h2 (Nat.le_refl _)).mono ?_
  rintro e w' ⟨y, rfl, hT, hb, hy⟩
  refine ⟨y.tb, rfl, y, [], [], rfl, hT, Bd.within_nil _, Nat.le_refl _, hb0.trans (hb.mono hB), fun j hj => Nat.le_trans hB (hy j hj), Nat.le_trans hB hb.size, fun p hp => by simp at hp, fun q hq => ?_⟩
  have hl := block_lt (hh q hq)
  exact ⟨(hb.block _ hl).trans (hh q hq), fun ho => by have := hy _ ho; omega⟩

/-- A table with no nodes but those of a list has as many. -/
theorem live_exact {Q : List Nd} {hQ : Bd.Okay nb Q} {f : Bd.Fn} {r : Nat} (h : Live (denFam A Q hQ) B w0 w tb K fs hs) (hr : (r, f) ∈ fs) (hl : Listed A Q f) : Calls Try.prog 30 #[.pointer (some ⟨tb, 0, none⟩)] w fun e w' => e = .returned (.int .i64 Q.length) ∧ w' = w := by
  obtain ⟨y, L, roots, rfl, hT, hW, hK, hb0, hy, hB, hf, hh⟩ := h.ex
  obtain ⟨m, a1, a2, a3⟩ := hf _ hr
  have a3' : Bd.den L m = f := a3
  have h1 := den_few hT.okay hW
  have h2 := list_few hT.okay a2
  have h3 : Q = listOf L m := listed_one hl (a3' ▸ listed_of hT.okay a2 hW hT.small.1)
  rw [← h3] at h2
  have e : L.length = Q.length := by
    have h1' : L.length ≤ Q.length := h1
    have h2' : Q.length ≤ L.length := h2
    omega
  have := Size_ok hT
  have hs' : (⟨L, roots, 2, nb, 1048576⟩ : St).L.length = Q.length := e
  rw [hs'] at this
  exact this
end
end Go.Proofs.Ytffngpdngjfcfaa
namespace Go.Proofs.Ytffngpdngjfcfaa
open Go.RowKit Go.Maps
open Bd (Nd ff tt iteF)

/-- The function of the first k texts: those that are cubes of so many bits. -/
def madeF (nb : Nat) (ss : List ByteArray) : Nat → Bd.Fn
  | 0 => ff
  | k + 1 => if letB (ss.getD k ByteArray.empty) nb = true then iteF (madeF nb ss k) tt (suf (ss.getD k ByteArray.empty) 0) else madeF nb ss k
theorem madeF_succ (nb : Nat) (ss : List ByteArray) (k : Nat) : madeF nb ss (k + 1) = if letB (ss.getD k ByteArray.empty) nb = true then iteF (madeF nb ss k) tt (suf (ss.getD k ByteArray.empty) 0) else madeF nb ss k := rfl

/-- A family in which made's functions lie. -/
structure OrIn {nb M : Nat} (A : Bd.Fam nb M) (ss : List ByteArray) (n : Nat) : Prop where
  none : A.F 0 ff
  cube : ∀ i, i < n → letB (ss.getD i ByteArray.empty) nb = true → A.F 0 (suf (ss.getD i ByteArray.empty) 0)
  join : ∀ f g, A.F 0 f → A.F 0 g → A.F 0 (iteF f tt g)
theorem OrIn.made {nb M : Nat} {A : Bd.Fam nb M} {ss : List ByteArray} {n : Nat} (h : OrIn A ss n) : ∀ k, k ≤ n → A.F 0 (madeF nb ss k) := by
  intro k
  induction k with
  | zero => intro _; exact h.none
  | succ k ih =>
    intro hk
    rw [madeF_succ]
    split
    · rename_i hl
      exact h.join _ _ (ih (by omega)) (h.cube k (by omega) hl)
    · exact ih (by omega)
theorem ite_or (f g : Bd.Fn) : iteF g tt f = iteF f tt g := by
  funext h
  unfold iteF tt
  cases f h <;> cases g h <;> rfl
theorem ite_or_ff (f : Bd.Fn) : iteF f tt ff = f := by
  funext h
  unfold iteF tt ff
  cases f h <;> rfl
theorem ite_ff_or (f : Bd.Fn) : iteF ff tt f = f := by
  funext h
  rfl

theorem letB_right {t : ByteArray} {nb : Nat} (h1 : 1 ≤ nb) (h2 : nb ≤ 128) (h : letB t nb = true) : t.size = nb ∧ Cu.right t.data.toList = true := by
  unfold letB at h
  simp only [Bool.and_eq_true, decide_eq_true_eq] at h
  refine ⟨h.1, ?_⟩
  unfold Cu.right
  have e : t.data.toList.length = t.size := rfl
  rw [h.2, e, h.1, decide_eq_true h1, decide_eq_true h2]; rfl
theorem letB_wrong {t : ByteArray} {nb : Nat} (h : letB t nb = false) : t.size ≠ nb ∨ (t.size = nb ∧ Cu.right t.data.toList = false) := by
  unfold letB at h
  by_cases e : t.size = nb
  · right
    refine ⟨e, ?_⟩
    rw [decide_eq_true e] at h
    unfold Cu.right
    have h' : t.data.toList.all Cu.sym = false := by simpa using h
    rw [h']; rfl
  · exact Or.inl e

/-- Behind k texts. -/
structure MadeAt {nb M : Nat} (A : Bd.Fam nb M) (lim : Nat) (W w : World) (tb qb K a b : Nat) (f : Bd.Fn) : Prop where
  ex : ∃ y L roots m yq LQ U T, y.tb = tb ∧ yq.tb = qb ∧ Tab w y ⟨L, roots, 2, nb, lim⟩ ∧ Bd.Within A L ∧ roots.length ≤ K ∧ QTab w yq ⟨LQ, U, T, nb, lim⟩ ∧ Bd.Within A LQ ∧ Below W.heap.size W w ∧ (∀ j, y.own j → W.heap.size ≤ j) ∧ (∀ j, yq.own j → W.heap.size ≤ j) ∧ (∀ j, y.own j → ¬ yq.own j) ∧
    (St.node? ⟨L, roots, 2, nb, lim⟩ a = some m ∧ m < L.length + 2 ∧ Bd.den L m = f) ∧ (QSt.has ⟨LQ, U, T, nb, lim⟩ b ∧ b < LQ.length + 2 ∧ Bd.den LQ b = f)

section
variable {nb M : Nat} {A : Bd.Fam nb M} {lim : Nat} {W w w' : World} {tb qb K a b : Nat} {f : Bd.Fn}
theorem MadeAt.below (h : MadeAt A lim W w tb qb K a b f) (hb : Below w.heap.size w w') : MadeAt A lim W w' tb qb K a b f := by
  obtain ⟨y, L, roots, m, yq, LQ, U, T, e1, e2, hT, hW, hK, hQ, hWQ, hB, hy, hyq, hd, hf, hq⟩ := h.ex
  exact ⟨y, L, roots, m, yq, LQ, U, T, e1, e2, hT.below hb, hW, hK, hQ.below hb, hWQ, hB.trans (hb.mono hB.size), hy, hyq, hd, hf, hq⟩
theorem MadeAt.out (h : MadeAt A lim W w tb qb K a b f) : Below W.heap.size W w := by
  obtain ⟨y, L, roots, m, yq, LQ, U, T, e1, e2, hT, hW, hK, hQ, hWQ, hB, hy, hyq, hd, hf, hq⟩ := h.ex
  exact hB
theorem has_grow {s : QSt} {r : Nat} (h : s.has r) (N : List Nd) : (s.grow N).has r := by
  rcases h with h | h
  · exact Or.inl h
  · right
    show (s.T ++ List.replicate N.length false)[r - 2]? = some true
    rw [List.getElem?_append_left (Bd.getElem?_lt h)]
    exact h
theorem has_tell {s : QSt} {r : Nat} (h : s.has r) (x : Nat) : (s.tell x).has r := by
  rcases h with h | h
  · exact Or.inl h
  · right
    show (if x < 2 then s.T else s.T.set (x - 2) true)[r - 2]? = some true
    split
    · exact h
    · rw [List.getElem?_set]
      split
      · rw [if_pos (by have := Bd.getElem?_lt h; omega)]
      · exact h
theorem has_told {s : QSt} {r : Nat} (h : r < s.L.length + 2) (hl : s.T.length = s.L.length) : (s.tell r).has r := by
  by_cases h2 : r < 2
  · exact Or.inl h2
  · right
    show (if r < 2 then s.T else s.T.set (r - 2) true)[r - 2]? = some true
    rw [if_neg h2, List.getElem?_set, if_pos rfl, if_pos (by omega)]

theorem tell_lenT {y : QLay} {s : QSt} {r : Nat} (h : QTab w y (s.tell r)) : s.T.length = s.L.length := by
  have h1 := h.lenT
  have h2 : (s.tell r).T.length = s.T.length := by
    show (if r < 2 then s.T else s.T.set (r - 2) true).length = _
    split
    · rfl
    · rw [List.length_set]
  rw [← h2]
  exact h1
/-- A call on the program's table that tells a function, beside the document's table. -/
theorem beside_prog {y : Lay} {L : List Nd} {roots : List Nat} {yq : QLay} {sq : QSt} (hB : Below W.heap.size W w) (hy : ∀ j, y.own j → W.heap.size ≤ j) (hd : ∀ j, y.own j → ¬ yq.own j) (hQ : QTab w yq sq) {r : Nat} {g : Bd.Fn} (ht : Told A w y ⟨L, roots, 2, nb, lim⟩ w' r g) :
    ∃ N t y' m, y'.tb = y.tb ∧ Tab w' y' ⟨L ++ N, roots ++ t, 2, nb, lim⟩ ∧ Bd.Within A (L ++ N) ∧ t.length ≤ 1 ∧ St.node? ⟨L ++ N, roots ++ t, 2, nb, lim⟩ r = some m ∧ m < (L ++ N).length + 2 ∧ Bd.den (L ++ N) m = g ∧ QTab w' yq sq ∧ Below W.heap.size W w' ∧ (∀ j, y'.own j → W.heap.size ≤ j) ∧ (∀ j, y'.own j → ¬ yq.own j) := by
  obtain ⟨N, t, y', m, hT', hW', hn, hm, hd', hmv, ha⟩ := ht.ex
  obtain ⟨hb', hy'⟩ := moves_out hB hB.size hy hmv
  refine ⟨N, t, y', m, hmv.tb, hT', hW', ha.few, hn, hm, hd', hQ.same fun k hk => hmv.block k (hQ.lt hk) (fun ho => hd k ho hk) (fun h => h), hb', hy', fun j hj hjq => ?_⟩
  rcases hmv.own j hj with h | h
  · exact hd j h hjq
  · have := hQ.lt hjq; omega
/-- A call on the document's table that tells a function, beside the program's. -/
theorem beside_doc {y : Lay} {s : St} {yq : QLay} {sq : QSt} {AQ : Bd.Fam sq.bits M} (hbM : sq.bits * M ≤ sq.limit) (hB : Below W.heap.size W w) (hyq : ∀ j, yq.own j → W.heap.size ≤ j) (hd : ∀ j, y.own j → ¬ yq.own j) (hT : Tab w y s) {e : Ending} {g : Bd.Fn} (ht : QTells AQ w yq sq g e w') :
    ∃ r N y', e = .returned (.tuple #[i6 r, .int .i64 0]) ∧ y'.tb = yq.tb ∧ QTab w' y' ((sq.grow N).tell r) ∧ Bd.Within AQ (sq.L ++ N) ∧ r < (sq.L ++ N).length + 2 ∧ Bd.den (sq.L ++ N) r = g ∧ (∀ x, sq.has x → ((sq.grow N).tell r).has x) ∧ ((sq.grow N).tell r).has r ∧ Tab w' y s ∧ Below W.heap.size W w' ∧ (∀ j, y'.own j → W.heap.size ≤ j) ∧ (∀ j, y.own j → ¬ y'.own j) := by
  obtain ⟨N, y', r, h1, h2, h3, h4, h5, h6⟩ := ht.ex
  have hout : Tab w' y s ∧ Below W.heap.size W w' ∧ (∀ j, y'.own j → W.heap.size ≤ j) ∧ (∀ j, y.own j → ¬ y'.own j) := by
    refine ⟨hT.same fun k hk => h4.block k (hT.lt hk) (hd k hk), ⟨h4.os.trans hB.os, h4.tape.trans hB.tape, h4.output.trans hB.output, Nat.le_trans hB.size h4.size, fun k hk => ?_⟩, fun j hj => ?_, fun j hj hj' => ?_⟩
    · rw [h4.block k (Nat.lt_of_lt_of_le hk hB.size) (fun h => by have := hyq k h; omega)]
      exact hB.block k hk
    · rcases h4.own j hj with h | h
      · exact hyq j h
      · exact Nat.le_trans hB.size h
    · rcases h4.own j hj' with h | h
      · exact hd j hj h
      · have := hT.lt hj; omega
  rcases h6 with ⟨q1, rfl, q2⟩ | ⟨q1, rfl, q2⟩
  · exfalso
    have hU : ((sq.grow N).tell r).U.length = (sq.L ++ N).length := by
      show (markF _ _ _ _).length = _
      rw [markF_length]; exact q2.lenU
    have := cntB_le ((sq.grow N).tell r).U
    have := h1.few q2.okay
    omega
  · exact ⟨r, N, y', rfl, h5, q2, h1, h2, h3, fun x hx => has_tell (has_grow hx N) r, has_told h2 (tell_lenT q2), hout⟩

theorem nodes_two {s : St} {r0 r1 m0 m1 : Nat} (h0 : s.node? r0 = some m0) (h1 : s.node? r1 = some m1) : NodesOf s [r0, r1] [m0, m1] := by
  refine ⟨rfl, fun i r hi => ?_⟩
  match i, hi with
  | 0, hi => simp at hi; subst hi; exact ⟨m0, rfl, h0⟩
  | 1, hi => simp at hi; subst hi; exact ⟨m1, rfl, h1⟩
  | (i + 2), hi => simp at hi

theorem made_step {n k : Nat} {ss : List ByteArray} (hA : OrIn A ss n) (hk : k < n) (h1 : 1 ≤ nb) (h2 : nb ≤ 128) (hlim : nb * M ≤ lim) (hbM : nb * M ≤ 524288) (hK : K ≤ 1000000) (hl : letB (ss.getD k ByteArray.empty) nb = true) (h : MadeAt A lim W w tb qb K a b (madeF nb ss k)) :
    Calls Try.prog 25 #[.pointer (some ⟨tb, 0, none⟩), .string (ss.getD k ByteArray.empty)] w fun e w1 => ∃ c : Nat, e = .returned (.tuple #[.int .i64 c, .int .i64 0]) ∧ Below W.heap.size W w1 ∧
      Hid (Calls Try.prog 32 #[.pointer (some ⟨qb, 0, none⟩), .string (ss.getD k ByteArray.empty)] w1 fun e w2 => ∃ d : Nat, e = .returned (.tuple #[.int .i64 d, .int .i64 0]) ∧ Below W.heap.size W w2 ∧
        Hid (Calls Try.prog 19 #[.pointer (some ⟨tb, 0, none⟩), .slice (some ⟨w2.heap.size, 0, none⟩) 2 2] (w2.alloc (.cells #[.int .i64 a, .int .i64 c] 25)) fun e w3 => ∃ a' : Nat, e = .returned (.tuple #[.int .i64 a', .int .i64 0]) ∧ Below W.heap.size W w3 ∧
          Hid (Calls Try.prog 33 #[.pointer (some ⟨qb, 0, none⟩), .slice (some ⟨w3.heap.size, 0, none⟩) 2 2] (w3.alloc (.cells #[.int .i64 b, .int .i64 d] 25)) fun e w4 => ∃ b' : Nat, e = .returned (.tuple #[.int .i64 b', .int .i64 0]) ∧ Below W.heap.size W w4 ∧
            Hid (MadeAt A lim W w4 tb qb (K + 2) a' b' (madeF nb ss (k + 1)))))) := by
  obtain ⟨y, L, roots, m, yq, LQ, U, T, rfl, rfl, hT, hW, hKr, hQ, hWQ, hB, hy, hyq, hd, ⟨f1, f2, f3⟩, ⟨q1, q2, q3⟩⟩ := h.ex
  have hFn : madeF nb ss (k + 1) = iteF (madeF nb ss k) tt (suf (ss.getD k ByteArray.empty) 0) := by rw [madeF_succ, if_pos hl]
  have hAk := hA.made k (by omega)
  have hAc := hA.cube k hk hl
  have hAn := hA.join _ _ hAk hAc
  rw [← hFn] at hAn
  obtain ⟨ht, hr⟩ := letB_right h1 h2 hl
  generalize ss.getD k ByteArray.empty = t at *
  generalize madeF nb ss k = f0 at *
  refine (Cube_ok (s := ⟨L, roots, 2, nb, lim⟩) A hT hW (Nat.le_refl _) (by show roots.length + 1 ≤ _; omega) hlim t ht hr hAc).mono ?_
  rintro e w1 ⟨c, rfl, ht1⟩
  obtain ⟨N1, t1, y1, m1, tb1, hT1, hW1, hl1, n1, n2, n3, hQ1, hB1, hy1, hd1⟩ := beside_prog hB hy hd hQ ht1
  refine ⟨c, rfl, hB1, ?_⟩
  refine (qcube_ok (s := ⟨LQ, U, T, nb, lim⟩) A hQ1 hWQ (by show nb * M ≤ _; omega) t hl hAc).mono ?_
  intro e w2 ht2
  obtain ⟨d, N2, yq2, rfl, tb2, hQ2, hWQ2, hd2, dd2, has2, hasd, hT2, hB2, hyq2, hd12⟩ := beside_doc (sq := ⟨LQ, U, T, nb, lim⟩) hlim hB1 hyq hd1 hT1 ht2
  refine ⟨d, rfl, hB2, ?_⟩
  have hb2 : Below w2.heap.size w2 (w2.alloc (.cells #[.int .i64 a, .int .i64 c] 25)) := (Below.refl _ _).alloc (Nat.le_refl _) _
  have f1' : St.node? ⟨L ++ N1, roots ++ t1, 2, nb, lim⟩ a = some m := node_old f1 _ t1
  have f3' : Bd.den (L ++ N1) m = f0 := by rw [Bd.den_append_old _ _ f2]; exact f3
  have hl1' : (L ++ N1).length = L.length + N1.length := List.length_append
  have hor := Or_many (s := ⟨L ++ N1, roots ++ t1, 2, nb, lim⟩) A (hT2.below hb2) hW1 (Nat.le_refl _) (by show (roots ++ t1).length + 1 ≤ _; rw [List.length_append]; omega) hlim _ [a, c] [m, m1] (refs_two w2 a c) (by simp) (nodes_two f1' n1) (fun x hx => by
      simp at hx
      rcases hx with rfl | rfl
      · show x < (L ++ N1).length + 2; omega
      · exact n2) (two ff f0 (madeF nb ss (k + 1))) rfl (fun j x hj => by
      match j, hj with
      | 0, hj => simp at hj; subst hj; exact ⟨by show f0 = iteF ff tt (Bd.den (L ++ N1) m); rw [f3', ite_ff_or], hAk⟩
      | 1, hj => simp at hj; subst hj; exact ⟨by show madeF nb ss (k + 1) = iteF f0 tt (Bd.den (L ++ N1) m1); rw [n3]; exact hFn, hAn⟩
      | (j + 2), hj => simp at hj)
  rw [tb1] at hor
  refine hor.mono ?_
  rintro e w3 ⟨a', rfl, ht3⟩
  obtain ⟨N3, t3, y3, m3, tb3, hT3, hW3, hl3, r1, r2, r3, hQ3, hB3, hy3, hd3⟩ := beside_prog (hB2.alloc hB2.size _) hy1 hd12 (hQ2.below hb2) ht3
  refine ⟨a', rfl, hB3, ?_⟩
  have hb3 : Below w3.heap.size w3 (w3.alloc (.cells #[.int .i64 b, .int .i64 d] 25)) := (Below.refl _ _).alloc (Nat.le_refl _) _
  have q3' : Bd.den (LQ ++ N2) b = f0 := by rw [Bd.den_append_old _ _ q2]; exact q3
  have hl2' : (LQ ++ N2).length = LQ.length + N2.length := List.length_append
  have hqo := qor_many (s := (QSt.grow ⟨LQ, U, T, nb, lim⟩ N2).tell d) A (hQ3.below hb3) hWQ2 hbM _ [b, d] (refs_two w3 b d) (fun j hj ho => by
      simp [Value.ownBlock] at hj
      have := hQ3.lt ho
      omega) (by simp) (fun x hx => by
      simp at hx
      rcases hx with rfl | rfl
      · exact ⟨has2 x q1, by show x < (LQ ++ N2).length + 2; omega⟩
      · exact ⟨hasd, hd2⟩) (two ff f0 (madeF nb ss (k + 1))) rfl (fun j x hj => by
      match j, hj with
      | 0, hj => simp at hj; subst hj; exact ⟨by show f0 = iteF (Bd.den (LQ ++ N2) b) tt ff; rw [q3', ite_or_ff], hAk⟩
      | 1, hj => simp at hj; subst hj; exact ⟨by show madeF nb ss (k + 1) = iteF (Bd.den (LQ ++ N2) d) tt f0; rw [show Bd.den (LQ ++ N2) d = suf t 0 from dd2, ite_or]; exact hFn, hAn⟩
      | (j + 2), hj => simp at hj)
  rw [tb2] at hqo
  refine hqo.mono ?_
  intro e w4 ht4
  obtain ⟨b', N4, yq4, rfl, tb4, hQ4, hWQ4, hd4, dd4, has4, hasd4, hT4, hB4, hyq4, hd34⟩ := beside_doc (sq := (QSt.grow ⟨LQ, U, T, nb, lim⟩ N2).tell d) hlim (hB3.alloc hB3.size _) hyq2 hd3 (hT3.below hb3) ht4
  refine ⟨b', rfl, hB4, ?_⟩
  refine ⟨y3, L ++ N1 ++ N3, roots ++ t1 ++ t3, m3, yq4, _, _, _, tb3.trans tb1, tb4.trans tb2, hT4, hW3, ?_, hQ4, hWQ4, hB4, hy3, hyq4, hd34, ⟨r1, r2, r3⟩, ⟨hasd4, hd4, dd4⟩⟩
  rw [List.length_append, List.length_append]
  omega

theorem made_skip {k : Nat} {ss : List ByteArray} (hsz : (ss.getD k ByteArray.empty).size ≤ maxLen) (hl : letB (ss.getD k ByteArray.empty) nb = false) (h : MadeAt A lim W w tb qb K a b (madeF nb ss k)) :
    Calls Try.prog 25 #[.pointer (some ⟨tb, 0, none⟩), .string (ss.getD k ByteArray.empty)] w fun e w1 => e = .returned (.tuple #[.int .i64 0, .int .i64 21]) ∧ Below W.heap.size W w1 ∧
      Hid (Calls Try.prog 32 #[.pointer (some ⟨qb, 0, none⟩), .string (ss.getD k ByteArray.empty)] w1 fun e w2 => e = .returned (.tuple #[.int .i64 0, .int .i64 21]) ∧ Below W.heap.size W w2 ∧
        Hid (MadeAt A lim W w2 tb qb (K + 2) a b (madeF nb ss (k + 1)))) := by
  obtain ⟨y, L, roots, m, yq, LQ, U, T, rfl, rfl, hT, hW, hKr, hQ, hWQ, hB, hy, hyq, hd, hf, hq⟩ := h.ex
  have hFn : madeF nb ss (k + 1) = madeF nb ss k := by rw [madeF_succ, if_neg (by rw [hl]; simp)]
  rw [hFn]
  have hc : Calls Try.prog 25 #[.pointer (some ⟨y.tb, 0, none⟩), .string (ss.getD k ByteArray.empty)] w fun e w' => e = .returned (.tuple #[.int .i64 0, .int .i64 21]) ∧ Below w.heap.size w w' := by
    rcases letB_wrong hl with e | ⟨e, e'⟩
    · exact Cube_size hT _ e
    · exact Cube_text hT _ e e'
  refine hc.mono ?_
  rintro e w1 ⟨rfl, hb1⟩
  have hB1 : Below W.heap.size W w1 := hB.trans (hb1.mono hB.size)
  refine ⟨rfl, hB1, ?_⟩
  refine (qcube_bad (hQ.below hb1) _ hsz hl).mono ?_
  rintro e w2 ⟨rfl, hb2⟩
  refine ⟨rfl, hB1.trans (hb2.mono hB1.size), ?_⟩
  obtain ⟨y, L, roots, m, yq, LQ, U, T, e1, e2, hT, hW, hKr, hQ, hWQ, hB, hy, hyq, hd, hf, hq⟩ := ((h.below hb1).below hb2).ex
  exact ⟨y, L, roots, m, yq, LQ, U, T, e1, e2, hT, hW, by omega, hQ, hWQ, hB, hy, hyq, hd, hf, hq⟩
end
end Go.Proofs.Ytffngpdngjfcfaa
namespace Go.Proofs.Ytffngpdngjfcfaa
open Go.RowKit Go.Maps
open Bd (Nd ff tt iteF)

theorem came_size {w : World} {a0 : Option Addr} {len cap : Nat} {ss : List ByteArray} (h : Came w a0 len cap ss) (i : Nat) : (ss.getD i ByteArray.empty).size ≤ maxLen := by
  rcases h with ⟨_, _, _, rfl⟩ | ⟨a, _, _, _, _, _, h6⟩
  · simp [maxLen]
  · rw [List.getD_eq_getElem?_getD]
    rcases Nat.lt_or_ge i ss.length with hi | hi
    · rw [List.getElem?_eq_getElem hi]
      exact h6 _ (List.getElem_mem hi)
    · rw [List.getElem?_eq_none hi]
      simp [maxLen]

/-- What made answers. -/
structure MadeEnd {nb M : Nat} (A : Bd.Fam nb M) (lim : Nat) (W w : World) (tb K a : Nat) (f : Bd.Fn) : Prop where
  ex : ∃ y L roots m, y.tb = tb ∧ Tab w y ⟨L, roots, 2, nb, lim⟩ ∧ Bd.Within A L ∧ roots.length ≤ K ∧ Below W.heap.size W w ∧ (∀ j, y.own j → W.heap.size ≤ j) ∧ St.node? ⟨L, roots, 2, nb, lim⟩ a = some m ∧ m < L.length + 2 ∧ Bd.den L m = f
theorem MadeAt.fin {nb M : Nat} {A : Bd.Fam nb M} {lim : Nat} {W w : World} {tb qb K a b : Nat} {f : Bd.Fn} (h : MadeAt A lim W w tb qb K a b f) : MadeEnd A lim W w tb K a f := by
  obtain ⟨y, L, roots, m, yq, LQ, U, T, e1, e2, hT, hW, hKr, hQ, hWQ, hB, hy, hyq, hd, ⟨f1, f2, f3⟩, hq⟩ := h.ex
  exact ⟨y, L, roots, m, e1, hT, hW, hKr, hB, hy, f1, f2, f3⟩

set_option maxRecDepth 4000 in
set_option maxHeartbeats 8000000 in
theorem dmade_any {nb M : Nat} (A : Bd.Fam nb M) (lim : Nat) (a0 : Option Addr) (len cap : Nat) (ss : List ByteArray) (w : World) (hv : Came w a0 len cap ss) (hA : OrIn A ss 12) (h1 : 1 ≤ nb) (h2 : nb ≤ 128) (hlim : nb * M ≤ lim) (hl : lim ≤ 1048576) (hbM : nb * M ≤ 524288) :
    Calls Try.prog 9 #[.int .i64 nb, .int .i64 lim, .slice a0 len cap] w fun e w' => ∃ tb qb a b : Nat, e = .returned (.tuple #[.pointer (some ⟨tb, 0, none⟩), .pointer (some ⟨qb, 0, none⟩), .int .i64 a, .int .i64 b, .bool true]) ∧ MadeEnd A lim w w' tb 24 a (madeF nb ss (min len 12)) := by
  have HN := keep (New_ok w nb lim h1 h2 hl)
  have HQN := keep (fun w => qnew_ok nb lim h1 h2 hl w)
  have HV := keep hv
  have HA := keep hA
  have HE := keep (And.intro h1 (And.intro h2 (And.intro hlim hbM)))
  have hlen : len ≤ maxLen := by
    rcases hv with ⟨_, e, _⟩ | ⟨_, _, e1, e2, _⟩
    · rw [e]; simp [maxLen]
    · omega
  unfold maxLen at hlen
  clear hv hA h1 h2 hlim hl hbM
  go_enter Try.func9, Try.ntmps9
  go_wp2_with fail
  refine HN.out.mono ?_
  rintro e w1 ⟨y, rfl, hT, hb, hy⟩
  have HT1 := keep hT
  have HB1 := keep hb
  have HY1 := keep hy
  clear hT hb hy HN
  go_wp2_with fail
  refine (HQN.out w1).mono ?_
  rintro e w2 ⟨rfl, hQ, hb2⟩
  have H0 : Hid (MadeAt A lim w w2 y.tb w1.heap.size 0 0 0 (madeF nb ss 0)) := by
    have hB2 : Below w.heap.size w w2 := HB1.out.trans (hb2.mono HB1.out.size)
    refine ⟨y, [], [], 0, _, [], [], [], rfl, rfl, HT1.out.below hb2, Bd.within_nil _, Nat.le_refl _, hQ, Bd.within_nil _, hB2, HY1.out, fun j hj => ?_, fun j hj hq => ?_, ⟨rfl, by simp, Bd.den_zero _⟩, ⟨Or.inl (by omega), by simp, Bd.den_zero _⟩⟩
    · rcases hj with e | e | e | e
      · have := HB1.out.size; have e' : j = w1.heap.size := e; omega
      · simp [Value.ownBlock] at e
      · simp [Value.ownBlock] at e
      · simp [Value.ownBlock] at e
    · have hjl := HT1.out.lt hj
      rcases hq with e | e | e | e
      · have e' : j = w1.heap.size := e; omega
      · simp [Value.ownBlock] at e
      · simp [Value.ownBlock] at e
      · simp [Value.ownBlock] at e
  clear hQ hb2 HT1 HB1 HY1 HQN
  go_wp2
  go_loopw [15, 16, 17] (fun p q i wr => ∃ k a b : Nat, k ≤ min len 12 ∧ p = .int .i64 a ∧ q = .int .i64 b ∧ i = .int .i64 k ∧ Hid (MadeAt A lim w wr y.tb w1.heap.size (2 * k) a b (madeF nb ss k))) (fun _ _ i _ => 12 - (intOf i).toNat)
  case atStart => exact ⟨0, 0, 0, Nat.zero_le _, rfl, rfl, rfl, H0⟩
  case round =>
    obtain ⟨k, a, b, hk, rfl, rfl, rfl, HM⟩ := hrel
    by_cases hlt : k < min len 12
    · have hk1 : (k : Int) < (len : Int) := by omega
      have hk2 : (k : Int) < 12 := by omega
      have hk0 : (0 : Int) ≤ (k : Int) := by omega
      obtain ⟨g, o, rfl, hg, hc, _⟩ := text_of HV.out (show k < len by omega)
      have HBW := keep HM.out.out
      have cr : wr.cell? ⟨g, o + k, none⟩ = some (.string (ss.getD k ByteArray.empty)) := by rw [HBW.out.cell (by exact hg)]; exact hc
      obtain ⟨e1, e2, e3, e4⟩ := HE.out
      rcases two_bool (letB (ss.getD k ByteArray.empty) nb) with hlb | hlb
      · have HS := keep (made_skip (came_size HV.out k) hlb HM.out)
        generalize ss.getD k ByteArray.empty = t at *
        clear hlb hc e1 e2 e3 e4
        go_wp2_with fail
        refine HS.out.mono ?_
        rintro e w3 ⟨rfl, hb3, HS2⟩
        have cr3 : w3.cell? ⟨g, o + k, none⟩ = some (.string t) := by
          rw [hb3.cell (by exact hg), ← HBW.out.cell (by exact hg)]; exact cr
        clear hb3 HS
        go_wp2_with fail
        refine HS2.out.mono ?_
        rintro e w4 ⟨rfl, hb4, HM4⟩
        clear hb4 HS2
        go_wp2
        go_roundw
        case rel => exact ⟨k + 1, a, b, by omega, rfl, rfl, by go_num, HM4⟩
        case measure => simp [intOf]; omega
      · have HS := keep (made_step HA.out (show k < 12 by omega) e1 e2 e3 e4 (by omega) hlb HM.out)
        generalize ss.getD k ByteArray.empty = t at *
        clear hlb hc e1 e2 e3 e4
        go_wp2_with fail
        refine HS.out.mono ?_
        rintro e w3 ⟨c, rfl, hb3, HS2⟩
        have cr3 : w3.cell? ⟨g, o + k, none⟩ = some (.string t) := by
          rw [hb3.cell (by exact hg), ← HBW.out.cell (by exact hg)]; exact cr
        clear hb3 HS
        go_wp2_with fail
        refine HS2.out.mono ?_
        rintro e w4 ⟨d, rfl, hb4, HS3⟩
        clear hb4 HS2
        go_wp2_with fail
        refine HS3.out.mono ?_
        rintro e w5 ⟨a', rfl, hb5, HS4⟩
        clear hb5 HS3
        go_wp2_with fail
        refine HS4.out.mono ?_
        rintro e w6 ⟨b', rfl, hb6, HM6⟩
        clear hb6 HS4
        go_wp2
        go_roundw
        case rel => exact ⟨k + 1, a', b', by omega, rfl, rfl, by go_num, HM6⟩
        case measure => simp [intOf]; omega
    · have hkn : k = min len 12 := by omega
      have HR : Hid (MadeEnd A lim w wr y.tb 24 a (madeF nb ss (min len 12))) := by
        rw [← hkn]
        obtain ⟨y', L, roots, m, q1, q2, q3, q4, q5⟩ := HM.out.fin.ex
        exact ⟨y', L, roots, m, q1, q2, q3, by omega, q5⟩
      by_cases h12 : k < len
      · have hk1 : (k : Int) < (len : Int) := by omega
        have hk2 : ¬ (k : Int) < 12 := by omega
        clear hkn HM
        go_wp2
        exact bodyPost_ret (v := .tuple #[.pointer (some ⟨y.tb, 0, none⟩), .pointer (some ⟨w1.heap.size, 0, none⟩), .int .i64 a, .int .i64 b, .bool true]) (by simp [results, Try.results9, go_sem]) rfl ⟨y.tb, w1.heap.size, a, ⟨b, rfl⟩, HR.out⟩
      · have hk1 : ¬ (k : Int) < (len : Int) := by omega
        clear hkn HM
        go_wp2
        exact bodyPost_ret (v := .tuple #[.pointer (some ⟨y.tb, 0, none⟩), .pointer (some ⟨w1.heap.size, 0, none⟩), .int .i64 a, .int .i64 b, .bool true]) (by simp [results, Try.results9, go_sem]) rfl ⟨y.tb, w1.heap.size, a, ⟨b, rfl⟩, HR.out⟩

set_option maxHeartbeats 2000000 in
theorem dmade_bad (bits : Int) (hb : bits < 1 ∨ 128 < bits) (v : Value) (w : World) :
    Calls Try.prog 9 #[.int .i64 bits, .int .i64 1048576, v] w fun e w' => e = .returned (.tuple #[.pointer none, .pointer none, .int .i64 0, .int .i64 0, .bool true]) ∧ w' = w := by
  have HN := keep (New_err w bits hb)
  have HQ := keep (qnew_err bits 1048576 (by omega) w)
  clear hb
  go_enter Try.func9, Try.ntmps9
  go_wp2_with fail
  refine HN.out.mono ?_
  rintro e w1 ⟨rfl, rfl⟩
  go_wp2_with fail
  refine HQ.out.mono ?_
  rintro e w2 ⟨rfl, rfl⟩
  go_wp2
  exact bodyPost_ret (v := .tuple #[.pointer none, .pointer none, .int .i64 0, .int .i64 0, .bool true]) (by simp [results, Try.results9, go_sem]) rfl ⟨rfl, rfl⟩
end Go.Proofs.Ytffngpdngjfcfaa
namespace Go.Proofs.Ytffngpdngjfcfaa
open Go.RowKit Go.Maps
open Bd (Nd)

set_option maxHeartbeats 400000 in
theorem Bits_ok {w : World} {y : Lay} {s : St} (hT : Tab w y s) : Calls Try.prog 35 #[.pointer (some ⟨y.tb, 0, none⟩)] w fun e w' => e = .returned (.int .i64 s.bits) ∧ w' = w := by
  have c5 : w.cell? ⟨y.tb, 5, none⟩ = some (.int .i64 s.bits) := by rw [cell_at hT.cells]; rfl
  have q1 := made_ok hT
  clear hT
  go_enter Try.func35, Try.ntmps35
  go_wp2_with (go_at_call 57; refine q1.mono ?_; rintro e w' ⟨rfl, rfl⟩)
  go_ret
  exact ⟨rfl, rfl⟩
set_option maxHeartbeats 400000 in
theorem dmade_ok {w : World} {y : Lay} {s : St} (hT : Tab w y s) : Calls Try.prog 37 #[.pointer (some ⟨y.tb, 0, none⟩)] w fun e w' => e = .returned (.bool true) ∧ w' = w := by
  have q1 := keep (Bits_ok hT)
  have h1 : ((0 : Int) < (s.bits : Int)) = True := eq_true (by have := hT.small.2.2.2.2; omega)
  clear hT
  go_enter Try.func37, Try.ntmps37
  go_wp2_with fail
  refine q1.out.mono ?_
  rintro e w' ⟨rfl, rfl⟩
  go_wp2
  go_ret
  exact ⟨by simp at h1; simp [h1], rfl⟩
set_option maxHeartbeats 400000 in
theorem dmade_no {w : World} {p : Value} (h : Nobody w p) : Calls Try.prog 37 #[p] w fun e w' => e = .returned (.bool false) ∧ w' = w := by
  have q1 := keep (Bits_no h)
  clear h
  go_enter Try.func37, Try.ntmps37
  go_wp2_with fail
  refine q1.out.mono ?_
  rintro e w' ⟨rfl, rfl⟩
  go_wp2
  go_ret
  exact ⟨rfl, rfl⟩
set_option maxHeartbeats 400000 in
theorem dsize_any (n : Nat) (hn : n ≤ 1073741826) (w : World) : Calls Try.prog 34 #[.int .i64 n] w fun e w' => e = .returned (.int .i64 ((if n = 0 then 6 else 5 + 9 * n : Nat) : Int)) ∧ w' = w := by
  have hnI : (n : Int) ≤ 1073741826 := by omega
  by_cases h : n = 0
  · subst h
    go_enter Try.func34, Try.ntmps34
    go_wp2
    go_ret
    exact ⟨rfl, rfl⟩
  · have hI : ((n : Int) == 0) = false := by rw [beq_eq_false_iff_ne]; omega
    have e : ((if n = 0 then 6 else 5 + 9 * n : Nat) : Int) = 5 + 9 * (n : Int) := by rw [if_neg h]; omega
    rw [e]
    clear e h
    go_enter Try.func34, Try.ntmps34
    go_wp2
    go_ret
    exact ⟨rfl, rfl⟩

/-- The bytes of a number. -/
def four (n : Nat) : List UInt8 := [UInt8.ofNat (n / 16777216), UInt8.ofNat (n / 65536), UInt8.ofNat (n / 256), UInt8.ofNat n]
def byts (l : List UInt8) : List Value := l.map fun c => Value.int .u8 (c.toNat : Int)
theorem byts_append (a b : List UInt8) : byts (a ++ b) = byts a ++ byts b := by simp [byts]

theorem Try.infoByteD : (Try.prog.info? 5).map (fun i => (i.zero, i.size, i.bytes)) = some (some (.int .u8 0), 1, 1) := by kernel_rfl

theorem four_vals (n : Nat) (hn : n ≤ 1073741826) : byts (four n) = [.int .u8 ((n : Int) / 16777216), .int .u8 ((n : Int) / 65536 % 256), .int .u8 ((n : Int) / 256 % 256), .int .u8 ((n : Int) % 256)] := by
  have e : ∀ m : Nat, ((UInt8.ofNat m).toNat : Int) = (m : Int) % 256 := by intro m; simp [UInt8.toNat_ofNat']
  have e0 : (((n / 16777216 : Nat) : Int)) % 256 = (n : Int) / 16777216 := by omega
  have e1 : (((n / 65536 : Nat) : Int)) % 256 = (n : Int) / 65536 % 256 := by omega
  have e2 : (((n / 256 : Nat) : Int)) % 256 = (n : Int) / 256 % 256 := by omega
  simp only [byts, four, List.map_cons, List.map_nil, e, e0, e1, e2]

/-- Bytes on their way, in a row of one's own that lies behind B and is not block gl. -/
structure Byt (B gl : Nat) (ob : Obj) (w0 w : World) (v : Value) (l : List UInt8) : Prop where
  row : w.ownsRow 0 5 1 v l.length (byts l)
  own : ∀ g, v.ownBlock = some g → B ≤ g ∧ g ≠ gl
  below : Below B w0 w
  size : B ≤ w.heap.size
  lst : w.heap[gl]? = some ob
theorem Byt.grow {B gl : Nat} {ob : Obj} {w0 w w' : World} {v : Value} {l m : List UInt8} {o : Obj} {g cap k : Nat} (h : Byt B gl ob w0 w v l) (hk : k = l.length + m.length) (hown : w'.ownsRow 0 5 1 (.slice (some ⟨g, 0, none⟩) k cap) k (byts l ++ byts m)) (hg : (w.alloc o).grownBy w' v.ownBlock) (hat : v.ownBlock = some g ∨ g = w.heap.size + 1) : Byt B gl ob w0 w' (.slice (some ⟨g, 0, none⟩) k cap) (l ++ m) := by
  have old : ∀ j, j < w.heap.size → some j ≠ v.ownBlock → w'.heap[j]? = w.heap[j]? := fun j hj hne => (hg.block j (by simp; omega) hne).trans (heap_alloc_old w o hj)
  have hsz : w.heap.size + 1 ≤ w'.heap.size := by have := hg.size; simpa using this
  have hB := h.size
  have hgl := block_lt h.lst
  refine ⟨by rw [byts_append, List.length_append, ← hk]; exact hown, fun g' hg' => ?_, ⟨hg.os.trans h.below.os, hg.tape.trans h.below.tape, hg.output.trans h.below.output, by have := h.below.size; omega, fun j hj => (old j (by omega) (fun e => by have := (h.own j e.symm).1; omega)).trans (h.below.block j hj)⟩, by omega, (old gl hgl (fun e => (h.own gl e.symm).2 rfl)).trans h.lst⟩
  have eg : g = g' := Option.some.inj hg'
  subst eg
  rcases hat with e | e
  · exact h.own g e
  · exact ⟨by omega, by omega⟩

set_option maxHeartbeats 1000000 in
theorem put_ok {B gl : Nat} {ob : Obj} {w0 w : World} {v : Value} {l : List UInt8} (h : Byt B gl ob w0 w v l) (n : Nat) (hn : n ≤ 1073741826) (hl : l.length ≤ 100000000000) :
    Calls Try.prog 36 #[v, .int .i64 n] w fun e w' => ∃ g cap, e = .returned (.slice (some ⟨g, 0, none⟩) (l.length + 4) cap) ∧ Byt B gl ob w0 w' (.slice (some ⟨g, 0, none⟩) (l.length + 4) cap) (l ++ four n) ∧ (v.ownBlock = some g ∨ g = w.heap.size + 1) ∧ (∀ j, j < w.heap.size → some j ≠ v.ownBlock → w'.heap[j]? = w.heap[j]?) := by
  obtain ⟨i0, hi, hz0, hz1, hz2⟩ := info_parts Try.infoByteD
  have HI := keep hi
  have HZ0 := keep hz0
  have HZ1 := keep hz1
  have HZ2 := keep hz2
  have H := keep h
  have HROW : Hid (∀ o, (w.alloc o).ownsRow 0 5 1 v l.length (byts l)) := fun o => h.row.alloc o
  have HFV := keep (four_vals n hn)
  have hnI : (n : Int) ≤ 1073741826 := by omega
  have hn0 : (0 : Int) ≤ (n : Int) := by omega
  obtain ⟨k, hk⟩ : ∃ k, k = l.length := ⟨_, rfl⟩
  have HK := keep hk
  rw [← hk] at HROW hl ⊢
  clear h hi hz0 hz1 hz2 hn hk
  go_enter Try.func36, Try.ntmps36
  go_wp2_with (first | (at_builtin; refine wpList_append_lies _ rfl (.tmp 5) (.tmp 17) 29 rfl 0 5 i0 (.int .u8 0) 1 1 Try.underlying29 HI.out HZ0.out HZ1.out HZ2.out rfl (by decide) v k (byts l) rfl (HROW.out _) ⟨w.heap.size, 0, none⟩ 4 4 [.int .u8 ((n : Int) / 16777216), .int .u8 ((n : Int) / 65536 % 256), .int .u8 ((n : Int) / 256 % 256), .int .u8 ((n : Int) % 256)] rfl rfl (World.news_of_block (heap_alloc_new w _)) (by simp [Value.oneCell']) (by decide) (by unfold maxLen; omega) (by omega) (Nat.zero_le _) (w.heap.size + 1) (by simp) ?_; intro g4 cap4 w4 hown4 hgrow4 hat4 hlt4))
  go_ret
  rw [← HFV.out] at hown4
  exact ⟨g4, cap4, rfl, H.out.grow (by rw [HK.out]; rfl) hown4 hgrow4 hat4, hat4, fun j hj hne => (hgrow4.block j (by simp; omega) hne).trans (heap_alloc_old w _ hj)⟩
end Go.Proofs.Ytffngpdngjfcfaa
namespace Go.Proofs.Ytffngpdngjfcfaa
open Go.RowKit Go.Maps
open Bd (Nd)

def nodeB (x : Nd) : List UInt8 := [UInt8.ofNat x.1] ++ four x.2.1 ++ four x.2.2
def headB (bits n : Nat) : List UInt8 := [UInt8.ofNat bits] ++ four n
/-- A function's bytes: r is its ref, where it is an end. -/
def dumpB (bits : Nat) (Q : List Nd) (r : Nat) : List UInt8 := headB bits Q.length ++ (if Q.length = 0 then [UInt8.ofNat r] else Q.flatMap nodeB)
theorem one_val (n : Nat) (hn : n ≤ 255) : byts [UInt8.ofNat n] = [.int .u8 (n : Int)] := by
  have e : ((UInt8.ofNat n).toNat : Int) = (n : Int) := by
    have : (UInt8.ofNat n).toNat = n % 256 := by simp [UInt8.toNat_ofNat']
    rw [this]; omega
  simp only [byts, List.map_cons, List.map_nil, e]
theorem nodeB_length (x : Nd) : (nodeB x).length = 9 := rfl
theorem flat_length9 (Q : List Nd) : (Q.flatMap nodeB).length = 9 * Q.length := by
  induction Q with
  | nil => rfl
  | cons x Q ih => rw [List.flatMap_cons, List.length_append, nodeB_length, ih, List.length_cons]; omega

section
variable {B gl : Nat} {ob : Obj} {w0 w : World} {v : Value} {l : List UInt8}
theorem Byt.alloc (h : Byt B gl ob w0 w v l) (o : Obj) : Byt B gl ob w0 (w.alloc o) v l :=
  ⟨h.row.alloc o, h.own, h.below.alloc h.size o, by have := h.size; simp; omega, (heap_alloc_old w o (block_lt h.lst)).trans h.lst⟩
theorem Byt.drew (h : Byt B gl ob w0 w v l) : Byt B gl ob w0 w.drew v l := ⟨h.row.drew, h.own, h.below.drew, h.size, h.lst⟩
end

theorem run_room (c : Nat) (hc : c ≤ 100000000000) (w : World) : (Instr.makeSlice 29 (.int .i64 0) (.int .i64 (c : Int))).run Try.prog w = .ok (.slice (some ⟨w.heap.size, 0, none⟩) 0 c) (w.alloc (.cells (madeCells #[.int .u8 0] c) 5)) := by
  obtain ⟨i, hi, hz0, hz1, hz2⟩ := info_parts Try.infoByteD
  have := run_make (P := Try.prog) w 29 5 i (.int .u8 0) Try.underlying29 hi hz0 .i64 .i64 0 (c : Int) (by omega) (by omega) (by rw [hz2]; omega) (by omega)
  rw [this, hz1, Nat.mul_one]
  rfl
theorem room_byt {B gl : Nat} {ob : Obj} {w0 w : World} (c : Nat) (hc : c ≤ 100000000000) (hb : Below B w0 w) (hB : B ≤ w.heap.size) (hl : w.heap[gl]? = some ob) : Byt B gl ob w0 (w.alloc (.cells (madeCells #[.int .u8 0] c) 5)) (.slice (some ⟨w.heap.size, 0, none⟩) 0 c) [] := by
  have hgl := block_lt hl
  refine ⟨⟨rfl, Or.inr ⟨w.heap.size, c, _, rfl, Nat.zero_le _, heap_alloc_new w _, Nat.zero_le _, by unfold maxLen; omega, by rw [size_madeCells, Nat.mul_one], by simp [byts]⟩⟩, fun g hg => ?_, hb.alloc hB _, by simp; omega, (heap_alloc_old w _ hgl).trans hl⟩
  have eg : w.heap.size = g := Option.some.inj hg
  subst eg
  exact ⟨hB, by omega⟩

theorem alloc_second (w : World) (a b : Obj) : ((w.alloc a).alloc b).heap[w.heap.size + 1]? = some b := by
  have h := heap_alloc_new (w.alloc a) b
  have e : (w.alloc a).heap.size = w.heap.size + 1 := by simp
  rw [e] at h
  exact h
/-- The two numbers of a node. -/
theorem put_two {B gl : Nat} {ob : Obj} {w0 w : World} {v : Value} {l : List UInt8} (h : Byt B gl ob w0 w v l) (bx : Nat) (x0 x1 x2 : Nat) (hbx : w.heap[bx]? = some (.cells #[.int .i64 x0, .int .i64 x1, .int .i64 x2] 82 (0, 0))) (hne : v.ownBlock ≠ some bx) (h1 : x1 ≤ 1073741826) (h2 : x2 ≤ 1073741826) (hl : l.length ≤ 10000000000) :
    Calls Try.prog 36 #[v, .int .i64 x1] w.drew fun e w5 => ∃ v5, e = .returned v5 ∧ (w5.cell? ⟨bx, 1, none⟩ = some (.int .i64 x1) ∧ w5.cell? ⟨bx, 2, none⟩ = some (.int .i64 x2)) ∧
      Hid (Calls Try.prog 36 #[v5, .int .i64 x2] w5 fun e w6 => ∃ v6, e = .returned v6 ∧ (w6.cell? ⟨bx, 1, none⟩ = some (.int .i64 x1) ∧ w6.cell? ⟨bx, 2, none⟩ = some (.int .i64 x2)) ∧ Hid (Byt B gl ob w0 w6 v6 (l ++ four x1 ++ four x2))) := by
  have lbx := block_lt hbx
  refine (put_ok h.drew x1 h1 (by omega)).mono ?_
  rintro e w5 ⟨g, cap, rfl, h5, hat, hold⟩
  have b5 : w5.heap[bx]? = _ := (hold bx lbx (fun e => hne e.symm)).trans hbx
  have hne5 : some bx ≠ (Value.slice (some ⟨g, 0, none⟩) (l.length + 4) cap).ownBlock := by
    intro e
    have e' : bx = g := Option.some.inj e
    rcases hat with h | h
    · exact hne (by rw [e']; exact h)
    · have h' : g = w.heap.size + 1 := h; omega
  refine ⟨_, rfl, ⟨by rw [cell_at b5]; rfl, by rw [cell_at b5]; rfl⟩, ?_⟩
  refine (put_ok h5 x2 h2 (by rw [List.length_append]; show _ + 4 ≤ _; omega)).mono ?_
  rintro e w6 ⟨g6, cap6, rfl, h6, hat6, hold6⟩
  have b6 : w6.heap[bx]? = _ := (hold6 bx (block_lt b5) hne5).trans b5
  refine ⟨.slice (some ⟨g6, 0, none⟩) ((l ++ four x1).length + 4) cap6, ?_, ⟨by rw [cell_at b6]; rfl, by rw [cell_at b6]; rfl⟩, h6⟩
  rfl

set_option maxRecDepth 4000 in
set_option maxHeartbeats 4000000 in
theorem Write_ok {w : World} {y : Lay} {s : St} (hT : Tab w y s) (h2 : 2 ≤ s.first) (r n : Nat) (hn : s.node? r = some n) (hnl : n < s.L.length + 2) :
    Calls Try.prog 11 #[.pointer (some ⟨y.tb, 0, none⟩), .int .i64 r] w fun e w' => ∃ v, e = .returned (.tuple #[v, .int .i64 0]) ∧ w'.ownsRow 0 5 1 v (dumpB s.bits (listOf s.L n) r).length (byts (dumpB s.bits (listOf s.L n) r)) ∧ (∀ g, v.ownBlock = some g → w.heap.size ≤ g) ∧ Below w.heap.size w w' := by
  have HT := keep hT
  have Q1 := keep (List_new hT h2 r n hn hnl)
  have hfew := list_few hT.okay hnl
  have hsm := hT.small.1
  have hokQ := (list_okay hT.okay hnl).1
  have h128 := hT.okay.few
  have hr1 : (listOf s.L n).length = 0 → r ≤ 1 := by
    intro h0
    rcases Nat.lt_or_ge n 2 with h | h
    · have e : s.node? n = some n := by unfold St.node?; rw [if_pos h]
      rw [node_inj hT hn e]; omega
    · have := (list_last hT.okay h hnl).1; omega
  generalize listOf s.L n = Q at *
  obtain ⟨q, hq⟩ : ∃ q, q = Q.length := ⟨_, rfl⟩
  have HQ := keep hq
  rw [← hq] at Q1 hfew hr1
  have hqI : (q : Int) ≤ 1073741824 := by omega
  have hbI : (s.bits : Int) ≤ 128 := by omega
  have HOK := keep hokQ
  have HR1 := keep hr1
  obtain ⟨i0, hi, hz0, hz1, hz2⟩ := info_parts Try.infoByteD
  have HI := keep hi
  have HZ0 := keep hz0
  have HZ1 := keep hz1
  have HZ2 := keep hz2
  obtain ⟨c, hc⟩ : ∃ c, c = (if q = 0 then 6 else 5 + 9 * q : Nat) := ⟨_, rfl⟩
  have hcb : c ≤ 100000000000 := by rw [hc]; split <;> omega
  have HSZ : Hid (∀ w1, Calls Try.prog 34 #[.int .i64 q] w1 fun e w' => e = .returned (.int .i64 c) ∧ w' = w1) := fun w1 => by rw [hc]; exact dsize_any q (by omega) w1
  have hmk := run_room c hcb
  have HCB := keep hcb
  have HONE := keep (one_val s.bits (by omega))
  clear hT hn hnl hokQ hr1 hi hz0 hz1 hz2 hc hcb hq hfew hsm
  go_enter Try.func11, Try.ntmps11
  go_wp2_with fail
  refine Q1.out.mono ?_
  rintro e w1 ⟨gl, cpl, rfl, hrow, hgl, hb1⟩
  have HROW := keep hrow
  have HB1 := keep hb1
  obtain ⟨cur, hcur⟩ := owned_cells hrow (g := gl) rfl
  have HCUR := keep hcur
  clear Q1 hrow hb1 hcur
  go_wp2_with fail
  refine (HSZ.out w1).mono ?_
  rintro e w2 ⟨rfl, rfl⟩
  have H2 : Hid (Byt w.heap.size gl (.cells cur 82 (0, 0)) w (w2.alloc (.cells (madeCells #[.int .u8 0] c) 5)) (.slice (some ⟨w2.heap.size, 0, none⟩) 0 c) []) := room_byt c HCB.out HB1.out HB1.out.size HCUR.out
  have HBITS := keep (Bits_ok ((HT.out.below HB1.out).below ((Below.refl _ _).alloc (Nat.le_refl _) (.cells (madeCells #[.int .u8 0] c) 5))))
  clear HSZ
  go_wp2_with fail
  refine HBITS.out.mono ?_
  rintro e w3 ⟨rfl, rfl⟩
  clear HBITS hmk
  have hb0 : (0 : Int) ≤ (s.bits : Int) := by omega
  have HO : Hid (∀ o, ((w2.alloc (.cells (madeCells #[.int .u8 0] c) 5)).alloc o).ownsRow 0 5 1 (.slice (some ⟨w2.heap.size, 0, none⟩) 0 c) 0 (byts [])) := fun o => H2.out.row.alloc o
  generalize w2.alloc (.cells (madeCells #[.int .u8 0] c) 5) = W at *
  go_wp2_with (at_builtin; refine wpList_append_lies _ rfl (.tmp 24) (.tmp 28) 29 rfl 0 5 i0 (.int .u8 0) 1 1 Try.underlying29 HI.out HZ0.out HZ1.out HZ2.out rfl (by decide) (.slice (some ⟨w2.heap.size, 0, none⟩) 0 c) 0 (byts []) rfl (HO.out _) ⟨W.heap.size, 0, none⟩ 1 1 [.int .u8 s.bits] rfl rfl (World.news_of_block (heap_alloc_new W _)) (by simp [Value.oneCell']) (by decide) (by unfold maxLen; omega) (by omega) (Nat.zero_le _) (W.heap.size + 1) (by simp) ?_)
  intro g4 cap4 w4 hown4 hgrow4 hat4 hlt4
  have H4 : Hid (Byt w.heap.size gl (.cells cur 82 (0, 0)) w w4 (.slice (some ⟨g4, 0, none⟩) 1 cap4) [UInt8.ofNat s.bits]) := H2.out.grow (m := [UInt8.ofNat s.bits]) rfl (by rw [HONE.out]; exact hown4) hgrow4 hat4
  have HP := keep (put_ok H4.out q (by omega) (by simp))
  clear hown4 hgrow4 hat4 hlt4 HO
  go_wp2_with fail
  refine HP.out.mono ?_
  rintro e w5 ⟨g5, cap5, rfl, h5, _, _⟩
  have H5 : Hid (Byt w.heap.size gl (.cells cur 82 (0, 0)) w w5 (.slice (some ⟨g5, 0, none⟩) 5 cap5) (headB s.bits q)) := h5
  clear h5 HP H4 H2
  by_cases hq0 : q = 0
  · have hr := HR1.out hq0
    have hrI : (r : Int) ≤ 1 := by omega
    have hr0 : (0 : Int) ≤ (r : Int) := by omega
    have HQ0 := keep hq0
    subst hq0
    have HO : Hid (∀ o, (w5.alloc o).ownsRow 0 5 1 (.slice (some ⟨g5, 0, none⟩) 5 cap5) 5 (byts (headB s.bits 0))) := fun o => H5.out.row.alloc o
    have HONR := keep (one_val r (by omega))
    clear hr
    go_wp2_with (at_builtin; refine wpList_append_lies _ rfl (.tmp 37) (.tmp 40) 29 rfl 0 5 i0 (.int .u8 0) 1 1 Try.underlying29 HI.out HZ0.out HZ1.out HZ2.out rfl (by decide) (.slice (some ⟨g5, 0, none⟩) 5 cap5) 5 (byts (headB s.bits 0)) rfl (HO.out _) ⟨w5.heap.size, 0, none⟩ 1 1 [.int .u8 r] rfl rfl (World.news_of_block (heap_alloc_new w5 _)) (by simp [Value.oneCell']) (by decide) (by unfold maxLen; omega) (by omega) (Nat.zero_le _) (w5.heap.size + 1) (by simp) ?_)
    intro g6 cap6 w6 hown6 hgrow6 hat6 hlt6
    have H6 : Hid (Byt w.heap.size gl (.cells cur 82 (0, 0)) w w6 (.slice (some ⟨g6, 0, none⟩) 6 cap6) (headB s.bits 0 ++ [UInt8.ofNat r])) := H5.out.grow (m := [UInt8.ofNat r]) rfl (by rw [HONR.out]; exact hown6) hgrow6 hat6
    clear hown6 hgrow6 hat6 hlt6 HO
    go_wp2
    go_ret2
    have hQ0 : Q = [] := List.length_eq_zero_iff.1 HQ.out.symm
    refine ⟨_, rfl, ?_, fun g hg => (H6.out.own g hg).1, H6.out.below⟩
    have e : dumpB s.bits Q r = headB s.bits 0 ++ [UInt8.ofNat r] := by unfold dumpB; rw [hQ0]; rfl
    rw [e]
    exact H6.out.row
  · have hq0I : ((q : Int) == 0) = false := by rw [beq_eq_false_iff_ne]; omega
    have HQ0 := keep hq0
    clear hq0
    go_wp2
    go_loopw [8, 44] (fun p i wr => ∃ k g cp : Nat, k ≤ q ∧ i = .int .i64 k ∧ p = .slice (some ⟨g, 0, none⟩) (5 + 9 * k) cp ∧ Hid (Byt w.heap.size gl (.cells cur 82 (0, 0)) w wr (.slice (some ⟨g, 0, none⟩) (5 + 9 * k) cp) (headB s.bits q ++ (Q.take k).flatMap nodeB))) (fun _ i _ => q - (intOf i).toNat)
    case atStart => exact ⟨0, g5, cap5, Nat.zero_le _, rfl, rfl, by simpa using H5⟩
    case round =>
      obtain ⟨k, g, cp, hk, rfl, rfl, HB⟩ := hrel
      by_cases hlt : k < q
      · obtain ⟨x, hx⟩ : ∃ x, Q[k]? = some x := ⟨Q[k]'(by rw [← HQ.out]; exact hlt), List.getElem?_eq_getElem (by rw [← HQ.out]; exact hlt)⟩
        have hfit := HOK.out.fit k x hx
        have hQL := HQ.out
        have HT1 : Hid ((Q.take (k + 1)).flatMap nodeB = (Q.take k).flatMap nodeB ++ nodeB x) := by show _ = _; rw [take_succ_get hx, List.flatMap_append, List.flatMap_cons, List.flatMap_nil, List.append_nil]
        have hlr := row_held HROW.out HCUR.out HB.out.lst
        have hadd : ∀ j, (⟨gl, 0, none⟩ : Addr).add j = ⟨gl, j, none⟩ := by intro j; unfold Addr.add; split <;> simp_all
        obtain ⟨f0, f1, f2⟩ := flat_at hx
        have d0 := hlr.cells rfl _ _ f0
        have d1 := hlr.cells rfl _ _ f1
        have d2 := hlr.cells rfl _ _ f2
        rw [hadd] at d0 d1 d2
        have lgl := block_lt HB.out.lst
        have x0 : x.1 ≤ 128 := by omega
        have x1 : x.2.1 ≤ 1073741826 := by omega
        have x2 : x.2.2 ≤ 1073741826 := by omega
        obtain ⟨p0, p1, p2⟩ := x
        simp only [i6] at d0 d1 d2 x0 x1 x2
        have HONX := keep (one_val p0 (by omega))
        have x0I : (p0 : Int) ≤ 128 := by omega
        have x0z : (0 : Int) ≤ (p0 : Int) := by omega
        have hkI : (k : Int) < (q : Int) := by omega
        have hBg := HB.out.own g rfl
        have hgl2 := (HB.out.row.lt g rfl).2
        have hln : (headB s.bits q ++ (Q.take k).flatMap nodeB).length = 5 + 9 * k := by
          rw [List.length_append, flat_length9, List.length_take]
          show 5 + 9 * min k Q.length = _
          omega
        have HLN := keep hln
        have HO : Hid (∀ o o', ((wr.alloc o).alloc o').ownsRow 0 5 1 (.slice (some ⟨g, 0, none⟩) (5 + 9 * k) cp) (5 + 9 * k) (byts (headB s.bits q ++ (Q.take k).flatMap nodeB))) := fun o o' => by
          have h := (HB.out.row.alloc o).alloc o'
          rw [hln] at h
          exact h
        have HBA : Hid (∀ o, Byt w.heap.size gl (.cells cur 82 (0, 0)) w (wr.alloc o) (.slice (some ⟨g, 0, none⟩) (5 + 9 * k) cp) (headB s.bits q ++ (Q.take k).flatMap nodeB)) := fun o => HB.out.alloc o
        clear hfit hlr hadd f0 f1 f2 hx hQL hln
        go_wp2_with (at_builtin; refine wpList_append_lies _ rfl (.tmp 48) (.tmp 52) 29 rfl 0 5 i0 (.int .u8 0) 1 1 Try.underlying29 HI.out HZ0.out HZ1.out HZ2.out rfl (by decide) (.slice (some ⟨g, 0, none⟩) (5 + 9 * k) cp) (5 + 9 * k) (byts (headB s.bits q ++ (Q.take k).flatMap nodeB)) rfl (HO.out _ _) ⟨wr.heap.size + 1, 0, none⟩ 1 1 [.int .u8 p0] rfl rfl (World.news_of_block (alloc_second wr _ _)) (by simp [Value.oneCell']) (by decide) (by unfold maxLen; omega) (by omega) (Nat.zero_le _) (wr.heap.size + 1 + 1) (by simp) ?_)
        intro g6 cap6 w6 hown6 hgrow6 hat6 hlt6
        have h6 : Byt w.heap.size gl (.cells cur 82 (0, 0)) w w6 (.slice (some ⟨g6, 0, none⟩) (5 + 9 * k + 1) cap6) (headB s.bits q ++ (Q.take k).flatMap nodeB ++ [UInt8.ofNat p0]) := (HBA.out _).grow (m := [UInt8.ofNat p0]) (by rw [HLN.out]; rfl) (by rw [HONX.out]; exact hown6) hgrow6 (by simpa using hat6)
        have hbx : w6.heap[wr.heap.size]? = some (.cells #[.int .i64 p0, .int .i64 p1, .int .i64 p2] 82 (0, 0)) := by
          rw [hgrow6.block wr.heap.size (by simp; omega) (fun e => by simp [Value.ownBlock] at e; omega), heap_alloc_old _ _ (by simp)]
          exact heap_alloc_new wr _
        have hne6 : (Value.slice (some ⟨g6, 0, none⟩) (5 + 9 * k + 1) cap6).ownBlock ≠ some wr.heap.size := fun e => by
          simp [Value.ownBlock] at e
          rcases hat6 with h | h
          · simp [Value.ownBlock] at h; omega
          · omega
        have HP2 := keep (put_two h6 wr.heap.size p0 p1 p2 hbx hne6 x1 x2 (by rw [List.length_append, HLN.out]; show _ + 1 ≤ _; omega))
        have b1 : w6.cell? ⟨wr.heap.size, 1, none⟩ = some (.int .i64 p1) := by rw [cell_at hbx]; rfl
        have b2 : w6.cell? ⟨wr.heap.size, 2, none⟩ = some (.int .i64 p2) := by rw [cell_at hbx]; rfl
        clear hown6 hgrow6 hat6 hlt6 HO HBA h6 hbx hne6 d0 d1 d2
        go_wp2_with fail
        go_region_held3 (fun w' => w'.cell? ⟨wr.heap.size, 1, none⟩ = some (.int .i64 p1) ∧ w'.cell? ⟨wr.heap.size, 2, none⟩ = some (.int .i64 p2)) (first | (go_keep; done) | exact k8 | exact k7) (first | (go_at_call 36; refine HP3.out.mono ?_; rintro e w8 ⟨v8, rfl, k8, HB8⟩) | (go_at_call 36; refine HP2.out.mono ?_; rintro e w7 ⟨v7, rfl, k7, HP3⟩))
        have h8 : ∃ g8 c8 : Nat, v8 = .slice (some ⟨g8, 0, none⟩) (5 + 9 * (k + 1)) c8 ∧ Byt w.heap.size gl (.cells cur 82 (0, 0)) w w8 v8 (headB s.bits q ++ (Q.take (k + 1)).flatMap nodeB) := by
          have e : headB s.bits q ++ (Q.take (k + 1)).flatMap nodeB = headB s.bits q ++ (Q.take k).flatMap nodeB ++ [UInt8.ofNat p0] ++ four p1 ++ four p2 := by
            rw [HT1.out]
            unfold nodeB
            simp only [List.append_assoc]
          have hb8 := HB8.out
          rw [← e] at hb8
          have hl : (headB s.bits q ++ (Q.take (k + 1)).flatMap nodeB).length = 5 + 9 * (k + 1) := by
            rw [HT1.out, ← List.append_assoc, List.length_append, HLN.out, nodeB_length]
            omega
          have hr8 := hb8.row
          rw [hl] at hr8
          obtain ⟨g8, c8, hv, _, _⟩ := hr8.form (by omega)
          exact ⟨g8, c8, hv, hb8⟩
        obtain ⟨g8, c8, rfl, hb8⟩ := h8
        have HB9 := keep hb8
        clear hb8 HB8 k7 k8 HP2 HP3
        go_wp2
        go_roundw
        case rel => exact ⟨k + 1, g8, c8, by omega, by go_num, rfl, HB9⟩
        case measure => simp [intOf]; omega
      · have hkn : k = q := by omega
        subst hkn
        have HR : Hid (wr.ownsRow 0 5 1 (.slice (some ⟨g, 0, none⟩) (5 + 9 * k) cp) (dumpB s.bits Q r).length (byts (dumpB s.bits Q r))) := by
          have e : dumpB s.bits Q r = headB s.bits k ++ (Q.take k).flatMap nodeB := by
            unfold dumpB
            rw [← HQ.out, if_neg HQ0.out, HQ.out, List.take_length]
          rw [e]
          exact HB.out.row
        go_wp2
        go_ret2
        exact ⟨_, rfl, HR.out, fun g' hg' => (HB.out.own g' hg').1, HB.out.below⟩
end Go.Proofs.Ytffngpdngjfcfaa
