/-
  Proved: for every number of bits and every row of texts the law BddBack answers true (the function of a list is the one whose list it is, in the same table and in another one, which then has no other nodes), and leaves its arguments as they were. Conditions: none.
  The law BddBack: the walk.
  The law BddBack: lists of functions, and functions of lists.
-/
import Derived.Test.YtffngpdngjfcfaaBBuildAnd
import Derived.Test.YtffngpdngjfcfaaBCubesAnd
import Derived.Test.YtffngpdngjfcfaaRows
import Derived.WalkKit
import Derived.ProofKit
import Derived.OpenShut
import Derived.ShutString
import Derived.SliceStrings
namespace Go.Proofs.Ytffngpdngjfcfaa
open Go.RowKit Go.Maps
open Bd (Nd ff tt iteF)

set_option maxRecDepth 4000 in
set_option maxHeartbeats 1000000 in
/-- List, and where its nodes lie. -/
theorem List_new {w : World} {y : Lay} {s : St} (hT : Tab w y s) (h2 : 2 ≤ s.first) (r n : Nat) (hn : s.node? r = some n) (hnl : n < s.L.length + 2) :
    Calls Try.prog 27 #[.pointer (some ⟨y.tb, 0, none⟩), .int .i64 r] w fun e w' => ∃ g cap, e = .returned (.tuple #[.slice (some ⟨g, 0, none⟩) (listOf s.L n).length cap, .int .i64 0]) ∧ w'.ownsRow 0 82 3 (.slice (some ⟨g, 0, none⟩) (listOf s.L n).length cap) (listOf s.L n).length (flat (listOf s.L n)) ∧ w.heap.size ≤ g ∧ Below w.heap.size w w' := by
  have HT := keep hT
  have q1 := root_ok hT h2 r n hn
  clear hT hn
  go_enter Try.func27, Try.ntmps27
  go_wp2_with fail
  refine q1.mono ?_
  clear q1
  rintro e w1 ⟨rfl, hb1⟩
  have HB1 := keep hb1
  have HT1 := keep (HT.out.below hb1)
  have c3 : w1.cell? ⟨y.tb, 3, none⟩ = some y.ls := by rw [cell_at HT1.out.cells]; rfl
  obtain ⟨ao, cap, hls⟩ := HT1.out.list_slice
  rw [hls] at c3
  clear hb1
  go_wp2_with fail
  refine (orderOf_one (lv := .slice ao s.L.length cap) (L := s.L) (by rw [← hls]; exact HT1.out.list.alloc _) HT.out.okay.falls HT.out.small.1 n w1.heap.size 1 hnl (by simp) (by rw [cell_at (heap_alloc_new w1 _)]; rfl)).mono ?_
  rintro e w2 ⟨ob, pb, rfl, hO, hb2⟩
  have HB2 := keep (((Below.refl _ _).alloc (Nat.le_refl _) _).trans (hb2.mono (by simp)) : Below w1.heap.size w1 w2)
  have HO := keep hO
  clear hb2 hO
  have hnd := vis_nodup s.L 2 HT.out.okay.falls (by omega) (n + 1) n [] hnl (by simp)
  have hvl := vis_lt s.L 2 HT.out.okay.falls (by omega) (n + 1) n [] hnl (by simp)
  have hlen : (vis s.L 2 (n + 1) n []).length ≤ 1073741826 := by
    have h1 : (vis s.L 2 (n + 1) n []).length ≤ s.L.length + 2 := by
      have := List.Nodup.length_le_of_subset (l₂ := List.range (s.L.length + 2)) hnd (fun m hm => List.mem_range.2 (hvl m hm).2)
      simpa using this
    have := HT.out.small.1
    omega
  go_wp2_with fail
  refine (nodes_any HO.out hnd hvl (by omega) HT.out.okay.falls HT.out.small.1 (by omega) hlen).mono ?_
  rintro e w3 ⟨rfl, hown, hb3⟩
  have HOWN := keep hown
  clear hown hnd hvl
  go_wp2
  go_ret2
  have e1 : (listOf s.L n).length = (vis s.L 2 (n + 1) n []).length := by unfold listOf; rw [List.length_map]
  refine ⟨w2.heap.size, (vis s.L 2 (n + 1) n []).length, by rw [e1]; rfl, ?_, Nat.le_trans HB1.out.size HB2.out.size, HB1.out.trans ((HB2.out.trans (hb3.mono HB2.out.size)).mono HB1.out.size)⟩
  rw [e1]
  exact HOWN.out

theorem nodesIn_any {w : World} {g cap : Nat} {L : List Nd} (h : w.ownsRow 0 82 3 (.slice (some ⟨g, 0, none⟩) L.length cap) L.length (flat L)) : NodesIn w (.slice (some ⟨g, 0, none⟩) L.length cap) L := by
  rcases Nat.eq_zero_or_pos L.length with h0 | h0
  · exact ⟨g, cap, rfl, fun i x hx => by have := Bd.getElem?_lt hx; omega⟩
  · exact nodesIn_of h h0

/-- The list of a function. -/
structure Listed {nb M : Nat} (A : Bd.Fam nb M) (Q : List Nd) (f : Bd.Fn) : Prop where
  ex : ∃ L n, Bd.Okay nb L ∧ n < L.length + 2 ∧ Bd.den L n = f ∧ Q = listOf L n
  within : Bd.Within A Q
  few : Q.length ≤ 1073741824

theorem listed_one {nb M M' : Nat} {A : Bd.Fam nb M} {A' : Bd.Fam nb M'} {Q Q' : List Nd} {f : Bd.Fn} (h : Listed A Q f) (h' : Listed A' Q' f) : Q = Q' := by
  obtain ⟨L, n, a1, a2, a3, rfl⟩ := h.ex
  obtain ⟨L', n', b1, b2, b3, rfl⟩ := h'.ex
  exact list_alike a1 b1 ⟨a2, b2, a3.trans b3.symm⟩
theorem list_end {L : List Nd} {n : Nat} (h : n < 2) : listOf L n = [] := by
  unfold listOf vis
  rw [if_pos h]; rfl
theorem listed_right {nb M : Nat} {A : Bd.Fam nb M} {Q : List Nd} {f : Bd.Fn} (h : Listed A Q f) : (Q = [] ∧ (f = ff ∨ f = tt)) ∨ (Right nb Q ∧ 1 ≤ Q.length ∧ Bd.den Q (Q.length + 1) = f) := by
  obtain ⟨L, n, a1, a2, rfl, rfl⟩ := h.ex
  rcases Nat.lt_or_ge n 2 with h2 | h2
  · refine Or.inl ⟨list_end h2, ?_⟩
    rcases Nat.lt_or_ge n 1 with h1 | h1
    · have : n = 0 := by omega
      subst this
      exact Or.inl (Bd.den_zero _)
    · have : n = 1 := by omega
      subst this
      exact Or.inr (Bd.den_one _)
  · obtain ⟨b1, b2⟩ := list_last a1 h2 a2
    exact Or.inr ⟨list_right a1 h2 a2, b1, b2⟩
theorem listed_ok {nb M : Nat} (hnb : nb ≤ 128) {A : Bd.Fam nb M} {Q : List Nd} {f : Bd.Fn} (h : Listed A Q f) : Right nb Q := by
  rcases listed_right h with ⟨rfl, _⟩ | ⟨h, _⟩
  · exact Right.nil hnb
  · exact h
theorem listed_last {nb M : Nat} {A : Bd.Fam nb M} {Q : List Nd} {f : Bd.Fn} (h : Listed A Q f) (hf : f ≠ tt) : lastF Q = f := by
  unfold lastF
  rcases listed_right h with ⟨rfl, h | h⟩ | ⟨_, h1, h2⟩
  · rw [if_pos (show ([] : List Nd).length = 0 from rfl)]; exact h.symm
  · exact absurd h hf
  · rw [if_neg (by omega)]; exact h2
theorem listed_of {nb M : Nat} {A : Bd.Fam nb M} {L : List Nd} {n : Nat} (hL : Bd.Okay nb L) (hn : n < L.length + 2) (hW : Bd.Within A L) (hs : L.length ≤ 1073741824) : Listed A (listOf L n) (Bd.den L n) := by
  refine ⟨⟨L, n, hL, hn, rfl, rfl⟩, fun i x hx => ?_, Nat.le_trans (list_few hL hn) hs⟩
  obtain ⟨hQ, hd⟩ := list_okay hL hn
  have hi : i < (ords L n).length := by rw [← list_length]; exact Bd.getElem?_lt hx
  have e1 : (ords L n)[i]? = some (ords L n)[i] := List.getElem?_eq_getElem hi
  rw [hd i _ e1]
  rw [list_at e1] at hx
  obtain ⟨m1, m2⟩ := ords_lt hL hn _ (List.getElem_mem hi)
  generalize (ords L n)[i] = m at *
  have hx1 : x.1 = (L.getD (m - 2) (0, 0, 0)).1 := by rw [← Option.some.inj hx]; rfl
  rw [hx1]
  have hm := (half_of hL m1 m2).1
  have := hW (m - 2) _ hm
  rw [show m - 2 + 2 = m by omega] at this
  exact this
theorem listed_den {nb M : Nat} {A : Bd.Fam nb M} {Q : List Nd} {f : Bd.Fn} (h : Listed A Q f) (hQ : Bd.Okay nb Q) : Bd.Within (denFam A Q hQ) Q := fun i x hx => ⟨h.within i x hx, i + 2, by have := Bd.getElem?_lt hx; omega, rfl⟩

section
variable {nb M : Nat} {A : Bd.Fam nb M} {B : Nat} {w0 w w' : World} {tb K : Nat} {fs : List (Nat × Bd.Fn)} {hs : List (Nat × Obj)}

theorem Live.tt (h : Live A B w0 w tb K fs hs) {f : Bd.Fn} (hr : (1, f) ∈ fs) : f = tt := by
  obtain ⟨y, L, roots, e, hT, hW, hK, hb0, hy, hB, hf, hh⟩ := h.ex
  obtain ⟨m, a1, a2, a3⟩ := hf _ hr
  have : (1 : Nat) = m := Option.some.inj a1
  subst this
  exact a3.symm.trans (Bd.den_one _)

theorem live_list (h : Live A B w0 w tb K fs hs) {r : Nat} {f : Bd.Fn} (hr : (r, f) ∈ fs) :
    Calls Try.prog 27 #[.pointer (some ⟨tb, 0, none⟩), .int .i64 r] w fun e w' => ∃ (Q : List Nd) (g cap : Nat) (o : Obj), e = .returned (.tuple #[.slice (some ⟨g, 0, none⟩) Q.length cap, .int .i64 0]) ∧ Listed A Q f ∧ w'.ownsRow 0 82 3 (.slice (some ⟨g, 0, none⟩) Q.length cap) Q.length (flat Q) ∧ Live A B w0 w' tb K fs ((g, o) :: hs) := by
  have h0 := h
  obtain ⟨y, L, roots, rfl, hT, hW, hK, hb0, hy, hB, hf, hh⟩ := h.ex
  obtain ⟨m, a1, a2, a3⟩ := hf _ hr
  have a3' : Bd.den L m = f := a3
  subst a3'
  refine (List_new (s := ⟨L, roots, 2, nb, 1048576⟩) hT (Nat.le_refl _) r m a1 a2).mono ?_
  rintro e w' ⟨g, cap, rfl, hrow, hg, hb⟩
  obtain ⟨cur, hcur⟩ := owned_cells hrow (g := g) rfl
  refine ⟨listOf L m, g, cap, .cells cur 82 (0, 0), rfl, listed_of hT.okay a2 hW hT.small.1, hrow, y, L, roots, rfl, hT.below hb, hW, hK, hb0.trans (hb.mono hB), hy, Nat.le_trans hB hb.size, hf, fun q hq => ?_⟩
  rcases List.mem_cons.1 hq with e | hq
  · rw [e]; exact ⟨hcur, fun ho => by have := hT.lt ho; omega⟩
  · exact ⟨(hb.block _ (block_lt (hh q hq).1)).trans (hh q hq).1, (hh q hq).2⟩

theorem live_make (h : Live A B w0 w tb K fs hs) (hK : K < 1000000) (hlim : nb * M ≤ 1048576) {Q : List Nd} {g cap : Nat} {o : Obj} (hrow : w.ownsRow 0 82 3 (.slice (some ⟨g, 0, none⟩) Q.length cap) Q.length (flat Q)) (hg : (g, o) ∈ hs) (hR : Right nb Q) (hlen : Q.length ≤ 1073741824) (hF : Bd.Within A Q) :
    Calls Try.prog 28 #[.pointer (some ⟨tb, 0, none⟩), .slice (some ⟨g, 0, none⟩) Q.length cap] w fun e w' => ∃ r : Nat, e = .returned (.tuple #[.int .i64 r, .int .i64 0, .int .i64 0]) ∧ Live A B w0 w' tb (K + 1) ((r, lastF Q) :: fs) hs := by
  obtain ⟨y, L, roots, rfl, hT, hW, hK', hb0, hy, hB, hf, hh⟩ := h.ex
  refine (Make_ok (s := ⟨L, roots, 2, nb, 1048576⟩) A hT hW (Nat.le_refl _) (by show roots.length + 1 ≤ _; omega) hlim Q _ hrow (fun k hk => by cases hk; exact (hh _ hg).2) hR hlen hF).mono ?_
  rintro e w' ⟨r, rfl, ht⟩
  exact ⟨r, rfl, live_told hK' hb0 hy hB hf hh ht⟩
theorem row_held {o : Obj} {g cap n : Nat} {xs : List Value} (hrow : w.ownsRow 0 82 3 (.slice (some ⟨g, 0, none⟩) n cap) n xs) (h1 : w.heap[g]? = some o) (h2 : w'.heap[g]? = some o) : w'.ownsRow 0 82 3 (.slice (some ⟨g, 0, none⟩) n cap) n xs :=
  row_same hrow fun q hq => by cases hq; exact h2.trans h1.symm

theorem live_new (A : Bd.Fam nb M) (hb0 : Below B w0 w) (hB : B ≤ w.heap.size) (h1 : 1 ≤ nb) (h2 : nb ≤ 128) (hh : ∀ q, q ∈ hs → w.heap[q.1]? = some q.2) :
    Calls Try.prog 13 #[.int .i64 (nb : Int), .int .i64 1048576] w fun e w' => ∃ tb, e = .returned (.tuple #[.pointer (some ⟨tb, 0, none⟩), .int .i64 0]) ∧ Live A B w0 w' tb 0 [] hs := by
  refine (New_ok w nb 1048576 h1 h2 (Nat.le_refl _)).mono ?_
  rintro e w' ⟨y, rfl, hT, hb, hy⟩
  refine ⟨y.tb, rfl, y, [], [], rfl, hT, Bd.within_nil _, Nat.le_refl _, hb0.trans (hb.mono hB), fun j hj => Nat.le_trans hB (hy j hj), Nat.le_trans hB hb.size, fun p hp => by simp at hp, fun q hq => ?_⟩
  have hl := block_lt (hh q hq)
  exact ⟨(hb.block _ hl).trans (hh q hq), fun ho => by have := hy _ ho; omega⟩

/-- A table with no nodes but those of a list has as many. -/
theorem live_exact {Q : List Nd} {hQ : Bd.Okay nb Q} {f : Bd.Fn} {r : Nat} (h : Live (denFam A Q hQ) B w0 w tb K fs hs) (hr : (r, f) ∈ fs) (hl : Listed A Q f) : Calls Try.prog 30 #[.pointer (some ⟨tb, 0, none⟩)] w fun e w' => e = .returned (.int .i64 Q.length) ∧ w' = w := by
  obtain ⟨y, L, roots, rfl, hT, hW, hK, hb0, hy, hB, hf, hh⟩ := h.ex
  obtain ⟨m, a1, a2, a3⟩ := hf _ hr
  have a3' : Bd.den L m = f := a3
  have h1 := den_few hT.okay hW
  have h2 := list_few hT.okay a2
  have h3 : Q = listOf L m := listed_one hl (a3' ▸ listed_of hT.okay a2 hW hT.small.1)
  rw [← h3] at h2
  have e : L.length = Q.length := by
    have h1' : L.length ≤ Q.length := h1
    have h2' : Q.length ≤ L.length := h2
    omega
  have := Size_ok hT
  have hs' : (⟨L, roots, 2, nb, 1048576⟩ : St).L.length = Q.length := e
  rw [hs'] at this
  exact this
end
end Go.Proofs.Ytffngpdngjfcfaa
namespace Go.Proofs.Ytffngpdngjfcfaa
open Go.RowKit Go.Maps
open Bd (Nd ff tt iteF)

set_option maxRecDepth 8000 in
set_option maxHeartbeats 4000000 in
theorem back_out (bits : Int) (a0 : Option Addr) (len cap : Nat) (w : World) (h : (10 < (len : Int)) = True) :
    Calls Try.prog 8 #[.int .i64 bits, .slice a0 len cap] w fun e w' => e = .returned (.bool true) ∧ Below w.heap.size w w' := by
  go_enter Try.func8, Try.ntmps8
  go_wp2_with fail
  refine (awake_any w).mono ?_
  rintro e w1 ⟨rfl, hb⟩
  have HB := keep hb
  clear hb
  go_wp2
  go_ret
  exact ⟨rfl, HB.out⟩

set_option maxRecDepth 8000 in
set_option maxHeartbeats 20000000 in
theorem back_in (bits : Int) (a0 : Option Addr) (len cap : Nat) (ss : List ByteArray) (w : World) (hv : Came w a0 len cap ss) (hN : len ≤ 10) :
    Calls Try.prog 8 #[.int .i64 bits, .slice a0 len cap] w fun e w' => e = .returned (.bool true) ∧ Below w.heap.size w w' := by
  have HV := keep hv
  have HN := keep hN
  have h : (10 < (len : Int)) = False := eq_false (by omega)
  clear hv hN
  go_enter Try.func8, Try.ntmps8
  go_wp2_with fail
  refine (awake_any w).mono ?_
  rintro e w1 ⟨rfl, hb⟩
  have HB := keep hb
  have HV1 : Hid (Came w1 a0 len cap ss) := came_below HV.out hb
  clear hb
  go_wp2_with fail
  refine (cubes_or (bits := bits) 10 (by omega) a0 len cap ss w1 HN.out HV1.out).mono ?_
  rintro e w2 (⟨p, v, rfl, hb⟩ | ⟨tb, nb, v, A, f, rfl, n1, n2, hAf, rfl, HOR⟩)
  · have HB2 := keep hb
    clear hb
    go_wp2
    go_ret
    exact ⟨rfl, HB.out.trans (HB2.out.mono HB.out.size)⟩
  · have HNB := keep (And.intro n1 n2)
    have HK := keep (show len + 30 < 1000000 by have := HN.out; omega)
    have HLIM := keep (show nb * 2 ^ 10 ≤ 1048576 by omega)
    clear n1 n2 HV HV1 hAf HN h
    go_wp2_with fail
    refine HOR.out.mono ?_
    rintro e w3 ⟨ra, rfl, h⟩
    have H3 := keep h
    clear h HOR
    go_wp2_with fail
    refine (live_list H3.out (.head _)).mono ?_
    rintro e w4 ⟨Q, g, c4, o, rfl, hQ, hrow, h⟩
    have H4 := keep h
    have HQ := keep hQ
    have HROW := keep hrow
    clear h H3 hQ hrow
    by_cases ha : ra = 1
    · subst ha
      have hf := H4.out.tt (.head _)
      have hQ0 : Q = [] := by
        obtain ⟨L, n, b1, b2, b3, e⟩ := HQ.out.ex
        have : n = 1 := Bd.canon b1 b2 (by omega) (by rw [b3, hf, Bd.den_one])
        rw [e, this]
        exact list_end (by omega)
      have HO := keep H4.out.out
      subst hQ0
      clear HROW HQ hf H4
      go_wp2
      go_ret
      exact ⟨rfl, HB.out.trans (HO.out.mono HB.out.size)⟩
    · have HF : Hid (f ≠ tt) := fun e => ha (H4.out.ends.one (f := tt) (.tail _ (.tail _ (by rw [e]; exact .head _))) (.tail _ (.head _)))
      have hne : ((ra : Int) == 1) = false := by rw [beq_eq_false_iff_ne]; omega
      have HR := keep (listed_ok HNB.out.2 HQ.out)
      have HLF := keep (listed_last HQ.out HF.out)
      clear ha HF
      have HM : Hid (Calls Try.prog 28 #[.pointer (some ⟨tb, 0, none⟩), .slice (some ⟨g, 0, none⟩) Q.length c4] w4 fun e w' => e = .returned (.tuple #[.int .i64 ra, .int .i64 0, .int .i64 0]) ∧ Below w1.heap.size w1 w' ∧ w'.heap[g]? = some o) := by
        refine (live_make H4.out (by have := HK.out; omega) HLIM.out HROW.out (.head _) HR.out HQ.out.few HQ.out.within).mono ?_
        rintro e w' ⟨r, rfl, h⟩
        have h' := h.as HLF.out
        have : r = ra := h'.one (f := f) (.head _) (.tail _ (.head _))
        subst this
        exact ⟨rfl, h.out, h.held (.head _)⟩
      have HG4 := keep (H4.out.held (.head _))
      obtain ⟨q, hq⟩ : ∃ q, q = Q.length := ⟨_, rfl⟩
      have HQL := keep hq
      rw [← hq] at HM ⊢
      clear hq H4
      go_wp2_with fail
      refine HM.out.mono ?_
      rintro e w5 ⟨rfl, hb5, hg5⟩
      have HB5 := keep hb5
      have HG5 := keep hg5
      clear hb5 hg5 HM
      go_wp2_with fail
      refine (live_new (hs := [(g, o)]) (denFam A Q HR.out.okay) HB5.out HB5.out.size HNB.out.1 HNB.out.2 (fun x hx => by simp at hx; subst hx; exact HG5.out)).mono ?_
      rintro e w6 ⟨to, rfl, h⟩
      have H6 := keep h
      clear h
      have HM2 : Hid (Calls Try.prog 28 #[.pointer (some ⟨to, 0, none⟩), .slice (some ⟨g, 0, none⟩) q c4] w6 fun e w' => ∃ r : Nat, e = .returned (.tuple #[.int .i64 r, .int .i64 0, .int .i64 0]) ∧ Live (denFam A Q HR.out.okay) w1.heap.size w1 w' to 1 [(r, f)] [(g, o)]) := by
        rw [HQL.out]
        refine (live_make H6.out (by omega) HLIM.out (row_held HROW.out HG4.out (H6.out.held (.head _))) (.head _) HR.out HQ.out.few (listed_den HQ.out HR.out.okay)).mono ?_
        rintro e w' ⟨r, rfl, h⟩
        exact ⟨r, rfl, h.as HLF.out⟩
      have hra : ((ra : Int) != (ra : Int)) = false := by simp
      clear H6 HG5
      go_wp2_with fail
      refine HM2.out.mono ?_
      rintro e w7 ⟨rc, rfl, h⟩
      have H7 := keep h
      clear h HM2
      have HL2 : Hid (Calls Try.prog 27 #[.pointer (some ⟨to, 0, none⟩), .int .i64 rc] w7 fun e w' => ∃ (g' cap : Nat), e = .returned (.tuple #[.slice (some ⟨g', 0, none⟩) q cap, .int .i64 0]) ∧ Hid (NodesIn w' (.slice (some ⟨g', 0, none⟩) q cap) Q) ∧ Hid (NodesIn w' (.slice (some ⟨g, 0, none⟩) q c4) Q) ∧ Hid (Live (denFam A Q HR.out.okay) w1.heap.size w1 w' to 1 [(rc, f)] [])) := by
        refine (live_list H7.out (.head _)).mono ?_
        rintro e w' ⟨Q', g', cap, o', rfl, hQ', hrow', h⟩
        have := listed_one HQ.out hQ'
        subst this
        have hr2 := row_held HROW.out HG4.out (h.held (.tail _ (.head _)))
        refine ⟨g', cap, by rw [HQL.out], ?_, ?_, ?_⟩
        · rw [HQL.out]; exact nodesIn_any hrow'
        · rw [HQL.out]; exact nodesIn_any hr2
        · obtain ⟨y, L, roots, e, hT, hW, hK, hb0, hy, hB, hf, hh⟩ := h.ex
          exact ⟨y, L, roots, e, hT, hW, hK, hb0, hy, hB, hf, fun x hx => by simp at hx⟩
      clear H7
      go_wp2_with fail
      refine HL2.out.mono ?_
      rintro e w8 ⟨g', c8, rfl, HN1, HN2, H8⟩
      clear HL2
      have HSAME : Hid (Calls Try.prog 29 #[.slice (some ⟨g, 0, none⟩) q c4, .slice (some ⟨g', 0, none⟩) q c8] w8 fun e w' => e = .returned (.bool true) ∧ Hid (Live (denFam A Q HR.out.okay) w1.heap.size w1 w' to 1 [(rc, f)] [])) := by
        refine (SameList_eq _ _ Q w8 (by have := HQ.out.few; omega) HN2.out HN1.out).mono ?_
        rintro e w' ⟨rfl, hb⟩
        exact ⟨rfl, H8.out.below hb⟩
      clear HN1 HN2 H8
      go_wp2_with fail
      refine HSAME.out.mono ?_
      rintro e w9 ⟨rfl, H9⟩
      clear HSAME
      have HSZ : Hid (Calls Try.prog 30 #[.pointer (some ⟨to, 0, none⟩)] w9 fun e w' => e = .returned (.int .i64 q) ∧ w' = w9) := by
        rw [HQL.out]
        exact live_exact H9.out (.head _) HQ.out
      go_wp2_with fail
      refine HSZ.out.mono ?_
      rintro e w10 ⟨rfl, rfl⟩
      clear HSZ
      have hqq : ((q : Int) == (q : Int)) = true := by simp
      go_wp2
      go_ret
      exact ⟨by simp, HB.out.trans (H9.out.out.mono HB.out.size)⟩

theorem back_any (bits : Int) (a0 : Option Addr) (len cap : Nat) (ss : List ByteArray) (w : World) (hv : Came w a0 len cap ss) :
    Calls Try.prog 8 #[.int .i64 bits, .slice a0 len cap] w fun e w' => e = .returned (.bool true) ∧ Below w.heap.size w w' := by
  by_cases h3 : len ≤ 10
  · exact back_in bits a0 len cap ss w hv h3
  · exact back_out bits a0 len cap w (eq_true (by omega))
end Go.Proofs.Ytffngpdngjfcfaa
namespace Go.Proofs.Ytffngpdngjfcfaa
open Go.ChangeShapes Go.WideShapes Go.ChangeAt Go.RowKit
open Go.ChangeMaps (open_string shut_string)

theorem BCBack.own : ownKnob Try.prog.godebug = none := by kernel_rfl
theorem BCBack.laidOut : laidOutB Try.prog = true := by kernel_rfl

set_option maxRecDepth 100000 in
theorem BCBack.lifted (os : Os) (started : os.Started) (H : Type) (enc : TypeId × Value → H) :
    ReturnsInHanded {} Try.checked os 8 .any (Rows.bddBackSpec.pre6 enc Try.prog Try.f8 Rows.bddBackRow.domain false) (Rows.bddBackSpec.post enc Try.prog Try.f8 false true false false) := by
  refine returnsInHanded_of_change (C := Try.checked) BCBack.own started (by kernel_rfl) Try.func8
    (ChangeSpec.witness6 (enc := enc) (C := Try.checked) false ⟨#[], #[.int .i64 0, .slice none 0 0], []⟩ 8 (by kernel_rfl) (by kernel_rfl) (by kernel_rfl) (by kernel_rfl)) ?_
  intro W base args ds gs before hval0 hW hcnd _
  have hval : ∀ (j : Nat) t v, Try.f8.params[j]? = some t → args[j]? = some v → Value.okWide Try.prog W .any base t v := hval0
  have hW' := hW
  obtain ⟨p, q, hA0, hV, rfl, hfz, hnd⟩ := hW
  have hA : DataW.TrodAll enc Try.prog W 0 (fun _ => true) true Try.f8.params.toList args.toList ds p := hA0
  rw [Try.params8] at hA hval
  obtain ⟨v0, vs0, d0, ds0, p0, q0, hargs, rfl, rfl, h0, r0⟩ := trodAll_cons hA
  obtain ⟨v1, vs1, d1, ds1, p1, q1, rfl, rfl, rfl, h1, r1⟩ := trodAll_cons r0
  obtain ⟨rfl, rfl, rfl⟩ := trodAll_nil r1
  obtain rfl : args = #[v0, v1] := by cases args; simp_all
  obtain ⟨rfl, rfl⟩ := trodVars_none hV
  obtain ⟨a0, rfl, rfl, rfl, w0⟩ := open_int Try.underlying3 (hval 0 3 v0 rfl rfl) h0
  obtain ⟨a1, len1, cap1, rfl⟩ := okWide_slice Try.underlying22 (hval 1 22 v1 rfl rfl)
  have k1 := h1
  have lt1 : ∀ x ∈ p1, x.block < W.heap.size := by obtain ⟨m, hm⟩ := k1; exact DataW.trod_lt m _ _ _ hm
  obtain ⟨ss, hss⟩ : ∃ ss, Came W a1 len1 cap1 ss := by
    obtain ⟨fuel, hf⟩ := h1
    rcases open_strings Try.underlying22 Try.underlying9 (by kernel_rfl) hf with ⟨hcs, _⟩ | ⟨x, l, c, ss, hcs, _, hl, hm, hz, _, hcell, hws⟩
    · simp [Value.cells] at hcs
      obtain ⟨rfl, rfl, rfl⟩ := hcs
      exact ⟨[], Or.inl ⟨rfl, rfl, rfl, rfl⟩⟩
    · simp [Value.cells] at hcs
      obtain ⟨rfl, rfl, rfl⟩ := hcs
      exact ⟨ss, Or.inr ⟨_, rfl, hl, hm, by simpa using hz, hcell, hws⟩⟩
  clear hA0 hval0
  refine (back_any a0 a1 len1 cap1 ss W hss).mono fun e W' ⟨he, bel⟩ => ?_
  subst he
  exact ⟨_, rfl, _, _, _, [], _, [], hW', trodAll_mk1 (shut_bool Try.underlying4 _), (trodAll_cons_mk (shut_int Try.underlying3 w0) (trodAll_cons_mk (Below.trod BCBack.laidOut (by kernel_rfl) (of_decide_eq_true (by kernel_rfl)) k1 bel lt1) trodAll_mk0)), rfl, bel.frame _, fun h => by cases h⟩

theorem BddBack_holds : Rows.BddBackSaid :=
  OpenClaim.holds_of_wide 8 Try.f8 rfl rfl rfl rfl rfl rfl rfl ⟨rfl, rfl, rfl, rfl, rfl⟩ rfl rfl rfl rfl rfl (by kernel_rfl) Try.func8 (by kernel_rfl)
    (of_decide_eq_true (by kernel_rfl)) (by unfold Func.isWrapper; first | (rw [if_pos (by decide +kernel)]; kernel_rfl) | (rw [if_neg (by decide +kernel)]; exact ⟨rfl, rfl⟩))
    (fun os started H enc _ => BCBack.lifted os started H enc)
#print axioms BddBack_holds
end Go.Proofs.Ytffngpdngjfcfaa
