/-
  The example: two cubes, and what they have in common.
-/
import Derived.Test.YtffngpdngjfcfaaBWake
import Derived.Test.YtffngpdngjfcfaaBList
import Derived.Test.YtffngpdngjfcfaaBTCubeA
import Derived.Test.YtffngpdngjfcfaaBAnd
namespace Go.Proofs.Ytffngpdngjfcfaa
open Go.RowKit Go.Maps
open Bd (Nd)

theorem node_old {s : St} {r n : Nat} (h : s.node? r = some n) (L : List Nd) (t : List Nat) : ({ s with L := L, roots := s.roots ++ t } : St).node? r = some n := by
  unfold St.node? at h ⊢
  by_cases h1 : r < 2
  · rw [if_pos h1] at h ⊢; exact h
  · rw [if_neg h1] at h ⊢
    by_cases h2 : s.first ≤ r
    · rw [if_pos h2] at h
      show (if s.first ≤ r then (s.roots ++ t)[r - s.first]? else none) = some n
      rw [if_pos h2, List.getElem?_append_left (Bd.getElem?_lt h)]
      exact h
    · rw [if_neg h2] at h; cases h

theorem mux_pr (k : Nat) : Bd.mux k Bd.ff Bd.tt = Bd.pr k := by
  funext h
  show (if h k then true else false) = h k
  cases h k <;> rfl

/-- What a call on a table that lies behind B leaves ahead of B. -/
theorem moves_out {B : Nat} {w0 w w' : World} {y y' : Lay} (hb : Below B w0 w) (hB : B ≤ w.heap.size) (hy : ∀ k, y.own k → B ≤ k) (hm : Moves noX w y w' y') : Below B w0 w' ∧ ∀ k, y'.own k → B ≤ k := by
  refine ⟨⟨hm.os.trans hb.os, hm.tape.trans hb.tape, hm.output.trans hb.output, Nat.le_trans hb.size hm.size, fun k hk => ?_⟩, fun k hk => ?_⟩
  · rw [hm.block k (by omega) (fun h => by have := hy k h; omega) (fun h => h)]
    exact hb.block k hk
  · rcases hm.own k hk with h | h
    · exact hy k h
    · omega

theorem refs_two (w : World) (r0 r1 : Nat) : RefsAt (w.alloc (.cells #[i6 r0, i6 r1] 25)) (.slice (some ⟨w.heap.size, 0, none⟩) 2 2) [r0, r1] := by
  refine ⟨_, 2, rfl, fun i q hi => ?_⟩
  match i, hi with
  | 0, hi => simp at hi; subst hi; exact ⟨w.heap.size, 0, rfl, by simp, by rw [cell_at (heap_alloc_new w _)]; rfl⟩
  | 1, hi => simp at hi; subst hi; exact ⟨w.heap.size, 0, rfl, by simp, by rw [cell_at (heap_alloc_new w _)]; rfl⟩
  | (i + 2), hi => simp at hi

/-- The table of the example, after one call, two and three. -/
structure Wakes (B : Nat) (w0 w : World) (tb : Nat) (L : List Nd) (n : Nat) (rs : List (Nat × Nat)) : Prop where
  ex : ∃ y t, y.tb = tb ∧ Tab w y ⟨L, t, 2, 2, 10⟩ ∧ t.length ≤ n ∧ (∀ p, p ∈ rs → St.node? ⟨L, t, 2, 2, 10⟩ p.1 = some p.2) ∧ Below B w0 w ∧ (∀ k, y.own k → B ≤ k) ∧ B ≤ w.heap.size

set_option maxHeartbeats 1000000 in
theorem wake_one {B : Nat} {w0 w : World} {tb : Nat} (h : Wakes B w0 w tb [] 0 []) : Calls Try.prog 25 #[.pointer (some ⟨tb, 0, none⟩), .string ⟨#[49, 120]⟩] w fun e w' => ∃ r, e = .returned (.tuple #[i6 r, .int .i64 0]) ∧ Wakes B w0 w' tb [(0, 0, 1)] 1 [(r, 2)] := by
  obtain ⟨y, t, rfl, hT, hl, hr, hb, hy, hB⟩ := h.ex
  refine (Cube_ok (s := ⟨[], t, 2, 2, 10⟩) Bd.A1 hT (Bd.within_nil _) (Nat.le_refl _) (by show t.length + 1 ≤ _; omega) (by show 2 * 5 ≤ 10; omega) ⟨#[49, 120]⟩ rfl (by decide) (by rw [suf_1x]; exact Or.inl ⟨rfl, List.mem_cons_self⟩)).mono ?_
  rintro e w' ⟨r, rfl, ⟨N, t', y', m, hT', hW', hn, hm, hd, hmv, ht⟩⟩
  rw [suf_1x] at hd
  obtain ⟨hN, rfl⟩ := Bd.one_node hT'.okay hW' hm hd
  have hN' : N = [(0, 0, 1)] := hN
  subst hN'
  obtain ⟨hb', hy'⟩ := moves_out hb hB hy hmv
  refine ⟨r, rfl, y', t ++ t', hmv.tb, hT', by rw [List.length_append]; have := ht.few; omega, ?_, hb', hy', Nat.le_trans hB hmv.size⟩
  intro p hp
  simp at hp
  subst hp
  exact hn

set_option maxHeartbeats 1000000 in
theorem wake_two {B : Nat} {w0 w : World} {tb r0 : Nat} (h : Wakes B w0 w tb [(0, 0, 1)] 1 [(r0, 2)]) : Calls Try.prog 25 #[.pointer (some ⟨tb, 0, none⟩), .string ⟨#[120, 49]⟩] w fun e w' => ∃ r, e = .returned (.tuple #[i6 r, .int .i64 0]) ∧ Wakes B w0 w' tb [(0, 0, 1), (1, 0, 1)] 2 [(r0, 2), (r, 3)] := by
  obtain ⟨y, t, rfl, hT, hl, hr, hb, hy, hB⟩ := h.ex
  have hW : Bd.Within Bd.A2 [(0, 0, 1)] := by
    have := (Bd.within_nil Bd.A2).snoc (x := (0, 0, 1)) (Or.inl ⟨rfl, List.mem_cons.2 (Or.inl (mux_pr 0))⟩)
    exact this
  refine (Cube_ok (s := ⟨[(0, 0, 1)], t, 2, 2, 10⟩) Bd.A2 hT hW (Nat.le_refl _) (by show t.length + 1 ≤ _; omega) (by show 2 * 5 ≤ 10; omega) ⟨#[120, 49]⟩ rfl (by decide) (by rw [suf_x1]; exact Or.inl ⟨rfl, List.mem_cons_of_mem _ List.mem_cons_self⟩)).mono ?_
  rintro e w' ⟨r, rfl, ⟨N, t', y', m, hT', hW', hn, hm, hd, hmv, ht⟩⟩
  rw [suf_x1] at hd
  obtain ⟨rfl, rfl⟩ := Bd.two_nodes hT'.okay hW' hm hd
  obtain ⟨hb', hy'⟩ := moves_out hb hB hy hmv
  refine ⟨r, rfl, y', t ++ t', hmv.tb, hT', by rw [List.length_append]; have := ht.few; omega, ?_, hb', hy', Nat.le_trans hB hmv.size⟩
  intro p hp
  simp at hp
  rcases hp with rfl | rfl
  · exact node_old (hr (r0, 2) List.mem_cons_self) _ t'
  · exact hn

set_option maxHeartbeats 1000000 in
theorem wake_three {B : Nat} {w0 w : World} {tb r0 r1 : Nat} (h : Wakes B w0 w tb [(0, 0, 1), (1, 0, 1)] 2 [(r0, 2), (r1, 3)]) (v : Value) (hR : RefsAt w v [r0, r1]) : Calls Try.prog 21 #[.pointer (some ⟨tb, 0, none⟩), v] w fun e w' => ∃ r, e = .returned (.tuple #[i6 r, .int .i64 0]) ∧ Wakes B w0 w' tb [(0, 0, 1), (1, 0, 1), (0, 0, 3)] 3 [(r, 4)] := by
  obtain ⟨y, t, rfl, hT, hl, hr, hb, hy, hB⟩ := h.ex
  have hW : Bd.Within Bd.A3 [(0, 0, 1), (1, 0, 1)] := by
    have h1 := (Bd.within_nil Bd.A3).snoc (x := (0, 0, 1)) (Or.inl ⟨rfl, List.mem_cons.2 (Or.inl (mux_pr 0))⟩)
    have h2 := h1.snoc (x := (1, 0, 1)) (Or.inr (Or.inl ⟨rfl, List.mem_cons.2 (Or.inl (mux_pr 1))⟩))
    exact h2
  have d0 : Bd.den [(0, 0, 1), (1, 0, 1)] 2 = Bd.pr 0 := by
    funext h
    show (if h 0 then true else false) = h 0
    cases h 0 <;> rfl
  have d1 : Bd.den [(0, 0, 1), (1, 0, 1)] 3 = Bd.pr 1 := by
    funext h
    show (if h 1 then true else false) = h 1
    cases h 1 <;> rfl
  have hf : Bd.iteF (Bd.den [(0, 0, 1), (1, 0, 1)] 2) (Bd.den [(0, 0, 1), (1, 0, 1)] 3) Bd.ff = Bd.p01 := by rw [d0, d1, and_p01]
  refine (And_two (s := ⟨[(0, 0, 1), (1, 0, 1)], t, 2, 2, 10⟩) Bd.A3 hT hW (Nat.le_refl _) (by show t.length + 1 ≤ _; omega) (by show 2 * 5 ≤ 10; omega) v r0 r1 2 3 hR (hr (r0, 2) List.mem_cons_self) (hr (r1, 3) (List.mem_cons_of_mem _ List.mem_cons_self)) (by show 2 < 4; omega) (by show 3 < 4; omega) (by show Bd.A3.F 0 (Bd.iteF (Bd.den [(0, 0, 1), (1, 0, 1)] 2) (Bd.den [(0, 0, 1), (1, 0, 1)] 3) Bd.ff); rw [hf]; exact Or.inl ⟨rfl, List.mem_cons_of_mem _ List.mem_cons_self⟩)).mono ?_
  rintro e w' ⟨r, rfl, ⟨N, t', y', m, hT', hW', hn, hm, hd, hmv, ht⟩⟩
  have hd' := hd.trans hf
  obtain ⟨rfl, rfl⟩ := Bd.three_nodes hT'.okay hW' hm hd'
  obtain ⟨hb', hy'⟩ := moves_out hb hB hy hmv
  refine ⟨r, rfl, y', t ++ t', hmv.tb, hT', by rw [List.length_append]; have := ht.few; omega, ?_, hb', hy', Nat.le_trans hB hmv.size⟩
  intro p hp
  simp at hp
  subst hp
  exact hn

theorem Wakes.below {B : Nat} {w0 w w' : World} {tb n : Nat} {L : List Nd} {rs : List (Nat × Nat)} (h : Wakes B w0 w tb L n rs) (hb : Below w.heap.size w w') : Wakes B w0 w' tb L n rs := by
  obtain ⟨y, t, e, hT, hl, hr, hb0, hy, hB⟩ := h.ex
  exact ⟨y, t, e, hT.below hb, hl, hr, hb0.trans (hb.mono hB), hy, Nat.le_trans hB hb.size⟩

theorem list_four : listOf [(0, 0, 1), (1, 0, 1), (0, 0, 3)] 4 = [(1, 0, 1), (0, 0, 2)] := by decide

set_option maxHeartbeats 1000000 in
theorem wake_list {B : Nat} {w0 w : World} {tb r : Nat} (h : Wakes B w0 w tb [(0, 0, 1), (1, 0, 1), (0, 0, 3)] 3 [(r, 4)]) :
    Calls Try.prog 27 #[.pointer (some ⟨tb, 0, none⟩), i6 r] w fun e w' => ∃ v, e = .returned (.tuple #[v, .int .i64 0]) ∧ NodesIn w' v [(1, 0, 1), (0, 0, 2)] ∧ Wakes B w0 w' tb [(0, 0, 1), (1, 0, 1), (0, 0, 3)] 3 [(r, 4)] := by
  have h0 := h
  obtain ⟨y, t, rfl, hT, hl, hr, hb, hy, hB⟩ := h.ex
  refine (List_ok hT (Nat.le_refl _) r 4 (hr (r, 4) List.mem_cons_self) (by show 4 < 5; omega)).mono ?_
  rintro e w' ⟨v, rfl, ho, hb'⟩
  rw [list_four] at ho
  exact ⟨v, rfl, nodesIn_of ho (by decide), h0.below hb'⟩
theorem wake_size {B : Nat} {w0 w : World} {tb r : Nat} (h : Wakes B w0 w tb [(0, 0, 1), (1, 0, 1), (0, 0, 3)] 3 [(r, 4)]) :
    Calls Try.prog 30 #[.pointer (some ⟨tb, 0, none⟩)] w fun e w' => e = .returned (.int .i64 3) ∧ w' = w := by
  obtain ⟨y, t, rfl, hT, hl, hr, hb, hy, hB⟩ := h.ex
  exact Size_ok hT
theorem wake_new (w : World) : Calls Try.prog 13 #[.int .i64 2, .int .i64 10] w fun e w' => ∃ tb, e = .returned (.tuple #[.pointer (some ⟨tb, 0, none⟩), .int .i64 0]) ∧ Wakes w.heap.size w w' tb [] 0 [] := by
  refine (New_ok w 2 10 (by omega) (by omega) (by omega)).mono ?_
  rintro e w' ⟨y, rfl, hT, hb, hy⟩
  exact ⟨y.tb, rfl, y, [], rfl, hT, Nat.le_refl _, fun p hp => by simp at hp, hb, hy, hb.size⟩
theorem nodes_lit (w : World) : NodesIn (w.alloc (.cells #[.int .i64 1, .int .i64 0, .int .i64 1, .int .i64 0, .int .i64 0, .int .i64 2] 82)) (.slice (some ⟨w.heap.size, 0, none⟩) 2 2) [(1, 0, 1), (0, 0, 2)] := by
  refine ⟨_, 2, rfl, fun i x hi => ?_⟩
  match i, hi with
  | 0, hi => simp at hi; subst hi; exact ⟨by rw [cell_at (heap_alloc_new w _)]; rfl, by rw [cell_at (heap_alloc_new w _)]; rfl, by rw [cell_at (heap_alloc_new w _)]; rfl⟩
  | 1, hi => simp at hi; subst hi; exact ⟨by rw [cell_at (heap_alloc_new w _)]; rfl, by rw [cell_at (heap_alloc_new w _)]; rfl, by rw [cell_at (heap_alloc_new w _)]; rfl⟩
  | (i + 2), hi => simp at hi

theorem NodesIn.below {w w' : World} {v : Value} {L : List Nd} (h : NodesIn w v L) (hb : Below w.heap.size w w') : NodesIn w' v L := by
  obtain ⟨g, cap, e, hc⟩ := h
  refine ⟨g, cap, e, fun i x hi => ?_⟩
  obtain ⟨a, b, c⟩ := hc i x hi
  have hg : g < w.heap.size := World.block_lt_of_cell? w _ a
  exact ⟨by rw [hb.cell hg]; exact a, by rw [hb.cell hg]; exact b, by rw [hb.cell hg]; exact c⟩

set_option maxRecDepth 4000 in
set_option maxHeartbeats 2000000 in
theorem awake_any (w : World) : Calls Try.prog 17 #[] w fun e w' => e = .returned (.bool true) ∧ Below w.heap.size w w' := by
  go_enter Try.func17, Try.ntmps17
  go_wp2_with fail
  refine (wake_new w).mono ?_
  rintro e w1 ⟨tb, rfl, h1⟩
  have H1 := keep h1
  clear h1
  go_wp2_with fail
  refine (wake_one H1.out).mono ?_
  rintro e w2 ⟨r0, rfl, h2⟩
  have H2 := keep h2
  clear h2 H1
  go_wp2_with fail
  refine (wake_two H2.out).mono ?_
  rintro e w3 ⟨r1, rfl, h3⟩
  have H3 := keep h3
  clear h3 H2
  go_wp2_with fail
  refine (wake_three (H3.out.below ((Below.refl _ _).alloc (Nat.le_refl _) _)) _ (refs_two w3 r0 r1)).mono ?_
  rintro e w4 ⟨r, rfl, h4⟩
  have H4 := keep h4
  clear h4 H3
  go_wp2_with fail
  refine (wake_list H4.out).mono ?_
  rintro e w5 ⟨v, rfl, hv, h5⟩
  have HV := keep hv
  have H5 := keep h5
  clear hv h5 H4
  go_wp2_with fail
  refine (SameList_eq _ _ _ _ (by decide) (HV.out.below ((Below.refl _ _).alloc (Nat.le_refl _) _)) (nodes_lit w5)).mono ?_
  rintro e w6 ⟨rfl, h6⟩
  have H6 := keep (H5.out.below (((Below.refl _ _).alloc (Nat.le_refl _) _).trans (h6.mono (by simp))))
  clear h6 HV H5
  go_wp2_with fail
  refine (wake_size H6.out).mono ?_
  rintro e w7 ⟨rfl, rfl⟩
  go_wp2
  go_ret
  obtain ⟨y, t, e, hT, hl, hr, hb, hy, hB⟩ := H6.out.ex
  exact ⟨rfl, hb⟩
end Go.Proofs.Ytffngpdngjfcfaa
