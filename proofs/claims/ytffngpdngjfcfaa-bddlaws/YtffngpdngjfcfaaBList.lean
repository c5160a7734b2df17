/-
  root, List, Size of a ref that is told; two lists that are the same.
-/
import Derived.Test.YtffngpdngjfcfaaBOrd
namespace Go.Proofs.Ytffngpdngjfcfaa
open Go.RowKit Go.Maps
open Bd (Nd)

theorem refs_one (w : World) (r : Nat) : RefsAt (w.alloc (.cells #[i6 r] 25)) (.slice (some ⟨w.heap.size, 0, none⟩) 1 1) [r] := by
  refine ⟨_, 1, rfl, fun i q hi => ?_⟩
  have : i = 0 := by have := Bd.getElem?_lt hi; simp at this; exact this
  subst this
  simp at hi
  subst hi
  exact ⟨w.heap.size, 0, rfl, by simp, by rw [cell_at (heap_alloc_new w _)]; rfl⟩

set_option maxHeartbeats 1000000 in
theorem root_ok {w : World} {y : Lay} {s : St} (hT : Tab w y s) (h2 : 2 ≤ s.first) (r n : Nat) (hn : s.node? r = some n) :
    Calls Try.prog 41 #[.pointer (some ⟨y.tb, 0, none⟩), i6 r] w fun e w' => e = .returned (.tuple #[i6 n, .int .i64 0]) ∧ Below w.heap.size w w' := by
  have HT := keep hT
  have q1 := made_ok hT
  have q2 := find_ok (hT.below ((Below.refl _ _).alloc (Nat.le_refl _) (.cells #[i6 r] 25))) h2 _ [r] [n] (refs_one w r) (by simp) ⟨rfl, fun i q hi => by
    have : i = 0 := by have := Bd.getElem?_lt hi; simp at this; exact this
    subst this
    simp at hi
    subst hi
    exact ⟨n, rfl, hn⟩⟩
  clear hT hn
  go_enter Try.func41, Try.ntmps41
  go_wp2_with (go_at_call 57; refine q1.mono ?_; rintro e w' ⟨rfl, rfl⟩)
  refine q2.mono ?_
  clear q2
  rintro e w1 ⟨rfl, ⟨cs, hcs, hsz, hc⟩, hb⟩
  have c0 : w1.cell? ⟨w'.heap.size + 1, 0, none⟩ = some (i6 n) := by
    have := hc 0 n rfl
    have e1 : (w'.alloc (.cells #[i6 r] 25)).heap.size = w'.heap.size + 1 := by simp
    rw [e1] at hcs
    rw [cell_at hcs]; exact this
  have HB := keep (((Below.refl _ _).alloc (Nat.le_refl _) _).trans (hb.mono (by simp)) : Below w'.heap.size w' w1)
  clear hc hcs hsz hb q1
  go_wp2
  go_ret2
  exact ⟨rfl, HB.out⟩

/-- The list of a node. -/
def listOf (L : List Nd) (n : Nat) : List Nd := (vis L 2 (n + 1) n []).map (rn L (vis L 2 (n + 1) n []) 2)

set_option maxRecDepth 4000 in
set_option maxHeartbeats 1000000 in
theorem List_ok {w : World} {y : Lay} {s : St} (hT : Tab w y s) (h2 : 2 ≤ s.first) (r n : Nat) (hn : s.node? r = some n) (hnl : n < s.L.length + 2) :
    Calls Try.prog 27 #[.pointer (some ⟨y.tb, 0, none⟩), i6 r] w fun e w' => ∃ v, e = .returned (.tuple #[v, .int .i64 0]) ∧ w'.ownsRow 0 82 3 v (listOf s.L n).length (flat (listOf s.L n)) ∧ Below w.heap.size w w' := by
  have HT := keep hT
  have q1 := root_ok hT h2 r n hn
  clear hT hn
  go_enter Try.func27, Try.ntmps27
  go_wp2_with fail
  refine q1.mono ?_
  clear q1
  rintro e w1 ⟨rfl, hb1⟩
  have HB1 := keep hb1
  have HT1 := keep (HT.out.below hb1)
  have c3 : w1.cell? ⟨y.tb, 3, none⟩ = some y.ls := by rw [cell_at HT1.out.cells]; rfl
  obtain ⟨ao, cap, hls⟩ := HT1.out.list_slice
  rw [hls] at c3
  clear hb1
  go_wp2_with fail
  refine (orderOf_one (lv := .slice ao s.L.length cap) (L := s.L) (by rw [← hls]; exact HT1.out.list.alloc _) HT.out.okay.falls HT.out.small.1 n w1.heap.size 1 hnl (by simp) (by rw [cell_at (heap_alloc_new w1 _)]; rfl)).mono ?_
  rintro e w2 ⟨ob, pb, rfl, hO, hb2⟩
  have HB2 := keep (((Below.refl _ _).alloc (Nat.le_refl _) _).trans (hb2.mono (by simp)) : Below w1.heap.size w1 w2)
  have HO := keep hO
  clear hb2 hO
  have hnd := vis_nodup s.L 2 HT.out.okay.falls (by omega) (n + 1) n [] hnl (by simp)
  have hvl := vis_lt s.L 2 HT.out.okay.falls (by omega) (n + 1) n [] hnl (by simp)
  have hlen : (vis s.L 2 (n + 1) n []).length ≤ 1073741826 := by
    have h1 : (vis s.L 2 (n + 1) n []).length ≤ s.L.length + 2 := by
      have := List.Nodup.length_le_of_subset (l₂ := List.range (s.L.length + 2)) hnd (fun m hm => List.mem_range.2 (hvl m hm).2)
      simpa using this
    have := HT.out.small.1
    omega
  go_wp2_with fail
  refine (nodes_any HO.out hnd hvl (by omega) HT.out.okay.falls HT.out.small.1 (by omega) hlen).mono ?_
  rintro e w3 ⟨rfl, hown, hb3⟩
  have HOWN := keep hown
  clear hown hnd hvl
  go_wp2
  go_ret2
  refine ⟨.slice (some ⟨w2.heap.size, 0, none⟩) (vis s.L 2 (n + 1) n []).length (vis s.L 2 (n + 1) n []).length, rfl, ?_, HB1.out.trans ((HB2.out.trans (hb3.mono HB2.out.size)).mono HB1.out.size)⟩
  rw [show (listOf s.L n).length = (vis s.L 2 (n + 1) n []).length by unfold listOf; rw [List.length_map]]
  exact HOWN.out

set_option maxHeartbeats 400000 in
theorem Size_ok {w : World} {y : Lay} {s : St} (hT : Tab w y s) : Calls Try.prog 30 #[.pointer (some ⟨y.tb, 0, none⟩)] w fun e w' => e = .returned (.int .i64 s.L.length) ∧ w' = w := by
  have c3 : w.cell? ⟨y.tb, 3, none⟩ = some y.ls := by rw [cell_at hT.cells]; rfl
  obtain ⟨ao, cap, hls⟩ := hT.list_slice
  rw [hls] at c3
  have q1 := made_ok hT
  clear hT hls
  go_enter Try.func30, Try.ntmps30
  go_wp2_with (go_at_call 57; refine q1.mono ?_; rintro e w' ⟨rfl, rfl⟩)
  go_ret
  exact ⟨rfl, rfl⟩

/-- Nodes in cells that a walk can load. -/
def NodesIn (w : World) (v : Value) (L : List Nd) : Prop := ∃ g cap, v = .slice (some ⟨g, 0, none⟩) L.length cap ∧ ∀ (i : Nat) (x : Nd), L[i]? = some x → w.cell? ⟨g, i * 3, none⟩ = some (i6 x.1) ∧ w.cell? ⟨g, i * 3 + 1, none⟩ = some (i6 x.2.1) ∧ w.cell? ⟨g, i * 3 + 2, none⟩ = some (i6 x.2.2)
theorem nodesIn_of {w : World} {v : Value} {L : List Nd} (h : w.ownsRow 0 82 3 v L.length (flat L)) (h0 : 0 < L.length) : NodesIn w v L := by
  obtain ⟨g, cap, rfl, _, _⟩ := h.form h0
  refine ⟨g, cap, rfl, fun i x hi => ?_⟩
  have hadd : ∀ j, (⟨g, 0, none⟩ : Addr).add j = ⟨g, j, none⟩ := by intro j; unfold Addr.add; split <;> simp_all
  obtain ⟨f0, f1, f2⟩ := flat_at hi
  have hc := h.cells (g := g) rfl
  have d0 := hc _ _ f0
  have d1 := hc _ _ f1
  have d2 := hc _ _ f2
  rw [hadd] at d0 d1 d2
  exact ⟨d0, d1, d2⟩

set_option maxHeartbeats 1000000 in
theorem SameList_eq (v1 v2 : Value) (L : List Nd) (w : World) (hL : L.length ≤ 1073741826) (h1 : NodesIn w v1 L) (h2 : NodesIn w v2 L) :
    Calls Try.prog 29 #[v1, v2] w fun e w' => e = .returned (.bool true) ∧ Below w.heap.size w w' := by
  obtain ⟨g, c, rfl, hg⟩ := h1
  obtain ⟨g', c', rfl, hg'⟩ := h2
  have HG := keep hg
  have HG' := keep hg'
  clear hg hg'
  obtain ⟨n, hn⟩ : ∃ n, n = L.length := ⟨_, rfl⟩
  have HN := keep hn
  rw [← hn] at hL ⊢
  clear hn
  have hnb : ((n : Int) != (n : Int)) = false := by simp
  go_enter Try.func29, Try.ntmps29
  go_wp2
  clear hnb
  go_loopw [5] (fun i wr => ∃ k : Nat, k ≤ n ∧ i = .int .i64 k ∧ Hid (∃ m, wr = w.drewN m)) (fun i _ => n - (intOf i).toNat)
  case atStart => exact ⟨0, Nat.zero_le _, rfl, 0, rfl⟩
  case round =>
    obtain ⟨k, hk, rfl, HW⟩ := hrel
    obtain ⟨m0, rfl⟩ := HW.out
    by_cases hlt : k < n
    · obtain ⟨x, hx⟩ : ∃ x, L[k]? = some x := ⟨_, List.getElem?_eq_getElem (by rw [← HN.out]; exact hlt)⟩
      obtain ⟨p0, p1, p2⟩ := HG.out k x hx
      obtain ⟨r0, r1, r2⟩ := HG'.out k x hx
      clear hx
      have hkI : (0 : Int) ≤ (k : Int) := by omega
      have hkI2 : (k : Int) < (n : Int) := by omega
      go_wp2
      go_quiet (fail)
      go_wp2
      go_roundw
      case rel => exact ⟨k + 1, by omega, by go_num, _, rfl⟩
      case measure => simp [intOf]; omega
    · go_wp2
      go_ret
      exact ⟨rfl, (Below.refl _ _).trans ⟨rfl, rfl, rfl, Nat.le_refl _, fun _ _ => rfl⟩⟩
end Go.Proofs.Ytffngpdngjfcfaa
